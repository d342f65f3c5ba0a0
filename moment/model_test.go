package moment_test

import (
	"iter"
	"math"
	"math/rand"
	"time"

	"storehouse/api"
	"storehouse/moment"
)

// date is a day as it is told.
type date struct{ year, month, day int }

// daysIn is how many days a month has, by a table.
func daysIn(year, month int) int {
	if month == 2 && year%4 == 0 && (year%100 != 0 || year%400 == 0) {
		return 29
	}
	return []int{31, 28, 31, 30, 31, 30, 31, 31, 30, 31, 30, 31}[month-1]
}

// days are all days that have moments, one behind the other, each with the moment at which it begins.
func days() iter.Seq2[int, date] {
	return func(yield func(int, date) bool) {
		begin := 0
		for year := 1970; year <= 9999; year++ {
			for month := 1; month <= 12; month++ {
				for day := 1; day <= daysIn(year, month); day++ {
					if !yield(begin, date{year, month, day}) {
						return
					}
					begin += 86400
				}
			}
		}
	}
}

// form is one of the three in which a moment is told and read, and how package time writes it.
type form struct {
	name, layout string
	tell         func(int) (string, api.Errno)
	read         func(string) (int, api.Errno)
}

// forms are all three.
func forms() []form {
	return []form{
		{"Stamp", "20060102T150405Z", moment.Stamp, moment.ReadStamp},
		{"Long", "2006-01-02T15:04:05.000Z", moment.Long, moment.ReadLong},
		{"Web", "Mon, 02 Jan 2006 15:04:05 GMT", moment.Web, moment.ReadWeb},
	}
}

// told is how package time tells a moment in the form.
func (f form) told(at int) string { return time.Unix(int64(at), 0).UTC().Format(f.layout) }

// moment is what package time makes of s, if it would tell just s of it. It takes parts of a second, which no moment has.
func (f form) moment(s string) (int, bool) {
	got, err := time.Parse(f.layout, s)
	if err != nil || got.Format(f.layout) != s || got.Nanosecond() != 0 || got.Year() < 1970 {
		return 0, false
	}
	return int(got.Unix()), true
}

// someMoments are the first ones and the last, those at which days and years begin and end, those beside powers of 2, and any.
func someMoments() []int {
	all := []int{0, 1, 59, 60, 61, 599, 600, 3599, 3600, 3601, 35999, 36000, 43199, 43200, 86399, 86400, 86401, 951827696, 1369353600, api.MaxTime - 86400, api.MaxTime - 1, api.MaxTime}
	for begin, d := range days() {
		first, leap := d.day == 1 && (d.month == 1 || d.month == 3), d.month == 2 && d.day == 29
		if first || leap {
			all = append(all, begin, begin+86399)
		}
		if first && begin > 0 {
			all = append(all, begin-1)
		}
	}
	for power := 1; power < api.MaxTime; power *= 2 {
		all = append(all, power-1, power, power+1)
	}
	r := rand.New(rand.NewSource(12))
	for range 20000 {
		all = append(all, r.Intn(api.MaxTime+1))
	}
	return all
}

// noMoments are numbers that are none.
func noMoments() []int {
	return []int{-1, -2, -86400, -86401, -api.MaxTime, math.MinInt32, math.MinInt, math.MinInt + 1, api.MaxTime + 1, api.MaxTime + 2, api.MaxTime + 86400, 2 * api.MaxTime, math.MaxInt - 1, math.MaxInt}
}
