package moment_test

import (
	"math"
	"testing"

	"storehouse/api"
	"storehouse/moment"
)

// dates asks what Date answers; a test ends at the first wrong answer, for some ask hundreds of thousands.
func dates(t *testing.T, at int, want date, wantError api.Errno) {
	t.Helper()
	year, month, day, e := moment.Date(at)
	if got := (date{year, month, day}); got != want || e != wantError {
		t.Fatalf("Date of %d: %v, %d, not %v, %d", at, got, e, want, wantError)
	}
}

// begins asks what From answers.
func begins(t *testing.T, d date, want int, wantError api.Errno) {
	t.Helper()
	if got, e := moment.From(d.year, d.month, d.day); got != want || e != wantError {
		t.Fatalf("From of %v: %d, %d, not %d, %d", d, got, e, want, wantError)
	}
}

// The chapter's examples.
func TestExamples(t *testing.T) {
	tells(t, moment.Stamp, 1369353600, "20130524T000000Z", api.OK)
	tells(t, moment.Long, 1369353600, "2013-05-24T00:00:00.000Z", api.OK)
	tells(t, moment.Web, 1369353600, "Fri, 24 May 2013 00:00:00 GMT", api.OK)
	dates(t, 951782400, date{2000, 2, 29}, api.OK)
	begins(t, date{2100, 2, 29}, 0, api.ErrArg)
	begins(t, date{1969, 12, 31}, 0, api.ErrArg)
	tells(t, moment.Stamp, -1, "", api.ErrArg)
	tells(t, moment.Stamp, 253402300799, "99991231T235959Z", api.OK)
	reads(t, moment.ReadStamp, "20130230T000000Z", 0, api.ErrDate)
	reads(t, moment.ReadStamp, "20130524T240000Z", 0, api.ErrDate)
	reads(t, moment.ReadWeb, "Thu, 24 May 2013 00:00:00 GMT", 0, api.ErrDate)
}

// P12.1: each day there is, from its first moment to its last: Date tells it, From its beginning, which is also where the last day ends.
func TestEachDay(t *testing.T) {
	end := 0
	for begin, d := range days() {
		dates(t, begin, d, api.OK)
		dates(t, begin+86399, d, api.OK)
		begins(t, d, begin, api.OK)
		end = begin + 86400
	}
	if end-1 != api.MaxTime || api.MaxTime != 253402300799 {
		t.Error("the last moment:", end-1, api.MaxTime)
	}
}

// P12.1: a day's every second is in it.
func TestEachSecond(t *testing.T) {
	for _, d := range []date{{1970, 1, 1}, {2000, 2, 29}, {9999, 12, 31}} {
		begin, _ := moment.From(d.year, d.month, d.day)
		for second := range 86400 {
			dates(t, begin+second, d, api.OK)
		}
	}
}

// P12.1: what is no moment has no date.
func TestDateOfNoMoment(t *testing.T) {
	for _, at := range noMoments() {
		dates(t, at, date{}, api.ErrArg)
	}
}

// P12.1: months end where the calendar says, and centuries are leap years only by four.
func TestMonthEnds(t *testing.T) {
	for year, last := range map[int]int{1970: 28, 1972: 29, 1999: 28, 2000: 29, 2001: 28, 2004: 29, 2100: 28, 2200: 28, 2300: 28, 2400: 29, 3000: 28, 4000: 29, 8000: 29, 9900: 28, 9996: 29, 9999: 28} {
		march, e := moment.From(year, 3, 1)
		if e != api.OK {
			t.Error("March of", year, e)
		}
		begins(t, date{year, 2, last}, march-86400, api.OK)
		begins(t, date{year, 2, last + 1}, 0, api.ErrArg)
	}
	for month, last := range []int{1: 31, 3: 31, 4: 30, 5: 31, 6: 30, 7: 31, 8: 31, 9: 30, 10: 31, 11: 30, 12: 31} {
		if last == 0 {
			continue
		}
		if _, e := moment.From(2023, month, last); e != api.OK {
			t.Error("the last of", month, e)
		}
		begins(t, date{2023, month, last + 1}, 0, api.ErrArg)
	}
}

// P12.1: From refuses a year, a month or a day beyond its bounds, however far, and whatever the others are.
func TestFromRefuses(t *testing.T) {
	far := []int{math.MinInt, math.MinInt + 1, math.MinInt32, -1970, -100, -12, -1, 0, 100, 256, 1 << 16, math.MaxInt32, math.MaxInt - 1, math.MaxInt}
	for _, n := range far {
		begins(t, date{n, 1, 1}, 0, api.ErrArg)
		begins(t, date{2000, n, 1}, 0, api.ErrArg)
		begins(t, date{2000, 2, n}, 0, api.ErrArg)
		begins(t, date{2000, 12, n}, 0, api.ErrArg)
		for _, m := range far {
			begins(t, date{n, m, 1}, 0, api.ErrArg)
			begins(t, date{n, 1, m}, 0, api.ErrArg)
			begins(t, date{2000, n, m}, 0, api.ErrArg)
			begins(t, date{n, m, n}, 0, api.ErrArg)
		}
	}
	for _, d := range []date{{1969, 1, 1}, {1969, 12, 31}, {1600, 2, 29}, {10000, 1, 1}, {10000, 2, 29}, {2000, 0, 31}, {2000, 13, 1}, {2000, 14, 28}, {2000, 1, 0}, {2000, 1, 32}, {2000, 3, 0}, {2000, 4, 31}, {2000, 2, 30}, {2000, 2, 31}, {2001, 2, 29}, {9999, 12, 32}} {
		begins(t, d, 0, api.ErrArg)
	}
}

// P12.1: From takes a day just if the calendar has it, of all near the bounds.
func TestFromOfAll(t *testing.T) {
	for _, year := range []int{1968, 1969, 1970, 1972, 2000, 2023, 2100, 9996, 9999, 10000} {
		for month := -2; month <= 15; month++ {
			for day := -2; day <= 34; day++ {
				right := year >= 1970 && year <= 9999 && month >= 1 && month <= 12 && day >= 1 && day <= daysIn(year, max(1, min(month, 12)))
				got, e := moment.From(year, month, day)
				if right != (e == api.OK) || !right && (got != 0 || e != api.ErrArg) {
					t.Error(year, month, day, got, e)
				}
			}
		}
	}
}
