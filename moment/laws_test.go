package moment_test

import (
	"cmp"
	"slices"
	"testing"

	"storehouse/api"
	"storehouse/moment"
)

// P12.4: of each moment what is read of what is told is it: of many, of the first and the last one of each month, of each second of a day.
func TestThereAndBack(t *testing.T) {
	all := someMoments()
	for begin, d := range days() {
		if d.day == 1 {
			all = append(all, begin, max(0, begin-1))
		}
	}
	for second := range 86400 {
		all = append(all, api.MaxTime-second)
	}
	for _, f := range forms() {
		for _, at := range all {
			text, e := f.tell(at)
			if e != api.OK {
				t.Fatal(f.name, at, e)
			}
			reads(t, f.read, text, at, api.OK)
		}
	}
}

// P12.4: From of Date is the beginning of the moment's day.
func TestFromOfDate(t *testing.T) {
	for _, at := range someMoments() {
		year, month, day, e := moment.Date(at)
		if e != api.OK {
			t.Fatal("Date of", at, e)
		}
		begins(t, date{year, month, day}, at-at%86400, api.OK)
	}
}

// P12.4: Stamp and Long rise with the moment.
func TestRise(t *testing.T) {
	all := someMoments()
	for _, at := range slices.Clone(all) {
		all = append(all, min(at+1, api.MaxTime))
	}
	slices.Sort(all)
	all = slices.Compact(all)
	for _, f := range forms()[:2] {
		for i := 1; i < len(all); i++ {
			less, _ := f.tell(all[i-1])
			more, _ := f.tell(all[i])
			if cmp.Compare(less, more) >= 0 {
				t.Fatalf("%s: %d as %q, %d as %q", f.name, all[i-1], less, all[i], more)
			}
		}
	}
}
