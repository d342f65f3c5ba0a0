package journal_test

import (
	"errors"
	"math/rand"
	"slices"
	"strings"
	"testing"

	"storehouse/api"
	"storehouse/disk"
	"storehouse/journal"
	"storehouse/samples"
)

// The journal of these tests: 14 sectors, from the second one on, of 18.
const (
	crashFrom = 2
	crashSize = 14
)

// rack is a disk, and the power it hangs on.
type rack struct {
	*disk.Disk
	power *disk.Power
}

// newRack is one of 18 sectors.
func newRack(t *testing.T) rack {
	p, d := newDisk(t, 18)
	return rack{d, p}
}

// past is what is done on a rack ahead of a story, and the journal that is there then.
type past func(t *testing.T, r rack) *journal.Journal

// story is what has been done ahead of a call in which the power goes, and the call; behind is the records that it makes of those.
type story struct {
	what   string
	ahead  past
	call   func(j *journal.Journal) error
	behind func(records []string) []string
}

// appends is a story's call.
func appends(what string, ahead past, record string) story {
	return story{what, ahead, func(j *journal.Journal) error { return j.Append(record) },
		func(records []string) []string { return append(slices.Clone(records), record) }}
}

// resets is a story's call.
func resets(what string, ahead past, records ...string) story {
	return story{what, ahead, func(j *journal.Journal) error { return j.Reset(records...) },
		func([]string) []string { return records }}
}

// laid is what is ahead of a story: a journal with these records.
func laid(records ...string) past {
	return func(t *testing.T, r rack) *journal.Journal {
		j := format(t, r.Disk, crashFrom, crashSize)
		for _, record := range records {
			is(t, "Append", j.Append(record), api.OK)
		}
		return j
	}
}

// anew is what is ahead of a story: a journal that has been laid anew so often, with these records in the end.
func anew(times int, records ...string) past {
	return func(t *testing.T, r rack) *journal.Journal {
		j := laid("one", "two", "three", "four")(t, r)
		for range times {
			is(t, "Reset", j.Reset("old", text("old", 1), "old", "old"), api.OK)
		}
		is(t, "Reset", j.Reset(records...), api.OK)
		return j
	}
}

// over is what is ahead of a story, too: bytes that stand somewhere, from the journal's first sector on.
func over(ahead past, at int, bytes string) past {
	return func(t *testing.T, r rack) *journal.Journal {
		ahead(t, r)
		raw(t, r.Disk, crashFrom+at, bytes)
		j, _ := open(t, r.Disk, crashFrom, crashSize)
		return j
	}
}

// ghosts is records of an epoch, of one sector each, numbered from first on.
func ghosts(epoch, first, many int) string {
	all := ""
	for i := range many {
		all += pack(epoch, first+i, "ghost")
	}
	return all
}

// ghost is a record of which a beginning of so many sectors stands there.
func ghost(epoch, number, sectors, stand int) string {
	return pack(epoch, number, text("g", sectors))[:64*stand]
}

// tail is a payload behind whose first sector stands what stands behind the first one of ghost's record.
func tail(sectors int) string { return text("n", 1) + text("g", sectors)[40:] }

// broken is what is ahead of a story: a call in which the power went at the fuse's end, when so many of the pending writes were kept.
func broken(ahead past, fuse, keep int, call func(j *journal.Journal) error) past {
	return func(t *testing.T, r rack) *journal.Journal {
		j := ahead(t, r)
		r.power.Fuse(fuse)
		call(j)
		r.power.On()
		r.Lose(slices.Repeat([]bool{true}, keep), 0)
		j, _ = open(t, r.Disk, crashFrom, crashSize)
		return j
	}
}

// stories is calls of all kinds, ahead of which all kinds of things have been done.
func stories() []story {
	all := []story{
		appends("the first one", laid(), "a"),
		appends("nothing", laid("one"), ""),
		appends("three sectors", laid("one", "two"), text("x", 3)),
		appends("all that is left", laid("one", "two"), text("x", 4)),
		appends("behind old ones", anew(1, "a"), text("x", 2)),
		appends("behind many old ones", anew(2), "a"),
		resets("of none", laid("one", "two")),
		resets("of nothing, to nothing", laid()),
		resets("the other half", laid("one", "two"), "a", "b"),
		resets("the first half again", anew(0, "a"), "b"),
		resets("with old ones behind", anew(1, "a"), "b", text("c", 2)),
		resets("full", anew(1, "a"), "b", text("c", 4), ""),
		resets("full with one", anew(2, "a", "b"), text("c", 6)),

		// What stands behind looks like the next ones.
		appends("ghosts behind", over(laid("one"), 3, ghosts(1, 3, 4)), "a"),
		appends("ghosts behind 2 sectors", over(laid("one"), 4, ghosts(1, 3, 3)), text("a", 2)),
		appends("a great ghost behind", over(laid("one"), 3, ghost(1, 3, 3, 3)), "a"),
		resets("ghosts behind the other half's head", over(laid("one"), 8, ghosts(2, 1, 6))),
		resets("ghosts behind what is reset", over(laid("one"), 8, ghosts(2, 1, 6)), "a", "b"),
		resets("ghosts behind the first half's head", over(anew(0, "a"), 1, ghosts(3, 1, 6)), "b"),

		// What stands there, and is none, would be one with what comes behind it.
		appends("half a ghost", over(laid("one"), 2, ghost(1, 2, 2, 1)), tail(2)),
		appends("half a ghost, and more", over(laid("one"), 2, ghost(1, 2, 2, 1)), tail(2)+text("x", 2)),
		appends("most of a ghost", over(laid("one"), 2, ghost(1, 2, 3, 2)), tail(3)),
		appends("half a ghost behind", over(laid("one"), 3, ghost(1, 3, 2, 1)), "a"),
	}
	resetFour := func(j *journal.Journal) error { return j.Reset("x", "y", "z", "u") }
	appendGhosts := func(j *journal.Journal) error { return j.Append(text("p", 1) + ghosts(1, 3, 3)) }
	for fuse := range 10 {
		for keep := range 6 {
			cutReset := broken(laid("one"), fuse, keep, resetFour)
			all = append(all,
				resets("behind a Reset that was cut", cutReset, "a", "b"),
				resets("of none behind a Reset that was cut", cutReset),
				appends("behind a Reset that was cut", cutReset, "a"),
				appends("behind an Append that was cut", broken(laid("one"), fuse, keep, appendGhosts), "a"))
		}
	}
	return all
}

// P4.4: whenever the power goes in a call, and whatever is lost, Open tells the records as they were ahead of it, or as they are behind it; and the journal goes on from there.
func TestPowerGoes(t *testing.T) {
	for _, s := range stories() {
		done := false
		for fuse := 0; !done; fuse++ {
			var pending int
			pending, done = s.cut(t, fuse, nil, 0)
			for _, keep := range samples.Losses(pending) {
				for _, torn := range []int{0, 1, 2, 8, 20, 24, 30, 63, 64} {
					s.cut(t, fuse, keep, torn)
				}
			}
			if fuse > 100 {
				t.Fatal(s.what)
			}
		}
	}
}

// cut tries a story whose call has so long a fuse, when this is kept of what is pending; how much was pending, and whether the call came to its end.
func (s story) cut(t *testing.T, fuse int, keep []bool, torn int) (int, bool) {
	t.Helper()
	r := newRack(t)
	j := s.ahead(t, r)
	_, before := open(t, r.Disk, crashFrom, crashSize)
	outside := others(r.Disk)
	r.power.Fuse(fuse)
	err := s.call(j)
	pending, done := r.Pending(), err == nil
	if done != !r.power.Gone() || !done && !errors.Is(err, api.ErrPower) {
		t.Error("answered", err)
	}
	r.power.On()
	r.Lose(keep, torn)
	again, records := open(t, r.Disk, crashFrom, crashSize)
	if !slices.Equal(records, s.behind(before)) && (done || !slices.Equal(records, before)) {
		t.Errorf("found %q", records)
	}
	goesOn(t, r.Disk, again, records)
	if others(r.Disk) != outside {
		t.Error("a sector that is not the journal's was written")
	}
	if t.Failed() {
		t.Fatalf("%s, cut at %d, kept %v, torn %d", s.what, fuse, keep, torn)
	}
	return pending, done
}

// others is what lasts of the sectors that are not the journal's.
func others(d *disk.Disk) string {
	image := d.Image()
	return image[:64*crashFrom] + image[64*(crashFrom+crashSize):]
}

// goesOn asks that what is done behind Open lasts, whatever stands there.
func goesOn(t *testing.T, d *disk.Disk, j *journal.Journal, records []string) {
	t.Helper()
	if j.Left() > 0 {
		is(t, "Append", j.Append("on"), api.OK)
		records = append(slices.Clone(records), "on")
		finds(t, d, crashFrom, crashSize, j, records...)
	}
	is(t, "Reset", j.Reset("again"), api.OK)
	finds(t, d, crashFrom, crashSize, j, "again")
}

// P4.4: what Open told, behind power that went and came, is there for good, also where nothing was lost till then.
func TestWhatOpenToldLasts(t *testing.T) {
	for _, call := range []func(j *journal.Journal) error{
		func(j *journal.Journal) error { return j.Append(text("x", 2)) },
		func(j *journal.Journal) error { return j.Reset("x", "y") },
	} {
		for fuse := 0; ; fuse++ {
			r := newRack(t)
			j := laid("one")(t, r)
			r.power.Fuse(fuse)
			err := call(j)
			r.power.On()
			j, records := open(t, r.Disk, crashFrom, crashSize)
			r.power.Cut()
			r.Lose(nil, 0)
			r.power.On()
			finds(t, r.Disk, crashFrom, crashSize, j, records...)
			if err == nil {
				break
			}
			if fuse > 100 || t.Failed() {
				t.Fatal(fuse, err)
			}
		}
	}
}

// P4.1: Open, too, may find that the power goes, where something is pending.
func TestPowerGoesInOpen(t *testing.T) {
	r := newRack(t)
	laid("one")(t, r)
	is(t, "Write", r.Write(0, strings.Repeat("x", 64)), api.OK)
	r.power.Fuse(0)
	j, records, err := journal.Open(r.Disk, crashFrom, crashSize)
	ofDisk(t, "Open", err, api.ErrPower)
	if j != nil || len(records) != 0 {
		t.Error(j, records)
	}
	r.power.On()
	j, _ = open(t, r.Disk, crashFrom, crashSize)
	finds(t, r.Disk, crashFrom, crashSize, j, "one")
}

// P4.2, P4.4: what a call answered lasts without any flush behind it.
func TestWhatIsDoneLasts(t *testing.T) {
	p, d := newDisk(t, 18)
	j := format(t, d, crashFrom, crashSize)
	for _, call := range []struct {
		do   func() error
		want []string
	}{
		{func() error { return nil }, nil},
		{func() error { return j.Append("a") }, []string{"a"}},
		{func() error { return j.Append(text("b", 3)) }, []string{"a", text("b", 3)}},
		{func() error { return j.Reset() }, nil},
		{func() error { return j.Reset("c", "d") }, []string{"c", "d"}},
	} {
		is(t, "call", call.do(), api.OK)
		if d.Pending() != 0 {
			t.Error("pending:", d.Pending())
		}
		p.Cut()
		d.Lose(nil, 0)
		p.On()
		finds(t, d, crashFrom, crashSize, j, call.want...)
	}
}

// P4.4, P4.5: through many calls, and power that goes in some of them, no record is lost, and none comes that was not laid.
func TestManyCuts(t *testing.T) {
	for seed := range 300 {
		r := rand.New(rand.NewSource(int64(seed)))
		p, d := newDisk(t, 18)
		j := format(t, d, crashFrom, crashSize)
		var records []string
		for step := range 60 {
			if r.Intn(2) == 0 {
				p.Fuse(r.Intn(10))
			}
			after, call := anyCall(r, j, records)
			err := call()
			if errors.Is(err, api.ErrFull) {
				after = records
			} else if err != nil {
				ofDisk(t, "cut", err, api.ErrPower)
			}
			p.On()
			lose(r, d)
			again, found := open(t, d, crashFrom, crashSize)
			if !slices.Equal(found, after) && (err == nil || !slices.Equal(found, records)) {
				t.Fatalf("seed %d, step %d: %q, %v, not %q, nor %q", seed, step, found, err, records, after)
			}
			records = found
			if errors.Is(err, api.ErrPower) {
				j = again
			}
			tells(t, j, again.Left(), again.Half(), again.Epoch(), again.Len())
			if t.Failed() {
				t.Fatal(seed, step)
			}
		}
	}
}

// anyCall is a call, and what it makes of the records.
func anyCall(r *rand.Rand, j *journal.Journal, records []string) ([]string, func() error) {
	if r.Intn(3) > 0 {
		record := anyPayload(r, j)
		return append(slices.Clone(records), record), func() error { return j.Append(record) }
	}
	var fresh []string
	for range r.Intn(4) {
		fresh = append(fresh, anyPayload(r, j))
	}
	return fresh, func() error { return j.Reset(fresh...) }
}

// anyPayload is one that may look like records to come behind its first sector.
func anyPayload(r *rand.Rand, j *journal.Journal) string {
	s := strings.Repeat(string(rune('a'+r.Intn(26))), 40)
	for range r.Intn(4) {
		s += pack(j.Epoch()+r.Intn(3), j.Len()+r.Intn(4), "ghost")
	}
	return s[r.Intn(2)*r.Intn(40):]
}

// lose lets any of what is pending be lost.
func lose(r *rand.Rand, d *disk.Disk) {
	var keep []bool
	for range d.Pending() {
		keep = append(keep, r.Intn(2) == 0)
	}
	d.Lose(keep, r.Intn(65))
}
