package store_test

import (
	"errors"
	"math/rand"
	"strings"
	"testing"

	"storehouse/api"
	"storehouse/disk"
	"storehouse/samples"
	"storehouse/store"
)

// story is Commits that are ahead of one in which the power goes, and that one.
type story struct {
	what  string
	ahead [][]api.Act
	acts  []api.Act
}

// stories is Commits of all kinds, on a disk of 40 sectors.
func stories() []story {
	two := []api.Act{put("a", of("a", 100)), put("b", "stays")}
	full := [][]api.Act{two, {put("b", "1")}} // the journal's next record does not fit
	return []story{
		{"the first one", nil, []api.Act{put("a", "1")}},
		{"two values", nil, two},
		{"nothing", nil, []api.Act{put("a", "")}},
		{"in the place of another", [][]api.Act{two}, []api.Act{put("a", of("n", 130))}},
		{"the same again", [][]api.Act{two}, []api.Act{put("a", of("a", 100))}},
		{"on sectors that were free ahead", [][]api.Act{two, {drop("a")}}, []api.Act{put("c", of("c", 200))}},
		{"drop", [][]api.Act{two}, []api.Act{drop("a")}},
		{"move", [][]api.Act{two}, []api.Act{move("a", "b")}},
		{"there and back", [][]api.Act{two}, []api.Act{move("a", "c"), move("b", "a"), move("c", "b")}},
		{"of all kinds", [][]api.Act{two}, []api.Act{move("a", "c"), put("a", of("n", 130)), drop("b"), put("d", "")}},
		{"laid anew", full, []api.Act{put("a", of("n", 130)), drop("b")}},
		{"laid anew, drop", full, []api.Act{drop("a"), drop("b")}},
		{"laid anew, again", append(full[:2:2], []api.Act{put("a", "2")}, []api.Act{put("a", "3")}), []api.Act{put("c", of("c", 70)), move("c", "b")}},
		{"all of the disk", [][]api.Act{two}, []api.Act{put("c", of("c", 64*27))}},
		{"a value like a record", [][]api.Act{two}, []api.Act{put("c", some(list("a"))+some(at("b", 0)))}},
		{"nothing changes", [][]api.Act{two}, []api.Act{move("a", "a")}},
	}
}

// P5.5: whenever the power goes in a Commit, and whatever is lost, Open finds all as it was ahead of it, or as it is behind it; and the store goes on from there.
func TestPowerGoes(t *testing.T) {
	for _, s := range stories() {
		over := false
		for fuse := 0; !over; fuse++ {
			var pending int
			pending, over = s.cut(t, fuse, nil, 0)
			for _, keep := range samples.Losses(pending) {
				for _, torn := range []int{0, 1, 23, 40, 63, 64} {
					s.cut(t, fuse, keep, torn)
				}
			}
			if fuse > 100 {
				t.Fatal(s.what)
			}
		}
	}
}

// cut tries a story whose Commit has so long a fuse, when this is kept of what is pending; how much was pending, and whether the Commit came to its end.
func (s story) cut(t *testing.T, fuse int, keep []bool, torn int) (int, bool) {
	t.Helper()
	power, d, st := rack(t, 40)
	before := newPlain(40)
	for _, acts := range s.ahead {
		done(t, st, acts...)
		before, _, _ = before.commit(acts)
	}
	after, code, _ := before.commit(s.acts)
	if code != api.OK {
		t.Fatal(s.what, code)
	}
	power.Fuse(fuse)
	err := st.Commit(s.acts...)
	pending, over := d.Pending(), err == nil
	if over == power.Gone() || !over && !errors.Is(err, api.ErrPower) {
		t.Error("answered", err)
	}
	if !over {
		closed(t, st)
	}
	power.On()
	d.Lose(keep, torn)
	again := open(t, d)
	switch got := told(again); {
	case got == after.told():
		goesOn(t, d, again, after)
	case got == before.told() && !over:
		goesOn(t, d, again, before)
	default:
		t.Errorf("found\n%s\nnot\n%s", got, after.told())
	}
	if t.Failed() {
		t.Fatalf("%s, cut at %d, kept %v, torn %d", s.what, fuse, keep, torn)
	}
	return pending, over
}

// goesOn asks that what is done behind Open lasts, whatever stands there from the Commit that was cut.
func goesOn(t *testing.T, d *disk.Disk, s *store.Store, p plain) {
	t.Helper()
	for _, acts := range [][]api.Act{{put("on", of("o", 65))}, {put("a", "again"), put("more", "")}, {drop("a"), move("on", "a")}} {
		after, code, at := p.commit(acts)
		is(t, "going on", s.Commit(acts...), code, at)
		p = after
		if told(s) != p.told() || told(open(t, d)) != p.told() {
			t.Errorf("gone on to\n%s\nand found\n%s\nnot\n%s", told(s), told(open(t, d)), p.told())
		}
	}
}

// P5.5: what a Commit answered lasts without any flush behind it.
func TestWhatIsDoneLasts(t *testing.T) {
	power, d, s := rack(t, 40)
	p := newPlain(40)
	for range 3 {
		for _, story := range stories() {
			after, code, at := p.commit(story.acts)
			is(t, story.what, s.Commit(story.acts...), code, at)
			if p = after; d.Pending() != 0 {
				t.Error(story.what, "pending:", d.Pending())
			}
			power.Cut()
			d.Lose(nil, 0)
			power.On()
			p.agrees(t, d, s)
		}
	}
}

// P5.5: what Open told, behind power that went and came, is there for good, also where nothing was lost till then.
func TestWhatOpenToldLasts(t *testing.T) {
	for fuse := 0; ; fuse++ {
		power, d, s := rack(t, 40)
		done(t, s, put("a", "old"))
		power.Fuse(fuse)
		err := s.Commit(put("a", of("n", 130)), put("b", "1"))
		power.On()
		want := told(open(t, d))
		power.Cut()
		d.Lose(nil, 0)
		power.On()
		if got := told(open(t, d)); got != want {
			t.Fatalf("cut at %d: %s, not %s", fuse, got, want)
		}
		if err == nil {
			break
		}
		if fuse > 100 {
			t.Fatal(err)
		}
	}
}

// P5.5: through many Commits, and power that goes in some of them, nothing is lost, and no half of a Commit is there.
func TestManyCuts(t *testing.T) {
	for seed := range 150 {
		r := rand.New(rand.NewSource(int64(seed)))
		sectors := []int{32, 40, 64}[seed%3]
		power, d, s := rack(t, sectors)
		p := newPlain(sectors)
		for step := range 60 {
			acts := anyActs(r, 200)
			after, code, at := p.commit(acts)
			if r.Intn(2) == 0 {
				power.Fuse(r.Intn(16))
			}
			err := s.Commit(acts...)
			cut := errors.Is(err, api.ErrPower)
			power.On()
			lose(r, d)
			if !cut {
				is(t, "Commit", err, code, at)
				p = after
				p.agrees(t, d, s)
				continue
			}
			s = open(t, d)
			switch got := told(s); got {
			case p.told():
			case after.told():
				p = after
			default:
				t.Fatalf("seed %d, step %d: found\n%s\nnot\n%s\nnor\n%s", seed, step, got, p.told(), after.told())
			}
			p = p.asFound(t, d)
		}
	}
}

// asFound is the store with the journal that is there: a Commit that changes nothing that is told may have reached it, or not.
func (p plain) asFound(t *testing.T, d *disk.Disk) plain {
	p.epoch, p.records = records(t, d, p.from)
	p.left = p.half
	for _, record := range p.records {
		p.left -= wants(record)
	}
	return p
}

// lose lets any of what is pending be lost.
func lose(r *rand.Rand, d *disk.Disk) {
	var keep []bool
	for range d.Pending() {
		keep = append(keep, r.Intn(2) == 0)
	}
	d.Lose(keep, r.Intn(65))
}

// P5.5: a disk that dies in a Commit, or ahead of it: that is answered, and the store is closed; the disk in its place has none.
func TestDiskDies(t *testing.T) {
	_, d, s := rack(t, 40)
	done(t, s, put("a", "1"))
	d.Kill()
	below(t, "Commit", s.Commit(drop("a")), api.ErrDead, 2)
	closed(t, s)
	d.Replace()
	closed(t, s)
	o, err := store.Open(d)
	below(t, "Open", err, api.ErrBlank, 1)
	if o != nil {
		t.Error(o)
	}
	s = format(t, d)
	names(t, s)
	done(t, s, put("b", strings.Repeat("b", 64*30)))
	has(t, open(t, d), "b", strings.Repeat("b", 64*30))
}
