package eset_test

import (
	"maps"
	"slices"
	"strings"
	"testing"

	"storehouse/api"
	"storehouse/disk"
	"storehouse/eset"
	"storehouse/store"
)

// with is what a disk has, and some more.
func with(names map[string]string, more ...string) map[string]string {
	l := map[string]string{}
	maps.Copy(l, names)
	for i := 0; i < len(more); i += 2 {
		l[more[i]] = more[i+1]
	}
	return l
}

// crafted is a disk of 128 sectors whose store has these values; nil: a disk on which nothing is laid.
func crafted(t *testing.T, p *disk.Power, names map[string]string) *disk.Disk {
	t.Helper()
	d, err := disk.New(p, 128)
	if err != nil {
		t.Fatal(err)
	}
	if names == nil {
		return d
	}
	s, err := store.Format(d)
	if err != nil {
		t.Fatal(err)
	}
	var acts []api.Act
	for _, name := range slices.Sorted(maps.Keys(names)) {
		acts = append(acts, put(name, names[name]))
	}
	for some := range slices.Chunk(acts, api.MaxActs) {
		is(t, "Commit of a store", s.Commit(some...), api.OK, 0)
	}
	return d
}

// all is disks that have these values, each of its own.
func all(t *testing.T, names ...map[string]string) (*disk.Power, []*disk.Disk) {
	t.Helper()
	p := disk.NewPower()
	var d []*disk.Disk
	for _, l := range names {
		d = append(d, crafted(t, p, l))
	}
	return p, d
}

// at is a set of 2 and 1 that has come to a generation.
func at(gen int, changes ...api.Change) plain {
	p := newPlain(2, 1).commit(changes...)
	p.gen = gen
	return p
}

// P10.2: of disks that are as a Commit leaves them the set is told; also one that has come to the greatest generation that a card can tell.
func TestOpen(t *testing.T) {
	for _, gen := range []int{0, 1, 255, 256, 1 << 31, 1<<32 - 2, 1<<32 - 1} {
		p := at(gen, keep("a", "one"), keep("b", ""), keep("c", of("c", 500)))
		_, d := all(t, p.names(0), p.names(1), p.names(2))
		before := d[0].Image()
		s := open(t, d, 2, 1)
		p.agrees(t, d, s)
		if d[0].Image() != before || s.Disks() != 3 {
			t.Error("Open wrote, where nothing is under way")
		}
	}
}

// P10.2, P10.4: a generation beyond the greatest one that a card can tell is never made.
func TestLastGeneration(t *testing.T) {
	p := at(1<<32-2, keep("a", "1"))
	_, d := all(t, p.names(0), p.names(1), p.names(2))
	s := open(t, d, 2, 1)
	done(t, s, keep("a", "2"))
	p = p.commit(keep("a", "2"))
	is(t, "Commit", s.Commit([]api.Change{keep("a", "3")}), api.ErrArg, 0)
	p.agrees(t, d, s)
	p.agrees(t, d, open(t, d, 2, 1))
}

// P10.2: a disk without a store, or without a card of this set and this number, is out.
func TestCardsThatAreNone(t *testing.T) {
	p := at(7, keep("a", "one"))
	card := list("set", u32(2), u32(1), u32(2), u32(7))
	for what, text := range map[string]string{
		"nothing":          "",
		"not sealed":       card,
		"of another name":  seal("n", card),
		"of no name":       seal("", card),
		"another title":    seal("!", list("sets", u32(2), u32(1), u32(2), u32(7))),
		"no title":         seal("!", list("", u32(2), u32(1), u32(2), u32(7))),
		"another k":        cardOf(3, 1, 2, 7),
		"another m":        cardOf(2, 2, 2, 7),
		"k and m":          cardOf(1, 2, 2, 7),
		"number 1":         cardOf(2, 1, 1, 7),
		"number 3":         cardOf(2, 1, 3, 7),
		"no list":          seal("!", "x"),
		"an empty list":    seal("!", list()),
		"an empty text":    seal("!", ""),
		"of four texts":    seal("!", list("set", u32(2), u32(1), u32(2))),
		"of six texts":     seal("!", list("set", u32(2), u32(1), u32(2), u32(7), "")),
		"twice generation": seal("!", list("set", u32(2), u32(1), u32(2), u32(7), u32(7))),
		"a short gen":      seal("!", list("set", u32(2), u32(1), u32(2), "\x07")),
		"a long gen":       seal("!", list("set", u32(2), u32(1), u32(2), "\x00"+u32(7))),
		"a short k":        seal("!", list("set", "\x02", u32(1), u32(2), u32(7))),
		"a byte behind":    cardOf(2, 1, 2, 7) + "x",
	} {
		names := with(p.names(2), "!", text)
		_, d := all(t, p.names(0), p.names(1), names)
		s := open(t, d, 2, 1)
		inside(t, s, "01")
		has(t, s, "a", "one")
		if got := onDisk(t, d[2]); !maps.Equal(got, names) {
			t.Error("what is out was changed:", got)
		}
		_, d = all(t, nil, nil, names)
		o, err := eset.Open(d, 2, 1)
		is(t, "Open", err, api.ErrBlank, 0)
		if t.Failed() || o != nil {
			t.Fatal(what, o)
		}
	}
}

// P10.2: disks whose store can't be opened, or whose card can't be read, are out.
func TestStoresThatAreNone(t *testing.T) {
	p := at(7, keep("a", "one"))
	for what, let := range map[string]func(p *disk.Power, d *disk.Disk) *disk.Disk{
		"dead":     func(p *disk.Power, d *disk.Disk) *disk.Disk { d.Kill(); return d },
		"replaced": func(p *disk.Power, d *disk.Disk) *disk.Disk { d.Replace(); return d },
		"no card":  func(p *disk.Power, d *disk.Disk) *disk.Disk { act(t, d, drop("!")); return d },
		"rotten":   func(p *disk.Power, d *disk.Disk) *disk.Disk { turn(t, d, "!"); return d },
		"small":    func(p *disk.Power, d *disk.Disk) *disk.Disk { d, _ = disk.New(p, 31); return d },
		"journal":  func(p *disk.Power, d *disk.Disk) *disk.Disk { d.Rot(0, 200); d.Rot(16, 200); return d },
		"no store": func(p *disk.Power, d *disk.Disk) *disk.Disk {
			// A record that is none of a directory.
			d, _ = disk.New(p, 128)
			journalOf(t, d, "x")
			return d
		},
	} {
		power, d := all(t, p.names(0), p.names(1), p.names(2))
		d[1] = let(power, d[1])
		s := open(t, d, 2, 1)
		inside(t, s, "02")
		has(t, s, "a", "one")
		if t.Failed() {
			t.Fatal(what)
		}
	}
}

// P10.2: ErrBlank, if all are out.
func TestBlank(t *testing.T) {
	_, d := newDisks(t, 3, 64)
	s, err := eset.Open(d, 2, 1)
	is(t, "Open of nothing", err, api.ErrBlank, 0)
	_, d, _ = rack(t, 2, 1, 64)
	_, shapeErr := eset.Open(d, 1, 2)
	is(t, "Open of another shape", shapeErr, api.ErrBlank, 0)
	_, orderErr := eset.Open([]*disk.Disk{d[1], d[2], d[0]}, 2, 1)
	is(t, "Open in another order", orderErr, api.ErrBlank, 0)
	for i := range d {
		d[i].Kill()
	}
	_, deadErr := eset.Open(d, 2, 1)
	is(t, "Open of dead ones", deadErr, api.ErrBlank, 0)
	if s != nil {
		t.Error("a set beside an error")
	}
}

// P10.2: of each disk, also a dead or a small one, ErrPower, if the power is gone.
func TestOpenWithoutPower(t *testing.T) {
	p, d, _ := rack(t, 2, 1, 64)
	p.Cut()
	s, err := eset.Open(d, 2, 1)
	below(t, "Open", err, api.ErrPower, 1)
	if s != nil {
		t.Error("a set beside an error")
	}
	d[0].Kill()
	_, err = eset.Open(d, 2, 1)
	below(t, "Open, dead", err, api.ErrPower, 1)
	small, _ := disk.New(p, 5)
	_, err = eset.Open([]*disk.Disk{small, d[1], d[2]}, 2, 1)
	below(t, "Open, small", err, api.ErrPower, 1)
	_, err = eset.Open(d, 2, 2)
	is(t, "Open of what may not be", err, api.ErrArg, 0)
	p.On()
	inside(t, open(t, d, 2, 1), "12")
	q, other, _ := rack(t, 2, 1, 64)
	q.Cut()
	_, err = eset.Open([]*disk.Disk{d[0], d[1], other[2]}, 2, 1)
	below(t, "Open, at another power", err, api.ErrPower, 1)
}

// P10.2: what is under way on a disk whose card has the set's generation is dropped, and nothing else is.
func TestUnderWayIsDropped(t *testing.T) {
	p := at(7, keep("a", "one"), keep("b", "two"))
	card, text := cardOf(2, 1, 1, 8), goneOf(8, "b")
	fresh := shardOf(2, 1, 1, "a", "new")
	for what, more := range map[string][]string{
		"all":           {"n", card, "t", text, "sa", fresh, "sc", fresh, "s" + of("k", 200), "x"},
		"the card":      {"n", card},
		"the gone ones": {"t", text},
		"shards":        {"sa", fresh, "sb", "rot"},
		"rot":           {"n", "", "t", "x", "sz", ""},
		"of another":    {"n", cardOf(2, 1, 0, 7), "t", goneOf(99)},
	} {
		// These are not of those names: they stay.
		left := []string{"s", "x", "nn", "x", "ta", "x", "s" + of("k", 201), "x", "N", "x"}
		_, d := all(t, p.names(0), with(p.names(1), slices.Concat(more, left)...), p.names(2))
		s := open(t, d, 2, 1)
		if got, want := onDisk(t, d[1]), with(p.names(1), left...); !maps.Equal(got, want) {
			t.Error(what, got, want)
		}
		p.stands(t, d, 0, 2)
		if told(s) != p.told() {
			t.Error(what, told(s))
		}
		inside(t, s, "012")
	}
}

// P10.2: a disk one generation behind, whose first phase is done, gets the second one.
func TestSecondPhaseIsDone(t *testing.T) {
	was := at(7, keep("a", "one"), keep("b", "two"), keep("c", "three"))
	p := was.commit(keep("a", "new"), gone("b"), keep("d", ""), gone("x"))
	behind := func(i int) map[string]string {
		return with(was.names(i), "n", cardOf(2, 1, i, 8), "t", goneOf(8, "b", "x"), "sa", shardOf(2, 1, i, "a", "new"), "sd", shardOf(2, 1, i, "d", ""))
	}
	for mask := range 7 { // bit i: the disk i is behind
		var names []map[string]string
		for i := range 3 {
			if mask>>i&1 > 0 {
				names = append(names, behind(i))
			} else {
				names = append(names, p.names(i))
			}
		}
		_, d := all(t, names...)
		p.agrees(t, d, open(t, d, 2, 1))
	}
	// If all are behind, none has come to the second one.
	_, d := all(t, behind(0), behind(1), behind(2))
	was.agrees(t, d, open(t, d, 2, 1))
}

// P10.2: whatever of a key the disk had, or has not, the second phase is done; what it has of it is what was put.
func TestSecondPhaseOfWhatIsNotThere(t *testing.T) {
	p := at(8, keep("a", "new"))
	card := "!"
	for what, c := range map[string]struct{ has, want map[string]string }{
		"nothing of it":            {nil, nil},
		"what will be gone":        {map[string]string{"da": "x", "db": "y"}, map[string]string{"da": "x"}},
		"a rotten one":             {map[string]string{"da": "x", "sa": "y"}, map[string]string{"da": "y"}},
		"one that was not there":   {map[string]string{"sc": "y"}, map[string]string{"dc": "y"}},
		"one that is gone at once": {map[string]string{"sb": "y"}, nil},
		"no keys":                  {map[string]string{"s": "y", "d": "z"}, map[string]string{"s": "y", "d": "z"}},
	} {
		names := with(c.has, card, cardOf(2, 1, 1, 7), "n", cardOf(2, 1, 1, 8), "t", goneOf(8, "b", "", "b", of("k", 300), "a!", "b"))
		_, d := all(t, p.names(0), names, p.names(2))
		s := open(t, d, 2, 1)
		inside(t, s, "012")
		if got, want := onDisk(t, d[1]), with(c.want, card, cardOf(2, 1, 1, 8)); !maps.Equal(got, want) {
			t.Errorf("%s: %q, not %q", what, got, want)
		}
		has(t, s, "a", "new")
	}
}

// P10.2: one generation behind, but not with all that the second phase asks for: out.
func TestSecondPhaseIsNotDone(t *testing.T) {
	was := at(7, keep("a", "one"))
	p := was.commit(keep("a", "new"))
	begun := []string{"n", cardOf(2, 1, 1, 8), "t", goneOf(8), "sa", shardOf(2, 1, 1, "a", "new")}
	for what, more := range map[string][]string{
		"nothing under way":  {},
		"no card":            {"t", goneOf(8), "sa", "x"},
		"nothing gone":       {"n", cardOf(2, 1, 1, 8), "sa", "x"},
		"the old card":       append(begun, "n", cardOf(2, 1, 1, 7)),
		"a newer card":       append(begun, "n", cardOf(2, 1, 1, 9)),
		"another one's card": append(begun, "n", cardOf(2, 1, 0, 8)),
		"another k":          append(begun, "n", cardOf(1, 1, 1, 8)),
		"another m":          append(begun, "n", cardOf(2, 2, 1, 8)),
		"a card for n":       append(begun, "n", seal("n", list("set", u32(2), u32(1), u32(1), u32(8)))),
		"a rotten card":      append(begun, "n", ""),
		"gone of 7":          append(begun, "t", goneOf(7)),
		"gone of 9":          append(begun, "t", goneOf(9)),
		"gone for n":         append(begun, "t", seal("n", list(u32(8)))),
		"gone, no list":      append(begun, "t", seal("t", "x")),
		"gone, empty list":   append(begun, "t", seal("t", list())),
		"gone, short number": append(begun, "t", seal("t", list("\x08"))),
		"gone, long number":  append(begun, "t", seal("t", list("\x00"+u32(8)))),
		"gone, rotten":       append(begun, "t", goneOf(8)[1:]),
	} {
		names := with(was.names(1), more...)
		_, d := all(t, p.names(0), names, p.names(2))
		s := open(t, d, 2, 1)
		inside(t, s, "02")
		if got := onDisk(t, d[1]); !maps.Equal(got, names) {
			t.Errorf("%s: what is out was changed: %q", what, slices.Sorted(maps.Keys(got)))
		}
		if told(s) != p.told() {
			t.Error(what, told(s))
		}
	}
	// With all of it the second phase is done.
	_, d := all(t, p.names(0), with(was.names(1), begun...), p.names(2))
	p.agrees(t, d, open(t, d, 2, 1))
	// What can't be read counts as not there.
	for _, name := range []string{"n", "t"} {
		_, d := all(t, p.names(0), with(was.names(1), begun...), p.names(2))
		turn(t, d[1], name)
		inside(t, open(t, d, 2, 1), "02")
	}
}

// P10.2: disks that are further behind are out, also if what is under way there would bring them on.
func TestFurtherBehind(t *testing.T) {
	p := at(9, keep("a", "one"))
	for _, gen := range []int{0, 6, 7} {
		was := at(gen, keep("a", "old"))
		names := with(was.names(0), "n", cardOf(2, 1, 0, gen+1), "t", goneOf(gen+1))
		_, d := all(t, names, p.names(1), p.names(2))
		s := open(t, d, 2, 1)
		inside(t, s, "12")
		if told(s) != p.told() || !maps.Equal(onDisk(t, d[0]), names) {
			t.Error(gen, told(s))
		}
	}
	names := with(at(7).names(0), "n", cardOf(2, 1, 0, 9), "t", goneOf(9))
	_, d := all(t, names, p.names(1), p.names(2))
	inside(t, open(t, d, 2, 1), "12")
}

// P10.2: the generation is the greatest one of the cards, also if one disk alone has it: the others are out then.
func TestGreatestGeneration(t *testing.T) {
	p, old := at(9, keep("a", "one")), at(7, keep("a", "old"))
	_, d := all(t, old.names(0), p.names(1), old.names(2))
	before := onDisk(t, d[0])
	s, err := eset.Open(d, 2, 1)
	is(t, "Open", err, api.ErrQuorum, 0)
	if s != nil || !maps.Equal(onDisk(t, d[0]), before) {
		t.Error("a set beside an error")
	}
}

// P10.2: ErrQuorum, if less than k are in; what was done on disks stays.
func TestOpenQuorum(t *testing.T) {
	p := at(7, keep("a", "one"))
	under := with(p.names(0), "n", cardOf(2, 1, 0, 8), "sb", "x")
	_, d := all(t, under, nil, nil)
	s, err := eset.Open(d, 2, 1)
	is(t, "Open", err, api.ErrQuorum, 0)
	if s != nil {
		t.Error("a set beside an error")
	}
	p.stands(t, d, 0)
	// The second phase stays, too: behind it there are enough.
	was := at(6)
	_, d = all(t, p.names(0), with(was.names(1), "n", cardOf(2, 1, 1, 7), "t", goneOf(7), "sa", shardOf(2, 1, 1, "a", "one")), nil)
	s = open(t, d, 2, 1)
	p.stands(t, d, 0, 1)
	inside(t, s, "01")
	three := func(gen int) plain {
		p := newPlain(3, 0).commit(keep("a", "one"))
		p.gen = gen
		return p
	}
	_, d = all(t, with(newPlain(3, 0).names(0), "!", cardOf(3, 0, 0, 6), "n", cardOf(3, 0, 0, 7), "t", goneOf(7), "sa", shardOf(3, 0, 0, "a", "one")), three(7).names(1), nil)
	_, err = eset.Open(d, 3, 0)
	is(t, "Open, behind the second phase", err, api.ErrQuorum, 0)
	three(7).stands(t, d, 0, 1)
}

// P10.2: an error of a disk in what Open does is answered, and what there is to be done is done by the next one.
func TestOpenIsCut(t *testing.T) {
	was := at(7, keep("a", "one"), keep("b", "two"))
	p := was.commit(keep("a", "new"), gone("b"))
	behind := func(i int) map[string]string {
		return with(was.names(i), "n", cardOf(2, 1, i, 8), "t", goneOf(8, "b"), "sa", shardOf(2, 1, i, "a", "new"))
	}
	cut := 0
	for fuse := 0; ; fuse++ {
		power, d := all(t, behind(0), with(p.names(1), "n", "x"), behind(2))
		power.Fuse(fuse)
		s, err := eset.Open(d, 2, 1)
		if err == nil {
			p.agrees(t, d, s)
			break
		}
		cut++
		came(t, "Open", err, api.ErrPower)
		if s != nil || fuse > 100 {
			t.Fatal("a set beside an error")
		}
		power.On()
		for i := range d {
			d[i].Lose(nil, 9)
		}
		p.agrees(t, d, open(t, d, 2, 1))
	}
	if cut < 6 {
		t.Error("cut only", cut)
	}
}

// P10.2: more under way than a store's Commit can drop is an error of a disk, which is answered.
func TestTooMuchUnderWay(t *testing.T) {
	p := at(7)
	for many, code := range map[int]api.Errno{100: api.OK, 101: api.ErrArg} {
		names := p.names(2)
		for i := range many {
			names["s"+strings.Repeat("k", 1+i)] = ""
		}
		_, d := all(t, p.names(0), p.names(1), p.names(2))
		d[2], _ = disk.New(disk.NewPower(), 2048)
		o, err := store.Format(d[2])
		is(t, "Format", err, api.OK, 0)
		for name, value := range names {
			is(t, "Commit", o.Commit(put(name, value)), api.OK, 0)
		}
		s, err := eset.Open(d, 2, 1)
		if code == api.OK {
			p.agrees(t, d, s)
		} else if below(t, "Open", err, code, 1); s != nil {
			t.Error("a set beside an error")
		}
	}
}

// P10.2: a flush of what is pending still, which a store's Open does, may be what the power goes at, on whichever disk.
func TestOpenOfWhatIsPending(t *testing.T) {
	pending := 0
	for fuse := 0; ; fuse++ {
		p, d, s := rack(t, 2, 1, 128)
		was := newPlain(2, 1).commit(keep("a", "1"))
		done(t, s, keep("a", "1"))
		p.Fuse(fuse)
		err := s.Commit([]api.Change{keep("a", "2")})
		p.On()
		if d[0].Pending()+d[1].Pending()+d[2].Pending() > 0 {
			pending++
			p.Fuse(0)
			o, err := eset.Open(d, 2, 1)
			came(t, "Open", err, api.ErrPower)
			if o != nil || !p.Gone() {
				t.Error("a set beside an error")
			}
			p.On()
		}
		if o := open(t, d, 2, 1); o.Gen() == 1 {
			was.agrees(t, d, o)
		} else {
			was.commit(keep("a", "2")).agrees(t, d, o)
		}
		if err == nil {
			break
		}
		if t.Failed() || fuse > 200 {
			t.Fatal(fuse)
		}
	}
	if pending < 20 {
		t.Error("pending only", pending)
	}
}
