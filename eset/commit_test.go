package eset_test

import (
	"errors"
	"maps"
	"slices"
	"testing"

	"storehouse/api"
	"storehouse/disk"
)

// P10.4: values that come, that take another one's place, and that go; each Commit makes one generation.
func TestCommit(t *testing.T) {
	for _, c := range []struct{ k, m int }{{1, 0}, {2, 0}, {1, 2}, {2, 1}, {3, 2}} {
		_, d, s := rack(t, c.k, c.m, 400)
		p := newPlain(c.k, c.m)
		for _, changes := range [][]api.Change{
			{keep("a", "one")},
			{keep("a", "one")},
			{keep("b", ""), keep("c", of("c", 500)), keep("a", of("n", 300))},
			{gone("b")},
			{gone("b"), gone("x"), keep("d", "1")},
			{gone("never")},
			{keep("b", "again"), gone("a"), gone("d")},
			{gone("b"), gone("c")},
			{keep(of("k", 200), of("v", 8000)), keep("\x00", "\x00")},
		} {
			done(t, s, changes...)
			p = p.commit(changes...)
			p.agrees(t, d, s)
			p.agrees(t, d, open(t, d, c.k, c.m))
			if t.Failed() {
				t.Fatal(c, changes)
			}
		}
	}
}

// P10.4: of several changes of one key the last one counts.
func TestSeveralChangesOfOneKey(t *testing.T) {
	_, d, s := rack(t, 2, 1, 400)
	p := newPlain(2, 1)
	for _, changes := range [][]api.Change{
		{keep("a", "1"), keep("b", "1"), keep("a", "2"), keep("b", ""), keep("a", "3")},
		{gone("a"), keep("a", "4"), keep("b", "2"), gone("b")},
		{keep("b", "5"), gone("a"), gone("b"), gone("a")},
		{gone("c"), keep("c", ""), gone("c"), keep("c", of("c", 100))},
		slices.Repeat([]api.Change{gone("c"), keep("c", of("v", 8000))}, 16),
	} {
		done(t, s, changes...)
		p = p.commit(changes...)
		p.agrees(t, d, s)
	}
}

// P10.4: what may be asked for, at its edges.
func TestChangesThatMayBe(t *testing.T) {
	_, d, s := rack(t, 2, 1, 4000)
	p := newPlain(2, 1)
	var keeps, goes []api.Change
	for i := range 32 {
		key := string(rune('a'+i)) + of("k", 198)
		keeps, goes = append(keeps, keep(key, of("v", 8000*(i%2)))), append(goes, gone(key))
	}
	for _, changes := range [][]api.Change{{keep("a", of("v", 8000))}, {keep(of("k", 200), "")}, keeps, goes, slices.Repeat(keeps[:1], 32), {gone(of("k", 200))}} {
		done(t, s, changes...)
		p = p.commit(changes...)
		p.agrees(t, d, s)
	}
	for what, changes := range map[string][]api.Change{
		"nil":              nil,
		"none":             {},
		"33":               append(slices.Clone(keeps), gone("x")),
		"33 of one key":    slices.Repeat([]api.Change{gone("x")}, 33),
		"no key":           {keep("", "v")},
		"no key, gone":     {gone("")},
		"a long key":       {keep(of("k", 201), "v")},
		"a long key, gone": {gone(of("k", 201))},
		"a long value":     {keep("a", of("v", 8001))},
		"gone with value":  {{Key: "a", Value: "v", Gone: true}},
		"the last one":     {keep("a", "x"), keep("b", "x"), keep("", "x")},
		"the first one":    {keep("", "x"), keep("a", "x")},
		"not the last one": {{Key: "a", Value: "v", Gone: true}, keep("a", "x")},
	} {
		is(t, what, s.Commit(changes), api.ErrArg, 0)
		p.agrees(t, d, s)
	}
}

// P10.4: of several errors the first one of the promise is told.
func TestWhichErrorOfCommit(t *testing.T) {
	p, d, s := rack(t, 2, 1, 128)
	one := []api.Change{keep("a", "1")}
	p.Cut()
	is(t, "Commit of nothing", s.Commit(nil), api.ErrArg, 0)
	below(t, "Commit, dark", s.Commit(one), api.ErrPower, 1)
	d[0].Kill()
	below(t, "Commit, dark, of two", s.Commit(one), api.ErrPower, 1)
	d[1].Replace()
	is(t, "Commit of nothing", s.Commit(nil), api.ErrArg, 0)
	is(t, "Commit, dark, of one", s.Commit(one), api.ErrQuorum, 0)
	p.On()
	is(t, "Commit of one", s.Commit(one), api.ErrQuorum, 0)
	is(t, "Join", s.Join(1), api.OK, 0)
	done(t, s, one...)
	if s.Gen() != 1 {
		t.Error(s.Gen())
	}
}

// P10.4: a disk that is out gets nothing of a Commit, and the others all of it.
func TestCommitWithoutADisk(t *testing.T) {
	for dead := range 3 {
		_, d, s := rack(t, 2, 1, 128)
		p := newPlain(2, 1).commit(keep("a", "1"), keep("b", "2"))
		done(t, s, keep("a", "1"), keep("b", "2"))
		if d[dead].Kill(); dead == 1 {
			d[dead].Replace()
		}
		left := slices.Delete([]int{0, 1, 2}, dead, dead+1)
		for _, changes := range [][]api.Change{{keep("a", "new"), gone("b")}, {keep("c", of("c", 500))}} {
			done(t, s, changes...)
			p = p.commit(changes...)
			p.stands(t, d, left...)
			if told(s) != p.told() || s.In(dead) {
				t.Error(dead, told(s))
			}
		}
		if image := d[dead].Image(); image != "" && image != of("\x00", 128*64) {
			t.Error("a disk that is out was written")
		}
	}
}

// P10.4: what disks have while a Commit is under way: the first phase disk by disk, then the second one, disk by disk.
func TestPhases(t *testing.T) {
	was := newPlain(2, 1).commit(keep("a", "one"), keep("b", "two"), keep("c", "stays"))
	changes := []api.Change{keep("d", ""), gone("x"), gone("b"), keep("a", "old"), keep("a", "new"), gone("b")}
	p := was.commit(changes...)
	state := func(t *testing.T, d *disk.Disk, i int) string {
		first := with(was.names(i), "n", cardOf(2, 1, i, 2), "t", goneOf(2, "b", "x"), "sa", shardOf(2, 1, i, "a", "new"), "sd", shardOf(2, 1, i, "d", ""))
		switch got := onDisk(t, d); {
		case maps.Equal(got, was.names(i)):
			return "0"
		case maps.Equal(got, first):
			return "1"
		case maps.Equal(got, p.names(i)):
			return "2"
		default:
			t.Errorf("disk %d has %q", i, got)
			return "x"
		}
	}
	var seen []string
	for fuse := 0; ; fuse++ {
		power, d, s := rack(t, 2, 1, 128)
		done(t, s, keep("a", "one"), keep("b", "two"), keep("c", "stays"))
		power.Fuse(fuse)
		err := s.Commit(changes)
		power.On()
		text := ""
		for i := range d {
			d[i].Lose(nil, 0)
			text += state(t, d[i], i)
		}
		if len(seen) == 0 || seen[len(seen)-1] != text {
			seen = append(seen, text)
		}
		if err == nil || fuse > 200 {
			break
		}
		came(t, "Commit", err, api.ErrPower)
	}
	if want := []string{"000", "100", "110", "111", "211", "221", "222"}; !slices.Equal(seen, want) {
		t.Error(seen)
	}
}

// P10.4: an error of a disk in a Commit is answered, with what it came from, and the set is closed; its generation is as it was.
func TestCommitIsCut(t *testing.T) {
	for fuse := 0; ; fuse++ {
		p, d, s := rack(t, 2, 1, 128)
		done(t, s, keep("a", "1"))
		p.Fuse(fuse)
		err := s.Commit([]api.Change{keep("a", "2")})
		if err == nil {
			newPlain(2, 1).commit(keep("a", "1")).commit(keep("a", "2")).agrees(t, d, s)
			break
		}
		came(t, "Commit", err, api.ErrPower)
		var f, inner *api.Fault
		if !errors.As(err, &f) || !errors.As(f.Inner, &inner) || inner == f || inner.Code != api.ErrPower || errors.Unwrap(inner) == nil {
			t.Error("not with the store's fault, and the disk's:", err)
		}
		p.On()
		none(t, s, "a", api.ErrClosed)
		if s.Gen() != 1 || fuse > 200 {
			t.Fatal(fuse, s.Gen())
		}
	}
}

// roomless is a set of which the disk 1 has less room than the others, with a value on each.
func roomless(t *testing.T) (*disk.Power, []*disk.Disk, plain) {
	t.Helper()
	power, d := newDisks(t, 3, 256)
	d[1], _ = disk.New(power, 40)
	s := format(t, d, 2, 1)
	done(t, s, keep("a", "one"), keep("b", "two"))
	return power, d, newPlain(2, 1).commit(keep("a", "one"), keep("b", "two"))
}

// P10.4: ErrFull of one disk: what is under way on the others is dropped, nothing has changed, and the set goes on.
func TestFull(t *testing.T) {
	for round := range 3 {
		_, d, p := roomless(t)
		d[1], d[round] = d[round], d[1]
		s := format(t, d, 2, 1)
		done(t, s, keep("a", "one"), keep("b", "two"))
		for range 4 {
			below(t, "Commit", s.Commit([]api.Change{keep("c", of("c", 2500)), keep("a", "new"), gone("b")}), api.ErrFull, 1)
			p.agrees(t, d, s)
		}
		p.agrees(t, d, open(t, d, 2, 1))
		done(t, s, keep("a", "new"), gone("b"))
		p.commit(keep("a", "new"), gone("b")).agrees(t, d, s)
	}
}

// P10.4: a disk that answers another error, when what is under way is dropped, closes the set; nothing has changed.
func TestFullIsCut(t *testing.T) {
	cut := 0
	for fuse := 0; ; fuse++ {
		power, d, p := roomless(t)
		s := open(t, d, 2, 1)
		power.Fuse(fuse)
		err := s.Commit([]api.Change{keep("c", of("c", 2500)), keep("a", "new"), gone("b")})
		power.On()
		if errors.Is(err, api.ErrFull) {
			p.agrees(t, d, s)
			break
		}
		came(t, "Commit", err, api.ErrPower)
		none(t, s, "a", api.ErrClosed)
		for i := range d {
			d[i].Lose(nil, 3)
		}
		p.agrees(t, d, open(t, d, 2, 1))
		if cut++; fuse > 200 {
			t.Fatal(err)
		}
	}
	if cut < 20 {
		t.Error("cut only", cut)
	}
}

// P10.4: a disk that dies, or is replaced, between two Commits drops out; less than k are too few, and nothing has changed then.
func TestDisksDropOut(t *testing.T) {
	_, d, s := rack(t, 2, 2, 128)
	p := newPlain(2, 2).commit(keep("a", "1"))
	done(t, s, keep("a", "1"))
	d[0].Kill()
	inside(t, s, "123")
	done(t, s, keep("b", "2"))
	d[3].Replace()
	inside(t, s, "12")
	done(t, s, keep("c", "3"))
	p = p.commit(keep("b", "2")).commit(keep("c", "3"))
	d[1].Kill()
	d[1].Replace()
	inside(t, s, "2")
	before := d[2].Image()
	is(t, "Commit", s.Commit([]api.Change{keep("d", "4")}), api.ErrQuorum, 0)
	if d[2].Image() != before || s.Gen() != 3 {
		t.Error("something has changed")
	}
	p.stands(t, d, 2)
	none(t, s, "a", api.ErrFew)
	keys(t, s, "", "a", "b", "c")
}
