package eset_test

import (
	"errors"
	"math"
	"slices"
	"testing"

	"storehouse/api"
	"storehouse/disk"
	"storehouse/eset"
)

// places are numbers at which no disk of a set of three is.
var places = []int{-1, 3, 4, 16, math.MinInt, math.MaxInt}

// P10.6: how many disks there are, which are dead, and which are in the set.
func TestDisks(t *testing.T) {
	_, d, s := rack(t, 2, 1, 64)
	for _, i := range places {
		if s.Dead(i) || s.In(i) {
			t.Error("a disk", i)
		}
	}
	tell := func(what string, dead, in bool) {
		t.Helper()
		if s.Disks() != 3 || s.Dead(1) != dead || s.In(1) != in || s.Dead(0) || !s.In(0) || s.Dead(2) || !s.In(2) || s.Gen() != 0 {
			t.Error(what, s.Disks(), s.Dead(1), s.In(1))
		}
	}
	tell("formatted", false, true)
	d[1].Kill()
	tell("killed", true, false)
	d[1].Replace()
	tell("replaced", false, false)
	is(t, "Join", s.Join(1), api.OK, 0)
	tell("joined", false, true)
	d[1].Replace()
	tell("replaced while it lived", false, false)
	is(t, "Join", s.Join(1), api.OK, 0)
	d[1].Kill()
	d[1].Replace()
	tell("killed and replaced", false, false)
	d[0].Kill()
	d[2].Kill()
	if s.Disks() != 3 || !s.Dead(0) || !s.Dead(2) || s.In(0) || s.In(2) {
		t.Error("all are gone:", s.Disks(), s.Dead(0), s.In(0))
	}
}

// P10.6: the generation is one more behind each Commit that is done, and behind nothing else.
func TestGen(t *testing.T) {
	_, d, s := rack(t, 2, 1, 128)
	for gen := range 5 {
		if s.Gen() != gen || open(t, d, 2, 1).Gen() != gen {
			t.Error(s.Gen(), gen)
		}
		s.Commit(nil)
		s.Commit([]api.Change{keep("x", of("x", 8000)), keep("y", of("y", 8000))}) // ErrFull
		s.Get("a")
		s.Join(1)
		s.Lay(1, "a")
		done(t, s, keep("a", "1"), gone("b"))
	}
}

// P10.6: of several errors of Look the first one of the promise is told; Lay tells the same.
func TestLook(t *testing.T) {
	p, d, s := rack(t, 2, 2, 128)
	done(t, s, keep("a", "1"), keep("b", "2"))
	look := func(what string, i int, key string, code api.Errno, at int) {
		t.Helper()
		is(t, what, s.Look(i, key), code, at)
		if code != api.ErrRot && (code != api.ErrNone || at != 1) {
			is(t, what+", Lay", s.Lay(i, key), code, at)
		}
	}
	for i := range 4 {
		look("right", i, "a", api.OK, 0)
	}
	for _, i := range []int{-1, 4, math.MinInt, math.MaxInt} {
		look("no disk", i, "a", api.ErrArg, 0)
		look("no disk, no such key", i, "x", api.ErrArg, 0)
	}
	look("no key", 0, "", api.ErrArg, 0)
	look("no key", 0, of("k", 201), api.ErrArg, 0)
	look("no such key", 0, of("k", 200), api.ErrNone, 0)
	d[1].Kill()
	d[2].Kill()
	d[2].Replace()
	look("no such key, dead", 1, "x", api.ErrNone, 0)
	look("no such key, out", 2, "x", api.ErrNone, 0)
	look("dead", 1, "a", api.ErrDead, 0)
	look("out", 2, "a", api.ErrBlank, 0)
	p.Cut()
	look("no key, dark", 0, "", api.ErrArg, 0)
	look("no such key, dark", 0, "x", api.ErrNone, 0)
	look("dead, dark", 1, "a", api.ErrDead, 0)
	look("out, dark", 2, "a", api.ErrBlank, 0)
	below(t, "dark", s.Look(0, "a"), api.ErrPower, 1)
	below(t, "dark, Lay", s.Lay(0, "a"), api.ErrPower, 1)
	p.On()
	is(t, "Join", s.Join(2), api.OK, 0)
	look("joined", 2, "a", api.ErrNone, 1)
	p.Cut()
	below(t, "joined, dark", s.Look(2, "a"), api.ErrPower, 1)
	p.On()
	turn(t, d[3], "da")
	below(t, "rotten", s.Look(3, "a"), api.ErrRot, 1)
	look("not rotten", 3, "b", api.OK, 0)
	p.Cut()
	below(t, "rotten, dark", s.Look(3, "a"), api.ErrPower, 1)
	p.On()
	d[3].Kill()
	look("rotten, dead", 3, "a", api.ErrDead, 0)
	d[0].Kill()
	look("no key is there any more", 2, "a", api.ErrNone, 0)
}

// P10.6: a shard that is read as it was written, but does not open, is rot; the shard's own fault is found.
func TestLookAtWhatDoesNotOpen(t *testing.T) {
	_, d, s := rack(t, 2, 1, 128)
	done(t, s, keep("a", of("a", 900)))
	text := shardOf(2, 1, 0, "a", of("a", 900))
	act(t, d[0], put("da", text[:300]+"x"+text[301:]))
	act(t, d[1], put("da", seal("da", "x")))
	s = open(t, d, 2, 1)
	err := s.Look(0, "a")
	came(t, "Look", err, api.ErrRot)
	var f, inner *api.Fault
	if !errors.As(err, &f) || !errors.As(f.Inner, &inner) || *inner != (api.Fault{Code: api.ErrRot, At: 268}) {
		t.Error(err)
	}
	came(t, "Look", s.Look(1, "a"), api.ErrRot)
	is(t, "Look", s.Look(2, "a"), api.OK, 0)
}

// P10.7: what Join answers, and when.
func TestJoin(t *testing.T) {
	p, d, s := rack(t, 2, 1, 128)
	done(t, s, keep("a", "1"))
	for _, i := range places {
		is(t, "Join", s.Join(i), api.ErrArg, 0)
	}
	acts := p.Acts()
	for i := range d {
		is(t, "Join of one that is in", s.Join(i), api.OK, 0)
	}
	if p.Acts() != acts {
		t.Error("Join of one that is in wrote")
	}
	newPlain(2, 1).commit(keep("a", "1")).agrees(t, d, s)
	p.Cut()
	is(t, "Join of none, dark", s.Join(3), api.ErrArg, 0)
	below(t, "Join of one that is in, dark", s.Join(0), api.ErrPower, 1)
	d[1].Kill()
	below(t, "Join of a dead one, dark", s.Join(1), api.ErrPower, 1)
	p.On()
	below(t, "Join of a dead one", s.Join(1), api.ErrDead, 1)
	inside(t, s, "02")
	d[1].Replace()
	p.Cut()
	below(t, "Join of a blank one, dark", s.Join(1), api.ErrPower, 1)
	inside(t, s, "02")
	p.On()
	is(t, "Join", s.Join(1), api.OK, 0)
	inside(t, s, "012")
	if got := onDisk(t, d[1]); len(got) != 1 || got["!"] != cardOf(2, 1, 1, 1) {
		t.Errorf("%q", got)
	}
	is(t, "Look", s.Look(1, "a"), api.ErrNone, 1)
	has(t, s, "a", "1")
	has(t, open(t, d, 2, 1), "a", "1")
}

// P10.7: Join of a disk that has something: that is gone, and what comes then is kept there.
func TestJoinOfWhatIsNotBlank(t *testing.T) {
	p := at(9, keep("a", "one"), keep("b", "two"))
	old := at(6, keep("a", "old"), keep("c", "gone"))
	_, d := all(t, p.names(0), p.names(1), with(old.names(2), "n", cardOf(2, 1, 2, 7), "t", goneOf(7), "sa", "x", "z", "x"))
	s := open(t, d, 2, 1)
	inside(t, s, "01")
	is(t, "Join", s.Join(2), api.OK, 0)
	if got := onDisk(t, d[2]); len(got) != 1 || got["!"] != cardOf(2, 1, 2, 9) {
		t.Errorf("%q", got)
	}
	keys(t, s, "", "a", "b")
	done(t, s, keep("a", "new"), gone("b"))
	p = p.commit(keep("a", "new"), gone("b"))
	p.agrees(t, d, s)
	p.agrees(t, d, open(t, d, 2, 1))
}

// P10.7: a disk on which no store may be laid answers another error: the set is closed.
func TestJoinOfASmallDisk(t *testing.T) {
	p, d, _ := rack(t, 2, 1, 128)
	d[2], _ = disk.New(p, 31)
	s := open(t, d, 2, 1)
	below(t, "Join", s.Join(2), api.ErrArg, 1)
	none(t, s, "a", api.ErrClosed)
	inside(t, open(t, d, 2, 1), "01")
}

// P10.7: Lay makes a shard that is missing or rotten, and nothing else.
func TestLay(t *testing.T) {
	for _, c := range []struct{ k, m int }{{1, 1}, {2, 1}, {3, 2}, {2, 2}} {
		p := newPlain(c.k, c.m)
		_, d, s := rack(t, c.k, c.m, 256)
		changes := []api.Change{keep("a", of("a", 700)), keep("b", ""), keep(of("k", 200), "1"), keep("c", "gone"), gone("x")}
		done(t, s, changes...)
		done(t, s, gone("c"))
		p = p.commit(changes...).commit(gone("c"))
		for i := range d {
			d[i].Kill()
			d[i].Replace()
			is(t, "Join", s.Join(i), api.OK, 0)
			for j, key := range []string{"a", "b", of("k", 200)} {
				is(t, "Look", s.Look(i, key), api.ErrNone, 1)
				is(t, "Lay", s.Lay(i, key), api.OK, 0)
				is(t, "Look", s.Look(i, key), api.OK, 0)
				if got := onDisk(t, d[i]); len(got) != j+2 || got["d"+key] != p.names(i)["d"+key] {
					t.Errorf("laid: %q", got)
				}
			}
			p.agrees(t, d, s)
			p.agrees(t, d, open(t, d, c.k, c.m))
			turn(t, d[i], "da")
			below(t, "Look", s.Look(i, "a"), api.ErrRot, 1)
			is(t, "Lay", s.Lay(i, "a"), api.OK, 0)
			p.agrees(t, d, s)
			is(t, "Lay of what is not there", s.Lay(i, "c"), api.ErrNone, 0)
		}
		for i := range d { // each disk has been laid anew, from others that were
			image := d[i].Image()
			for _, key := range []string{"a", "b"} {
				is(t, "Lay of what is right", s.Lay(i, key), api.OK, 0)
			}
			if d[i].Image() != image {
				t.Error("Lay of what is right wrote")
			}
		}
	}
}

// P10.7: a shard that can be read, but is none, is laid anew, too.
func TestLayOfWhatIsNoShard(t *testing.T) {
	p := at(7, keep("a", "one"))
	for _, text := range []string{"", "x", shardOf(2, 1, 0, "a", "one"), shardOf(2, 1, 1, "b", "one"), seal("da", list(u32(1), u32(3), ""))} {
		_, d := all(t, p.names(0), with(p.names(1), "da", text), p.names(2))
		s := open(t, d, 2, 1)
		is(t, "Lay", s.Lay(1, "a"), api.OK, 0)
		p.agrees(t, d, s)
	}
	// One that is right, but of another value, is none of Lay's business.
	text := shardOf(2, 1, 1, "a", "other")
	_, d := all(t, p.names(0), with(p.names(1), "da", text), p.names(2))
	s := open(t, d, 2, 1)
	is(t, "Lay", s.Lay(1, "a"), api.OK, 0)
	if onDisk(t, d[1])["da"] != text {
		t.Error("a right shard was laid anew")
	}
	// What is laid is made of the first right ones of the first one's length.
	_, d = all(t, p.names(0), with(p.names(1), "da", text), with(p.names(2), "da", "x"))
	s = open(t, d, 2, 1)
	is(t, "Lay", s.Lay(2, "a"), api.ErrFew, 0)
	wide := newPlain(2, 2).commit(keep("a", "one"))
	_, d = all(t, with(wide.names(0), "da", "rot"), with(wide.names(1), "da", shardOf(2, 2, 1, "a", "other")), wide.names(2), with(wide.names(3), "da", shardOf(2, 2, 3, "a", "other")))
	s = open(t, d, 2, 2)
	is(t, "Lay", s.Lay(0, "a"), api.OK, 0)
	if onDisk(t, d[0])["da"] != shardOf(2, 2, 0, "a", "other") {
		t.Error("not laid as the first right ones make it")
	}
}

// P10.7: ErrFew, if less than k disks have a right shard; nothing has changed.
func TestLayOfTooFew(t *testing.T) {
	_, d, s := rack(t, 2, 1, 128)
	done(t, s, keep("a", "1"), keep("b", "2"))
	d[2].Replace()
	is(t, "Join", s.Join(2), api.OK, 0)
	turn(t, d[0], "da")
	before := d[2].Image()
	is(t, "Lay", s.Lay(2, "a"), api.ErrFew, 0)
	is(t, "Lay", s.Lay(0, "a"), api.ErrFew, 0)
	if d[2].Image() != before {
		t.Error("written")
	}
	is(t, "Lay", s.Lay(2, "b"), api.OK, 0)
	has(t, s, "b", "2")
	turn(t, d[0], "da")
	is(t, "Lay", s.Lay(2, "a"), api.OK, 0)
}

// P10.7: power that goes in Join or Lay is answered, and the set is closed; Open finds all that was kept.
func TestMendingIsCut(t *testing.T) {
	for _, c := range []struct {
		what string
		lay  bool
	}{{"Join", false}, {"Lay", true}} {
		cut := 0
		for fuse := 0; ; fuse++ {
			p, d, s := rack(t, 2, 1, 128)
			done(t, s, keep("a", of("a", 300)))
			d[1].Replace()
			if c.lay {
				is(t, "Join", s.Join(1), api.OK, 0)
			}
			p.Fuse(fuse)
			err := s.Join(1)
			if c.lay {
				err = s.Lay(1, "a")
			}
			if err == nil {
				break
			}
			came(t, c.what, err, api.ErrPower)
			p.On()
			none(t, s, "a", api.ErrClosed)
			for i := range d {
				d[i].Lose([]bool{true, false, true}, 5)
			}
			o := open(t, d, 2, 1)
			has(t, o, "a", of("a", 300))
			if !o.In(0) || !o.In(2) || c.lay && !o.In(1) || o.Gen() != 1 {
				t.Error(o.In(0), o.In(1), o.In(2), o.Gen())
			}
			if cut++; fuse > 100 {
				t.Fatal(err)
			}
		}
		if cut < 4 {
			t.Error(c.what, "cut only", cut)
		}
	}
}

// P10.9: a disk that was joined, and on which each key was laid, is as good as the others: any other may fail then.
func TestMendedDiskIsSound(t *testing.T) {
	for round := range 3 {
		_, d, s := rack(t, 2, 1, 256)
		p := newPlain(2, 1)
		for _, changes := range [][]api.Change{{keep("a", of("a", 300)), keep("b", "2")}, {keep("c", ""), gone("b")}} {
			done(t, s, changes...)
			p = p.commit(changes...)
		}
		for step := range 6 {
			i := (round + step) % 3
			d[i].Kill()
			d[i].Replace()
			is(t, "Join", s.Join(i), api.OK, 0)
			change := keep("d", of("d", step)) // what comes while it is mended is there, too
			done(t, s, change)
			p = p.commit(change)
			l, _ := s.Keys("")
			for _, key := range l {
				is(t, "Lay", s.Lay(i, key), api.OK, 0)
			}
			p.agrees(t, d, s)
			p.agrees(t, d, open(t, d, 2, 1))
		}
	}
}

// P10.6, P10.7: with all disks gone there is no key; disks that are joined make an empty set, of the same generation.
func TestAllDisksAreReplaced(t *testing.T) {
	_, d, s := rack(t, 2, 1, 128)
	done(t, s, keep("a", "1"))
	for i := range d {
		d[i].Replace()
	}
	inside(t, s, "")
	keys(t, s, "")
	is(t, "Look", s.Look(0, "a"), api.ErrNone, 0)
	is(t, "Commit", s.Commit([]api.Change{keep("b", "1")}), api.ErrQuorum, 0)
	for _, i := range slices.Backward([]int{0, 1, 2}) {
		is(t, "Join", s.Join(i), api.OK, 0)
	}
	p := at(1)
	p.agrees(t, d, s)
	done(t, s, keep("b", "1"))
	p.commit(keep("b", "1")).agrees(t, d, open(t, d, 2, 1))
}

// P10.3, P10.4, P10.7: of disks at several powers each one that is in must have its own.
func TestSeveralPowers(t *testing.T) {
	p, d := newDisks(t, 2, 128)
	q, more := newDisks(t, 1, 128)
	d = append(d, more...)
	s := format(t, d, 2, 1)
	done(t, s, keep("a", "1"))
	turn(t, d[0], "da")
	q.Cut()
	_, err := s.Get("a")
	below(t, "Get", err, api.ErrPower, 1)
	below(t, "Commit", s.Commit([]api.Change{keep("a", "2")}), api.ErrPower, 1)
	below(t, "Join", s.Join(2), api.ErrPower, 1)
	below(t, "Look", s.Look(2, "a"), api.ErrPower, 1)
	is(t, "Look", s.Look(1, "a"), api.OK, 0)
	came(t, "Lay", s.Lay(0, "a"), api.ErrPower)
	_, err = eset.Open(d, 2, 1)
	below(t, "Open", err, api.ErrPower, 1)
	p.Cut()
	q.On()
	below(t, "Look", s.Look(0, "a"), api.ErrPower, 1)
	p.On()
	is(t, "Lay", s.Lay(0, "a"), api.OK, 0)
	at(1, keep("a", "1")).agrees(t, d, s)
	q.Cut()
	d[2].Kill()
	has(t, s, "a", "1")
}
