package heal_test

import (
	"testing"

	"storehouse/api"
	"storehouse/disk"
	"storehouse/eset"
	"storehouse/heal"
)

// P11.2: New: a healer at the first disk itself, of no rounds, which has touched nothing.
func TestNew(t *testing.T) {
	p, d, s := rack(t, 1, 1, 64)
	d[0].Kill()
	acts := p.Acts()
	h := heal.New(s)
	rounds(t, h, 0)
	if p.Acts() != acts || h == heal.New(s) {
		t.Error("New did something, or gave one twice")
	}
	step(t, h, dead(0), api.OK)
}

// P11.2: each kind is mended by a step; one that is dead by nothing.
func TestStepMends(t *testing.T) {
	p, d, _ := rack(t, 1, 3, 128)
	s := open(t, d, 1, 3)
	commit(t, s, keep("a", of("a", 300)), keep("b", ""))
	drop(t, d[1], "a")
	s = open(t, d, 1, 3)
	turn(t, d[1], "b")
	d[2].Kill()
	d[3].Replace()
	h := heal.New(s)
	well(t, h, 4) // the disk 0, and the disk 1 itself
	step(t, h, missing(1, "a"), api.OK)
	came(t, "Look", s.Look(1, "a"), api.OK)
	came(t, "Look", s.Look(1, "b"), api.ErrRot)
	step(t, h, rotten(1, "b"), api.OK)
	came(t, "Look", s.Look(1, "b"), api.OK)
	acts := p.Acts()
	step(t, h, dead(2), api.OK)
	well(t, h, 2) // shards of a disk that is dead are not sick
	if !s.Dead(2) || s.In(2) || p.Acts() != acts {
		t.Error("one that is dead was mended")
	}
	step(t, h, out(3), api.OK)
	if !s.In(3) {
		t.Error("not joined")
	}
	step(t, h, missing(3, "a"), api.OK)
	rounds(t, h, 0)
	step(t, h, missing(3, "b"), api.OK)
	rounds(t, h, 1)
	scan(t, s, dead(2))
	for _, i := range []int{0, 2} {
		d[i].Kill()
	}
	has(t, s, "a", of("a", 300))
	d[1].Kill()
	has(t, s, "a", of("a", 300))
	has(t, s, "b", "")
	d[2].Replace()
	step(t, h, dead(0), api.OK) // it has gone on to the first disk
}

// P11.2: a step looks at one thing, as the set is then: what is sick elsewhere stays as it is till its turn comes.
func TestStepMendsOneThing(t *testing.T) {
	_, d, s := rack(t, 1, 1, 128)
	commit(t, s, keep("a", "1"), keep("b", "2"))
	h := heal.New(s)
	d[1].Replace()
	well(t, h, 1)
	scan(t, s, out(1))
	turn(t, d[0], "a")
	step(t, h, rotten(0, "a"), api.ErrFew)
	came(t, "Join", s.Join(1), api.OK)
	scan(t, s, rotten(0, "a"), missing(1, "a"), missing(1, "b"))
	well(t, h, 2)
	came(t, "Lay", s.Lay(1, "b"), api.OK)
	step(t, h, missing(1, "a"), api.ErrFew)
	turn(t, d[0], "a") // the bit turns back
	scan(t, s, missing(1, "a"))
	turn(t, d[1], "b")
	step(t, h, rotten(1, "b"), api.OK)
	rounds(t, h, 1)
	scan(t, s, missing(1, "a"))
	well(t, h, 4)
	step(t, h, missing(1, "a"), api.OK)
	scan(t, s)
}

// P11.2: the error of Lay where too few are right: what was sick is told, it goes on, and the set is as it was.
func TestTooFew(t *testing.T) {
	p, d, s := rack(t, 2, 1, 128)
	commit(t, s, keep("a", "1"), keep("b", "2"))
	turn(t, d[0], "a")
	turn(t, d[2], "a")
	before := all(p, d, s)
	h := heal.New(s)
	for round := range 3 {
		rounds(t, h, round)
		well(t, h, 1)
		step(t, h, rotten(0, "a"), api.ErrFew)
		well(t, h, 5)
		step(t, h, rotten(2, "a"), api.ErrFew)
		well(t, h, 1)
	}
	scan(t, s, rotten(0, "a"), rotten(2, "a"))
	if all(p, d, s) != before {
		t.Error("something has changed")
	}
	_, _, err := heal.New(s).Step()
	came(t, "Step", err, api.OK)
}

// P11.2: the error of Lay where there is no room: what was sick is told, and it goes on.
func TestNoRoom(t *testing.T) {
	_, d, s := rack(t, 2, 1, 64)
	commit(t, s, keep("a", of("a", 400)), keep("b", "2"))
	behind(t, d[2], api.Act{Kind: api.ActPut, Name: "x", Value: of("x", 64*(64-16-3-5-3-2))}) // two sectors are free
	s = open(t, d, 2, 1)
	turn(t, d[2], "a")
	turn(t, d[2], "b")
	h := heal.New(s)
	well(t, h, 7)
	_, want := s.Lay(2, "a"), s.Lay(2, "a")
	got, sick, err := h.Step()
	if got != rotten(2, "a") || !sick {
		t.Error(got, sick)
	}
	came(t, "Step", err, api.ErrFull)
	sameError(t, err, want)
	step(t, h, rotten(2, "b"), api.OK)
	rounds(t, h, 1)
	scan(t, s, rotten(2, "a"))
	well(t, h, 7)
	step(t, h, rotten(2, "a"), api.ErrFull)
}

// P11.2: the error of Join of a disk without power: what was sick is told, the set is not closed, and it goes on; shards of disks that are in can't be looked at, and there it stays.
func TestJoinInTheDark(t *testing.T) {
	p, d, s := rack(t, 1, 1, 128)
	commit(t, s, keep("a", "1"))
	d[0].Replace()
	h := heal.New(s)
	p.Cut()
	want := s.Join(0)
	got, sick, err := h.Step()
	if got != out(0) || !sick {
		t.Error(got, sick)
	}
	came(t, "Step", err, api.ErrPower)
	sameError(t, err, want)
	well(t, h, 2) // no shard of a disk that is out is sick; nor is the disk 1 itself
	for range 3 {
		got, sick, err = h.Step()
		if got != (api.Sick{}) || sick {
			t.Error(got, sick)
		}
		came(t, "Step", err, api.ErrPower)
		sameError(t, err, s.Look(1, "a"))
		rounds(t, h, 0)
	}
	p.On()
	turn(t, d[1], "a")
	step(t, h, rotten(1, "a"), api.ErrFew) // there it stayed
	turn(t, d[1], "a")
	rounds(t, h, 1)
	p.Cut()
	step(t, h, out(0), api.ErrPower)
	p.On()
	d[0].Kill()
	well(t, h, 3)
	rounds(t, h, 2)
	p.Cut()
	step(t, h, dead(0), api.OK) // nothing is asked of it
	well(t, h, 2)
	step(t, h, api.Sick{}, api.ErrPower)
	p.On()
	well(t, h, 1)
	rounds(t, h, 3)
}

// P11.2, P11.3: where Keys answers an error the healer stays, at a disk itself and behind a key; nothing is sick then, not even one that is dead.
func TestClosed(t *testing.T) {
	for steps := range 8 {
		p, d, s := rack(t, 1, 1, 128)
		commit(t, s, keep("a", "1"), keep("b", "2"))
		h := heal.New(s)
		well(t, h, steps)
		closed(t, p, s)
		_, want := s.Keys("")
		for _, let := range []func(){func() {}, p.On, d[0].Kill, d[1].Kill, p.Cut} {
			let()
			for range 3 {
				got, sick, err := h.Step()
				if got != (api.Sick{}) || sick {
					t.Error(got, sick)
				}
				came(t, "Step", err, api.ErrClosed)
				sameError(t, err, want)
				rounds(t, h, steps/6)
			}
		}
	}
}

// P11.2: a disk of a closed set that is out can't be joined: that is what is answered, and there it stays.
func TestOutOfAClosedSet(t *testing.T) {
	p, d, s := rack(t, 1, 1, 128)
	commit(t, s, keep("a", "1"))
	closed(t, p, s)
	p.On()
	d[0].Replace()
	h := heal.New(s)
	for range 3 {
		step(t, h, out(0), api.ErrClosed)
		rounds(t, h, 0)
	}
	d[0].Kill()
	step(t, h, api.Sick{}, api.ErrClosed)
}

// P11.2, P11.3: a Join that closes the set is told with what was sick, and there the healer stays: also where it went on there first, behind keys that had gone, and a round was over by that.
func TestJoinCloses(t *testing.T) {
	for _, at := range []int{0, 1} {
		p, d, _ := rack(t, 1, 1, 128)
		d[at], _ = disk.New(p, 31) // too small for a store
		s := open(t, d, 1, 1)
		commit(t, s, keep("a", "1"), keep("b", "2"))
		h := heal.New(s)
		over := 0
		if at == 0 {
			d[1].Kill() // so that the disk 0 is passed while there are no keys
			d[0].Kill()
			step(t, h, dead(0), api.OK)
			d[1].Replace()
			d[0].Replace()
			came(t, "Join", s.Join(1), api.OK)
			commit(t, s, keep("a", "1"), keep("b", "2"))
			well(t, h, 2)
			over = 1
		} else {
			well(t, h, 2)
		}
		commit(t, s, gone("b"))
		rounds(t, h, 0)
		step(t, h, out(at), api.ErrArg)
		for range 3 {
			rounds(t, h, over)
			step(t, h, out(at), api.ErrClosed)
		}
		scanFails(t, s, api.ErrClosed)
	}
}

// P11.2, P11.3: whenever the power goes in a step that mends: what was sick is told with that, the healer stays there, and no round is over; a healer of the set that is opened then makes all well.
func TestPowerGoesInAStep(t *testing.T) {
	for _, c := range []struct {
		what  string
		ahead func(s *eset.Set, d *disk.Disk)
		steps int
		sick  api.Sick
		then  func(h *heal.Healer)
	}{
		{"Join", func(s *eset.Set, d *disk.Disk) { d.Replace() }, 3, out(1), func(h *heal.Healer) { step(t, h, out(1), api.ErrClosed) }},
		{"Lay of none", func(s *eset.Set, d *disk.Disk) { d.Replace(); s.Join(1) }, 4, missing(1, "a"), func(h *heal.Healer) { step(t, h, api.Sick{}, api.ErrClosed) }},
		{"Lay of rot", func(s *eset.Set, d *disk.Disk) { turn(t, d, "b") }, 5, rotten(1, "b"), func(h *heal.Healer) { step(t, h, api.Sick{}, api.ErrClosed) }},
	} {
		cut := 0
		for fuse := 0; ; fuse++ {
			p, d, s := rack(t, 1, 1, 128)
			commit(t, s, keep("a", of("a", 200)), keep("b", "2"))
			c.ahead(s, d[1])
			h := heal.New(s)
			well(t, h, c.steps)
			p.Fuse(fuse)
			got, sick, err := h.Step()
			if got != c.sick || !sick {
				t.Error(c.what, got, sick)
			}
			if err == nil {
				break
			}
			came(t, c.what, err, api.ErrPower)
			for range 2 {
				c.then(h)
				rounds(t, h, 0)
			}
			p.On()
			for i := range d {
				d[i].Lose([]bool{fuse%2 == 0, fuse%3 == 0, true}, 5)
			}
			c.then(h)
			rounds(t, h, 0)
			s = open(t, d, 1, 1)
			healed(t, s)
			d[0].Kill()
			has(t, s, "a", of("a", 200))
			has(t, s, "b", "2")
			if cut++; fuse > 100 {
				t.Fatal(err)
			}
		}
		if cut < 4 {
			t.Error(c.what, "cut only", cut)
		}
	}
}

// healed asks that a round makes all of a set well.
func healed(t *testing.T, s *eset.Set) {
	t.Helper()
	h := heal.New(s)
	l, _ := s.Keys("")
	steps := s.Disks() * (len(l) + 1)
	for range steps {
		rounds(t, h, 0)
		_, _, err := h.Step()
		came(t, "Step", err, api.OK)
	}
	rounds(t, h, 1)
	scan(t, s)
}

// P11.3: keys that come between steps are looked at in their turn, if they are above the one behind which the healer is; else in the next round.
func TestKeysCome(t *testing.T) {
	_, d, s := rack(t, 1, 1, 256)
	commit(t, s, keep("b", "1"), keep("d", "1"))
	h := heal.New(s)
	grow := func(key string) {
		t.Helper()
		commit(t, s, keep(key, "1"))
		turn(t, d[0], key)
	}
	well(t, h, 1)
	grow("a") // behind no key: all are above
	step(t, h, rotten(0, "a"), api.OK)
	grow("a\x00")
	step(t, h, rotten(0, "a\x00"), api.OK)
	grow("a\x00\x00")
	grow("aa")
	grow("A")
	grow("a") // below, and itself: they are passed
	step(t, h, rotten(0, "a\x00\x00"), api.OK)
	step(t, h, rotten(0, "aa"), api.OK)
	well(t, h, 1) // b
	grow("c")
	step(t, h, rotten(0, "c"), api.OK)
	well(t, h, 1) // d: no key is above, so it is at the next disk itself
	grow("e")
	d[1].Kill()
	step(t, h, dead(1), api.OK)
	rounds(t, h, 0)
	scan(t, s, rotten(0, "A"), rotten(0, "a"), rotten(0, "e"), dead(1))
}

// P11.3: of a set without keys all steps look at disks themselves; those that come are looked at from the next disk itself on.
func TestNoKeys(t *testing.T) {
	_, d, s := rack(t, 1, 2, 128)
	h := heal.New(s)
	for i := range 9 {
		rounds(t, h, i/3)
		d[i%3].Replace()
		step(t, h, out(i%3), api.OK)
	}
	well(t, h, 1)
	commit(t, s, keep("a", "1"))
	turn(t, d[0], "a")
	turn(t, d[1], "a")
	well(t, h, 1)
	step(t, h, rotten(1, "a"), api.OK)
	scan(t, s, rotten(0, "a"))
	well(t, h, 2)
	rounds(t, h, 4)
	well(t, h, 1)
	step(t, h, rotten(0, "a"), api.OK)
}

// P11.3: keys that go between steps: if none is above any more, the step goes on to the next disk itself, and looks at that; behind the last disk a round is over by it.
func TestKeysGo(t *testing.T) {
	_, d, s := rack(t, 1, 2, 256)
	commit(t, s, keep("a", "1"), keep("b", "1"), keep("c", "1"), keep("d", "1"))
	h := heal.New(s)
	well(t, h, 3) // behind b
	commit(t, s, gone("c"))
	turn(t, d[0], "d")
	step(t, h, rotten(0, "d"), api.OK)
	d[1].Kill()
	step(t, h, dead(1), api.OK)
	well(t, h, 1) // behind a
	commit(t, s, gone("a"))
	well(t, h, 1) // behind b
	commit(t, s, gone("d"))
	d[2].Kill()
	rounds(t, h, 0)
	step(t, h, dead(2), api.OK)
	commit(t, s, gone("b")) // there are none any more
	d[0].Replace()
	rounds(t, h, 0)
	step(t, h, out(0), api.OK)
	rounds(t, h, 1)
	step(t, h, dead(1), api.OK)
	commit(t, s, keep("a", "1"), keep("b", "1"))
	step(t, h, dead(2), api.OK)
	well(t, h, 1) // behind a of the last disk
	rounds(t, h, 1)
	commit(t, s, gone("a"), gone("b"), keep("A", "1"))
	d[0].Kill() // with it all keys
	step(t, h, dead(0), api.OK)
	rounds(t, h, 2)
	step(t, h, dead(1), api.OK)
	step(t, h, dead(2), api.OK)
	rounds(t, h, 3)
}

// P11.3: a key that is behind is no matter: it may go and come again.
func TestTheKeyBehindGoes(t *testing.T) {
	_, d, s := rack(t, 1, 1, 128)
	commit(t, s, keep("a", "1"), keep("b", "1"), keep("c", "1"))
	h := heal.New(s)
	well(t, h, 3)
	commit(t, s, gone("b"))
	turn(t, d[0], "c")
	step(t, h, rotten(0, "c"), api.OK)
	well(t, h, 3)
	rounds(t, h, 1)
	commit(t, s, keep("b", "2"))
	well(t, h, 3)
	commit(t, s, keep("b", "3"))
	turn(t, d[0], "b")
	d[1].Replace()
	well(t, h, 1)
	step(t, h, out(1), api.OK)
	step(t, h, missing(1, "a"), api.OK)
	commit(t, s, gone("a"))
	step(t, h, missing(1, "b"), api.ErrFew)
	step(t, h, missing(1, "c"), api.OK)
	rounds(t, h, 2)
	scan(t, s, rotten(0, "b"), missing(1, "b"))
}

// P11.2: two healers of one set know nothing of each other.
func TestTwoHealers(t *testing.T) {
	_, d, s := rack(t, 1, 1, 128)
	commit(t, s, keep("a", "1"))
	one, two := heal.New(s), heal.New(s)
	well(t, one, 3)
	d[1].Replace()
	well(t, two, 2)
	well(t, one, 3)
	rounds(t, one, 1)
	step(t, two, out(1), api.OK)
	step(t, two, missing(1, "a"), api.OK)
	rounds(t, two, 1)
	well(t, one, 2)
	rounds(t, one, 2)
}
