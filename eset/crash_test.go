package eset_test

import (
	"errors"
	"slices"
	"testing"

	"storehouse/api"
	"storehouse/disk"
	"storehouse/eset"
	"storehouse/samples"
)

// scene is a set, its disks and their power, and what it keeps.
type scene struct {
	power *disk.Power
	disks []*disk.Disk
	set   *eset.Set
	plain plain
}

// newScene is a new set on disks of so many sectors.
func newScene(t *testing.T, k, m, sectors int) *scene {
	t.Helper()
	p, d, s := rack(t, k, m, sectors)
	return &scene{p, d, s, newPlain(k, m)}
}

// commit is done, and counts.
func (c *scene) commit(t *testing.T, changes ...api.Change) {
	t.Helper()
	done(t, c.set, changes...)
	c.plain = c.plain.commit(changes...)
}

// replace lays a blank disk in the place of one.
func (c *scene) replace(i int) {
	c.disks[i].Kill()
	c.disks[i].Replace()
}

// open finds the set that is there.
func (c *scene) open(t *testing.T) {
	t.Helper()
	c.set = open(t, c.disks, c.plain.k, c.plain.m)
}

// story is a call in which the power goes, behind what was done ahead of it.
type story struct {
	what    string
	ahead   func(t *testing.T, c *scene)
	call    func(c *scene) error
	changes []api.Change // what the call changes; of nil it changes nothing that is told
	code    api.Errno    // what is answered, if the power stays
	sound   []int        // the disks that are sound ahead of the call
}

// commits is a story of a Commit, on disks that are all sound.
func commits(what string, ahead func(t *testing.T, c *scene), changes ...api.Change) story {
	return story{what, ahead, func(c *scene) error { return c.set.Commit(changes) }, changes, api.OK, []int{0, 1, 2}}
}

// some is what most stories begin with.
func some(t *testing.T, c *scene) {
	c.commit(t, keep("a", of("a", 150)), keep("b", "stays"))
}

// without is the same, with a disk that is out.
func without(i int) func(t *testing.T, c *scene) {
	return func(t *testing.T, c *scene) {
		some(t, c)
		c.replace(i)
	}
}

// stories is calls of all kinds on 3 disks.
func stories() []story {
	mixed := []api.Change{keep("a", of("n", 90)), gone("b"), keep("c", "")}
	both, first := []int{0, 2}, []int{1, 2}
	l := []story{
		commits("the first Commit", func(*testing.T, *scene) {}, keep("a", "1"), keep("b", "")),
		commits("of all kinds", some, mixed...),
		commits("what is gone alone", some, gone("a"), gone("x")),
		commits("the same again", some, keep("a", of("a", 150))),
		commits("nothing that is told", some, gone("x")),
		{"without the disk 1", without(1), func(c *scene) error { return c.set.Commit(mixed) }, mixed, api.OK, both},
		{"without the disk 0", without(0), func(c *scene) error { return c.set.Commit(mixed) }, mixed, api.OK, first},
		{"with a joined disk", func(t *testing.T, c *scene) {
			without(1)(t, c)
			is(t, "Join", c.set.Join(1), api.OK, 0)
		}, func(c *scene) error { return c.set.Commit(mixed) }, mixed, api.OK, both},
		{"Join", without(1), func(c *scene) error { return c.set.Join(1) }, nil, api.OK, both},
		{"Lay", func(t *testing.T, c *scene) {
			without(1)(t, c)
			is(t, "Join", c.set.Join(1), api.OK, 0)
		}, func(c *scene) error { return c.set.Lay(1, "a") }, nil, api.OK, both},
		{"Lay of rot", func(t *testing.T, c *scene) {
			some(t, c)
			turn(t, c.disks[0], "da")
		}, func(c *scene) error { return c.set.Lay(0, "a") }, nil, api.OK, first},
		{"ErrFull", some, func(c *scene) error {
			return c.set.Commit([]api.Change{keep("a", "1"), keep("d", of("d", 8000)), keep("e", of("e", 8000))})
		}, nil, api.ErrFull, []int{0, 1, 2}},
	}
	for many := 1; many <= 4; many++ { // somewhere here the journals are laid anew
		l = append(l, commits("behind many", func(t *testing.T, c *scene) {
			for i := range many {
				c.commit(t, keep("a", of("a", i)), keep("b", of("b", 10*i)))
			}
		}, mixed...))
	}
	return l
}

// P10.8: whenever the power goes, in any call, and whatever is lost, Open finds all as it was ahead of the call, or as that would have left it; disks that were sound are in, and have what they must; and the set goes on.
func TestPowerGoes(t *testing.T) {
	for _, s := range stories() {
		t.Run(s.what, func(t *testing.T) {
			t.Parallel()
			over := false
			for fuse := 0; !over; fuse++ {
				var pending int
				pending, over = s.cut(t, fuse, nil, 0, true)
				s.cut(t, fuse, slices.Repeat([]bool{true}, pending), 0, true)
				for i, keep := range samples.Losses(min(pending, 5)) {
					s.cut(t, fuse, keep, 23*((fuse+i)%2), i%4 == 0)
				}
				if fuse > 300 {
					t.Fatal("no end")
				}
			}
		})
	}
}

// cut tries a story whose call has so long a fuse, when this is kept of what is pending on each disk, and perhaps lets it go on behind it; how much was pending at most, and whether the call came to its end.
func (s story) cut(t *testing.T, fuse int, keep []bool, torn int, on bool) (int, bool) {
	t.Helper()
	c := newScene(t, 2, 1, 96)
	s.ahead(t, c)
	pending, over := c.run(t, s, fuse, keep, torn)
	if c.settle(t, s, over); on {
		c.goesOn(t)
	}
	if t.Failed() {
		t.Fatalf("%s, cut at %d, kept %v, torn %d", s.what, fuse, keep, torn)
	}
	return pending, over
}

// run does the story's call till the power goes.
func (c *scene) run(t *testing.T, s story, fuse int, keep []bool, torn int) (int, bool) {
	t.Helper()
	c.power.Fuse(fuse)
	err := s.call(c)
	over := !c.power.Gone()
	if over && s.code == api.OK && err != nil || over && !errors.Is(err, s.code) && s.code != api.OK || !over && !errors.Is(err, api.ErrPower) {
		t.Error("answered", err)
	}
	if !over {
		_, err := c.set.Get("a")
		is(t, "Get, dark", err, api.ErrClosed, 0)
	}
	pending := 0
	for _, d := range c.disks {
		pending = max(pending, d.Pending())
	}
	c.power.On()
	for _, d := range c.disks {
		d.Lose(keep, torn)
	}
	return pending, over
}

// settle opens what a story left, and asks whether it may be so.
func (c *scene) settle(t *testing.T, s story, over bool) {
	t.Helper()
	before, after := c.plain, c.plain
	if s.changes != nil {
		after = before.commit(s.changes...)
	}
	c.open(t)
	switch got := told(c.set); {
	case got == after.told():
		c.plain = after
	case got != before.told() || over:
		t.Errorf("found\n%s\nnot\n%s", got, after.told())
	}
	for _, i := range s.sound {
		if !c.set.In(i) {
			t.Error("out is", i)
		}
	}
	c.plain.stands(t, c.disks, s.sound...)
}

// goesOn asks that disks are mended, and what is done then lasts, whatever stands there from the call that was cut.
func (c *scene) goesOn(t *testing.T) {
	t.Helper()
	for i := range c.disks {
		c.mend(t, i)
	}
	c.plain.agrees(t, c.disks, c.set)
	c.commit(t, keep("on", of("o", 50)), gone("c"))
	c.commit(t, keep("a", "again"), gone("on"))
	c.open(t)
	c.plain.agrees(t, c.disks, c.set)
}

// mend makes a disk sound.
func (c *scene) mend(t *testing.T, i int) {
	t.Helper()
	is(t, "Join", c.set.Join(i), api.OK, 0)
	l, err := c.set.Keys("")
	is(t, "Keys", err, api.OK, 0)
	for _, key := range l {
		is(t, "Lay", c.set.Lay(i, key), api.OK, 0)
	}
}

// P10.8: the power goes in a Commit, and then in the Open that would have brought it to its end, or taken it back, again and again.
func TestPowerGoesInOpen(t *testing.T) {
	changes := []api.Change{keep("a", of("n", 90)), gone("b"), keep("c", "")}
	over := false
	for fuse := 0; !over; fuse++ {
		for next := range 30 {
			c := newScene(t, 2, 1, 96)
			some(t, c)
			s := commits("Open", nil, changes...)
			_, over = c.run(t, s, fuse, nil, fuse%64)
			cut := false
			for again := range 3 {
				c.power.Fuse(next + again)
				o, err := eset.Open(c.disks, 2, 1)
				cut = c.power.Gone()
				if cut == (err == nil) || cut && (o != nil || !errors.Is(err, api.ErrPower)) {
					t.Fatal(o, err)
				}
				c.power.On()
				for _, d := range c.disks {
					d.Lose([]bool{next%2 > 0, true}, next)
				}
			}
			if c.settle(t, s, over); next%4 == 0 {
				c.goesOn(t)
			}
			if t.Failed() {
				t.Fatal("cut at", fuse, next)
			}
			if !cut {
				break
			}
		}
		if fuse > 300 {
			t.Fatal("no end")
		}
	}
}

// harms are what may befall a disk, so that it is not sound.
func harms() map[string]func(t *testing.T, d *disk.Disk) {
	return map[string]func(t *testing.T, d *disk.Disk){
		"killed":   func(t *testing.T, d *disk.Disk) { d.Kill() },
		"replaced": func(t *testing.T, d *disk.Disk) { d.Replace() },
		"first half of the journal": func(t *testing.T, d *disk.Disk) {
			for at := range 12 {
				d.Rot(at, 100)
			}
		},
		"journal": func(t *testing.T, d *disk.Disk) {
			for at := range 24 {
				d.Rot(at, 30+at)
			}
		},
		"data": func(t *testing.T, d *disk.Disk) {
			for at := 24; at < 96; at++ {
				d.Rot(at, at)
			}
		},
	}
}

// P10.8: the power goes in a Commit while a disk is not sound, or is not any more behind it: all or nothing is found.
func TestPowerGoesWithADiskThatIsNotSound(t *testing.T) {
	changes := []api.Change{keep("a", of("n", 90)), gone("b"), keep("c", "")}
	for what, harm := range harms() {
		for _, ahead := range []bool{false, true} {
			for i := range 3 {
				over := false
				for fuse := 0; !over; fuse++ {
					c := newScene(t, 2, 1, 96)
					some(t, c)
					if ahead {
						harm(t, c.disks[i])
					}
					s := commits(what, nil, changes...)
					s.sound = slices.DeleteFunc(s.sound, func(j int) bool { return j == i })
					_, over = c.run(t, s, fuse, []bool{true, false, true}, 9)
					if !ahead {
						harm(t, c.disks[i])
					}
					if c.disks[i].Dead() {
						c.settleWithout(t, s, over, i)
					} else {
						c.settle(t, s, over)
					}
					if fuse%4 == 0 {
						c.goesOn(t)
					}
					if t.Failed() || fuse > 300 {
						t.Fatal(what, ahead, i, fuse)
					}
				}
			}
		}
	}
}

// settleWithout is settle, where a disk is dead till the set is open.
func (c *scene) settleWithout(t *testing.T, s story, over bool, dead int) {
	t.Helper()
	after := c.plain.commit(s.changes...)
	c.open(t)
	got := told(c.set)
	if got != after.told() && (over || got != c.plain.told()) {
		t.Errorf("found\n%s", got)
	}
	c.disks[dead].Replace()
	c.settle(t, s, over)
}

// P10.8: what a Commit answered is there, though nothing is flushed behind it.
func TestWhatIsDoneLasts(t *testing.T) {
	c := newScene(t, 2, 1, 96)
	for i := range 12 {
		c.commit(t, keep(string(rune('a'+i%3)), of("v", 20*i)), gone("d"))
		for _, d := range c.disks {
			if d.Pending() != 0 {
				t.Error("pending:", d.Pending())
			}
		}
		c.power.Cut()
		for _, d := range c.disks {
			d.Lose(nil, 0)
		}
		c.power.On()
		c.plain.agrees(t, c.disks, open(t, c.disks, 2, 1))
		if i%3 == 0 {
			c.open(t)
		}
	}
}
