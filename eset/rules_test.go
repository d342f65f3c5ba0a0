package eset_test

import (
	"errors"
	"fmt"
	"maps"
	"math"
	"math/rand"
	"slices"
	"sync"
	"testing"
	"unsafe"

	"storehouse/api"
	"storehouse/disk"
	"storehouse/eset"
)

// everything makes all calls of a set with these arguments.
func everything(s *eset.Set, numbers []int, texts []string) {
	s.Disks()
	s.Gen()
	for _, i := range numbers {
		s.Dead(i)
		s.In(i)
		for _, key := range texts {
			s.Look(i, key)
			s.Lay(i, key)
		}
	}
	for _, key := range texts {
		s.Get(key)
		s.Keys(key)
		for _, value := range texts {
			s.Commit([]api.Change{keep(key, value)})
			s.Commit([]api.Change{{Key: key, Value: value, Gone: true}})
		}
		s.Commit([]api.Change{gone(key)})
	}
}

// P1, P6: every call ends, and none panics, whatever it gets.
func TestAnyArguments(t *testing.T) {
	numbers := []int{math.MinInt, -1, 0, 1, 2, 3, 15, 16, math.MaxInt}
	texts := []string{"", "a", "\x00", "\xff\xfe", "é", "!", "n", of("k", 199), of("k", 200), of("k", 201), of("v", 7999), of("v", 8000), of("v", 8001), of("v", 1000000)}
	for _, sectors := range []int{32, 600} {
		p, d, s := rack(t, 2, 1, sectors)
		for _, let := range []func(){func() {}, p.Cut, p.On, d[1].Kill, d[1].Replace, func() { s.Join(1) }, func() { p.Fuse(20) }, p.On, d[0].Kill, d[2].Replace} {
			let()
			everything(s, numbers, texts)
		}
		for _, i := range numbers {
			s.Join(i)
		}
		p.On()
		if s, err := eset.Format([]*disk.Disk{d[0], d[2], d[0]}, 2, 1); err == nil { // one disk in two places
			everything(s, numbers, texts)
			eset.Open([]*disk.Disk{d[0], d[2], d[0]}, 2, 1)
		}
		for _, k := range numbers {
			for _, m := range numbers {
				eset.Open(d, k, m)
				eset.Open(nil, k, m)
				eset.Format(nil, k, m)
			}
		}
	}
}

// P1: whatever stands on the disks: Open answers, or finds a set that goes on.
func TestAnyBytesOnDisks(t *testing.T) {
	r := rand.New(rand.NewSource(3))
	p := at(7, keep("a", "one"), keep("b", of("b", 300)))
	opened := 0
	for range 1500 {
		var names []map[string]string
		for i := range 3 {
			l := with(p.names(i))
			if r.Intn(2) == 0 {
				l = with(l, "n", cardOf(2, 1, i, 6+r.Intn(3)), "t", goneOf(6+r.Intn(3), "b", "x"), "sa", shardOf(2, 1, i, "a", "new"))
			}
			for _, name := range slices.Sorted(maps.Keys(l)) {
				if text := []byte(l[name]); r.Intn(4) == 0 {
					text[r.Intn(len(text))] ^= byte(1 << r.Intn(8))
					l[name] = string(text[:r.Intn(len(text)+1)])
				} else if r.Intn(6) == 0 {
					l[name] = seal(name, list(u32(r.Intn(3)), u32(r.Intn(9)), of("x", r.Intn(5)), u32(2), u32(7))[:r.Intn(30)])
				}
			}
			names = append(names, l)
		}
		_, d := all(t, names...)
		s, err := eset.Open(d, 2, 1)
		if err != nil {
			if s != nil || !errors.Is(err, api.ErrBlank) && !errors.Is(err, api.ErrQuorum) {
				t.Fatal(s, err)
			}
			continue
		}
		opened++
		told(s)
		for i := range 3 {
			s.Look(i, "a")
			s.Join(i)
			s.Lay(i, "b")
		}
		is(t, "Commit", s.Commit([]api.Change{keep("a", "again"), gone("b")}), api.OK, 0)
		has(t, s, "a", "again")
	}
	if opened < 100 {
		t.Error("few were opened:", opened)
	}
}

// P1: random bytes in the place of sectors.
func TestAnySectors(t *testing.T) {
	r := rand.New(rand.NewSource(4))
	for range 300 {
		_, d, s := rack(t, 2, 1, 64)
		done(t, s, keep("a", "one"), keep("b", of("b", 100)))
		for range 1 + r.Intn(6) {
			text := make([]byte, 64)
			r.Read(text)
			is(t, "Write", d[r.Intn(3)].Write(r.Intn(64), string(text)), api.OK, 0)
		}
		told(s)
		if o, err := eset.Open(d, 2, 1); err == nil {
			told(o)
			o.Commit([]api.Change{keep("a", "again"), gone("b")})
			told(o)
		}
		s.Commit([]api.Change{keep("a", "again"), gone("b")})
		told(s)
	}
}

// P2: the errors' numbers, each in a fault that is new; those that came from a store are found as that one's, too.
func TestErrors(t *testing.T) {
	if api.ErrArg != 1 || api.ErrPower != 10 || api.ErrDead != 11 || api.ErrFull != 12 || api.ErrNone != 13 || api.ErrRot != 14 || api.ErrBlank != 15 || api.ErrClosed != 16 || api.ErrFew != 17 || api.ErrQuorum != 21 {
		t.Error("an error's number")
	}
	if api.MaxDisks != 16 || api.MaxSetKey != 200 || api.MaxSetValue != 8000 || api.MaxChanges != 32 {
		t.Error("a number of package api")
	}
	_, d, s := rack(t, 2, 1, 64)
	done(t, s, keep("a", "1"), keep("b", "1"))
	turn(t, d[0], "da")
	d[1].Kill()
	_, blank := newDisks(t, 3, 64)
	p2, _, shut := rack(t, 2, 1, 64)
	p2.Fuse(3)
	shut.Commit([]api.Change{keep("a", "")})
	p2.On()
	_, half, _ := rack(t, 2, 1, 64)
	half[0].Replace()
	half[1].Kill()
	_, d3, poor := rack(t, 2, 1, 64)
	d3[0].Kill()
	d3[2].Kill()
	for name, call := range map[string]func() error{
		"Format":         func() error { _, err := eset.Format(d, 2, 2); return err },
		"Open, arg":      func() error { _, err := eset.Open(d, 0, 3); return err },
		"Open, blank":    func() error { _, err := eset.Open(blank, 2, 1); return err },
		"Open, quorum":   func() error { _, err := eset.Open(half, 2, 1); return err },
		"Get, closed":    func() error { _, err := shut.Get("a"); return err },
		"Get, arg":       func() error { _, err := s.Get(""); return err },
		"Get, none":      func() error { _, err := s.Get("x"); return err },
		"Get, few":       func() error { _, err := s.Get("a"); return err },
		"Keys":           func() error { _, err := shut.Keys(""); return err },
		"Commit, closed": func() error { return shut.Commit(nil) },
		"Commit, arg":    func() error { return s.Commit(nil) },
		"Commit, quorum": func() error { return poor.Commit([]api.Change{gone("a")}) },
		"Look, arg":      func() error { return s.Look(3, "a") },
		"Look, none":     func() error { return s.Look(0, "x") },
		"Look, dead":     func() error { return s.Look(1, "a") },
		"Join, arg":      func() error { return s.Join(-1) },
		"Lay, arg":       func() error { return s.Lay(3, "a") },
		"Lay, few":       func() error { return s.Lay(0, "a") },
	} {
		a, aOK := call().(*api.Fault)
		b, bOK := call().(*api.Fault)
		if !aOK || !bOK || *a != *b || a == b || a.Inner != nil {
			t.Errorf("%s: %v, %v", name, a, b)
		}
	}
	full := func() error { return s.Commit([]api.Change{keep("x", of("x", 8000))}) }
	for name, call := range map[string]func() error{
		"Commit, full": full,
		"Look, rot":    func() error { return s.Look(0, "a") },
		"Join, dead":   func() error { return s.Join(1) },
		"Format, dead": func() error { _, err := eset.Format(d, 2, 1); return err },
	} {
		a, b := call(), call()
		var f, inner *api.Fault
		if !errors.As(a, &f) || !errors.As(f.Inner, &inner) || inner.Code != f.Code || f.At != 0 || a == b || !errors.Is(a, inner.Code) || errors.Is(a, api.ErrShape) {
			t.Error(name, a)
		}
	}
}

// P2: what is refused changes nothing that a later call could tell.
func TestRefusedChangesNothing(t *testing.T) {
	p, d, s := rack(t, 2, 2, 64)
	done(t, s, keep("a", "1"), keep("b", of("b", 100)))
	d[3].Kill()
	look := func() string {
		text := told(s)
		for i := range 4 {
			text += fmt.Sprint(s.In(i), s.Dead(i), s.Look(i, "a"), d[i].Image(), d[i].Pending())
		}
		return text
	}
	before, acts := look(), p.Acts()
	for _, changes := range [][]api.Change{nil, {gone("")}, {keep("a", "2"), keep("", "")}, {keep("a", of("v", 8001))}} {
		is(t, "Commit", s.Commit(changes), api.ErrArg, 0)
	}
	s.Get("")
	s.Get("x")
	s.Keys("x")
	s.Join(-1)
	s.Join(3)
	s.Join(0)
	s.Lay(0, "a")
	s.Lay(3, "a")
	s.Lay(0, "x")
	s.Lay(4, "a")
	eset.Open(d, 2, 1)
	eset.Open(d, 2, 2)
	eset.Open(d, 1, 3)
	p.Cut()
	s.Commit([]api.Change{keep("a", "2")})
	s.Get("a")
	s.Lay(0, "a")
	s.Join(3)
	eset.Open(d, 2, 2)
	p.On()
	if look() != before || p.Acts() != acts {
		t.Error("something has changed")
	}
}

// P3: nothing that is handed in is written into, nor what stands behind it, and none of it is kept.
func TestNothingIsKept(t *testing.T) {
	_, d, s := rack(t, 2, 1, 256)
	p := newPlain(2, 1)
	bytes := []byte("one two values behind")
	before := string(bytes)
	lent := unsafe.String(&bytes[0], len(bytes))
	one, two, values := lent[:3], lent[4:7], lent[8:14]
	changes := []api.Change{keep(one, values), keep(two, lent), gone(lent[15:]), keep("x", ""), gone("y")}
	asked := slices.Clone(changes)
	done(t, s, changes[:4]...)
	p = p.commit(keep("one", "values"), keep("two", before), keep("x", ""))
	s.Get(one)
	s.Keys(lent[:1])
	d[1].Replace()
	is(t, "Join", s.Join(1), api.OK, 0)
	is(t, "Lay", s.Lay(1, one), api.OK, 0)
	is(t, "Lay", s.Lay(1, two), api.OK, 0)
	is(t, "Lay", s.Lay(1, "x"), api.OK, 0)
	if string(bytes) != before || !slices.Equal(changes, asked) {
		t.Errorf("written into: %q, %v", bytes, changes)
	}
	clear(bytes)
	clear(changes)
	p.agrees(t, d, s)
	d[0].Kill() // what disk 1 was lent is asked for now
	keys(t, s, "", "one", "two", "x")
	has(t, s, "one", "values")
	is(t, "Look", s.Look(1, "two"), api.OK, 0)
	d[2].Kill()
	keys(t, s, "", "one", "two", "x")
}

// P3: the list of disks is none of the set's.
func TestDisksAreNotKept(t *testing.T) {
	_, d := newDisks(t, 3, 64)
	_, other := newDisks(t, 3, 64)
	mine := slices.Clone(d)
	long := append(slices.Clone(d), other...)
	s := format(t, long[:3], 2, 1)
	o := open(t, mine, 2, 1)
	if !slices.Equal(long[:3], d) || !slices.Equal(long[3:], other) || !slices.Equal(mine, d) {
		t.Error("a list of disks was written into")
	}
	copy(mine, other)
	copy(long, other)
	done(t, s, keep("a", "1"))
	d[0].Kill()
	if !s.Dead(0) || !o.Dead(0) || o.In(0) {
		t.Error("another disk is asked")
	}
	has(t, s, "a", "1")
}

// P3: what is answered is new memory, each time, which nothing that is done behind it changes.
func TestAnswersAreNew(t *testing.T) {
	for _, c := range []struct{ k, m int }{{1, 0}, {1, 1}, {2, 1}} {
		_, _, s := rack(t, c.k, c.m, 128)
		done(t, s, keep("a", of("a", 100)), keep("b", "2"), keep("c", "3"))
		one, _ := s.Keys("")
		two, _ := s.Keys("")
		for i := range one {
			if unsafe.StringData(one[i]) == unsafe.StringData(two[i]) {
				t.Error("one place of", one[i])
			}
		}
		one[0] = "x"
		_ = append(one[:1], "y")
		if !slices.Equal(two, []string{"a", "b", "c"}) {
			t.Error(two)
		}
		keys(t, s, "", "a", "b", "c")
		value, _ := s.Get("a")
		again, _ := s.Get("a")
		if unsafe.StringData(value) == unsafe.StringData(again) {
			t.Error("one place of", value)
		}
		done(t, s, keep("a", "other"), gone("b"))
		if value != of("a", 100) || !slices.Equal(two, []string{"a", "b", "c"}) {
			t.Error(value, two)
		}
	}
}

// P4: the same steps, the same answers and the same bytes, on other disks, whatever goes on beside, in whatever order changes of several keys come.
func TestNothingElseCounts(t *testing.T) {
	steps := func(turned bool) string {
		p := disk.NewPower()
		var d []*disk.Disk
		for range 3 {
			one, _ := disk.New(p, 128)
			d = append(d, one)
		}
		s, _ := eset.Format(d, 2, 1)
		r := rand.New(rand.NewSource(9))
		for range 20 {
			changes := []api.Change{}
			for i := range 5 {
				changes = append(changes, api.Change{Key: string(rune('a' + i + r.Intn(2)*10)), Value: of("v", r.Intn(200))})
			}
			changes = append(changes, gone("x"), gone("y"), gone("z"))
			if turned {
				slices.Reverse(changes)
			}
			s.Commit(changes)
		}
		text := told(s)
		d[1].Replace()
		s.Join(1)
		l, _ := s.Keys("")
		for _, key := range l {
			s.Lay(1, key)
		}
		p.Fuse(33)
		s.Commit([]api.Change{keep("x", of("x", 300)), keep("a", "")})
		p.On()
		for i := range d {
			d[i].Lose([]bool{true, true}, 7)
		}
		s, _ = eset.Open(d, 2, 1)
		return text + told(s) + d[0].Image() + d[1].Image() + d[2].Image()
	}
	want := steps(false)
	if steps(true) != want {
		t.Error("the order of changes of several keys counts")
	}
	var workers sync.WaitGroup
	for range 4 {
		workers.Go(func() {
			for range 4 {
				if steps(false) != want {
					t.Error("another answer")
				}
			}
		})
	}
	workers.Wait()
}

// P5: a list of nothing may be nil or empty.
func TestOfNothing(t *testing.T) {
	_, d, s := rack(t, 2, 1, 64)
	for _, changes := range [][]api.Change{nil, {}} {
		is(t, "Commit", s.Commit(changes), api.ErrArg, 0)
	}
	for _, disks := range [][]*disk.Disk{nil, {}} {
		_, err := eset.Format(disks, 1, 0)
		is(t, "Format", err, api.ErrArg, 0)
		_, err = eset.Open(disks, 0, 0)
		is(t, "Open", err, api.ErrArg, 0)
	}
	keys(t, s, "")
	done(t, s, keep("a", ""))
	has(t, s, "a", "")
	has(t, open(t, d, 2, 1), "a", "")
}

// Two sets on disks of one power are apart.
func TestTwoSets(t *testing.T) {
	p := disk.NewPower()
	var sets []*eset.Set
	var disks [][]*disk.Disk
	for range 2 {
		var d []*disk.Disk
		for range 3 {
			one, _ := disk.New(p, 64)
			d = append(d, one)
		}
		disks, sets = append(disks, d), append(sets, format(t, d, 2, 1))
	}
	done(t, sets[0], keep("a", "0"))
	done(t, sets[1], keep("a", "1"), keep("b", ""))
	disks[0][1].Kill()
	keys(t, sets[0], "", "a")
	has(t, open(t, disks[0], 2, 1), "a", "0")
	has(t, open(t, disks[1], 2, 1), "a", "1")
	inside(t, sets[0], "02")
	inside(t, sets[1], "012")
}
