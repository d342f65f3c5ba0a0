package store_test

import (
	"errors"
	"math"
	"math/rand"
	"slices"
	"strings"
	"sync"
	"testing"
	"unsafe"

	"storehouse/api"
	"storehouse/disk"
	"storehouse/store"
)

// P1, P6: every call ends, and none panics, whatever it gets.
func TestAnyArguments(t *testing.T) {
	texts := []string{"", "a", "b", "\x00", "\xff\xfe", "é", of("n", 219), of("n", 220), of("n", 221), of("v", 11999), of("v", 12000), of("v", 12001), of("v", 1000000)}
	kinds := []int{math.MinInt, -1, 0, 1, 2, 3, 4, math.MaxInt}
	for _, sectors := range []int{32, 400} {
		_, d, s := rack(t, sectors)
		done(t, s, put("a", "1"))
		for _, kind := range kinds {
			for _, name := range texts {
				for _, to := range texts {
					for _, value := range texts {
						s.Commit(api.Act{Kind: kind, Name: name, To: to, Value: value})
					}
				}
			}
		}
		for _, text := range texts {
			s.Get(text)
			s.Where(text)
			s.Names(text)
		}
		for _, many := range []int{99, 100, 101, 100000} {
			s.Commit(slices.Repeat([]api.Act{put("a", "x")}, many)...)
			s.Commit(slices.Repeat([]api.Act{move("a", "a")}, many)...)
		}
		if told(open(t, d)) != told(s) {
			t.Error(told(s))
		}
	}
}

// P1: whatever bytes stand in the journal's records: Open answers, or finds a store that goes on.
func TestAnyRecords(t *testing.T) {
	r := rand.New(rand.NewSource(5))
	base := all(at("a", 5, 20, 1), at("b", 100, 11, 1, 10, 1))
	opened := 0
	for range 20000 {
		record := []byte(base)
		for range 1 + r.Intn(3) {
			record[r.Intn(len(record))] = byte(r.Intn(256) * r.Intn(2))
		}
		if r.Intn(4) == 0 {
			record = record[:r.Intn(len(record)+1)]
		}
		s, err := store.Open(written(t, 40, string(record)))
		if err != nil {
			is(t, "Open", err, api.ErrRot, 1)
			continue
		}
		opened++
		told(s)
		s.Commit(put("a", of("n", 200)), put("c", "1"))
		told(s)
	}
	if opened == 0 {
		t.Error("none was opened")
	}
}

// P2: the errors' numbers, each in a fault that is new; what came from below is found by its number, and as the fault that it was.
func TestErrors(t *testing.T) {
	if api.ErrArg != 1 || api.ErrPower != 10 || api.ErrDead != 11 || api.ErrFull != 12 || api.ErrNone != 13 || api.ErrRot != 14 || api.ErrBlank != 15 || api.ErrClosed != 16 {
		t.Error("an error's number")
	}
	if api.SmallestDisk != 32 || api.MaxName != 220 || api.MaxValue != 12000 || api.MaxActs != 100 || api.ActPut != 1 || api.ActDrop != 2 || api.ActMove != 3 {
		t.Error("a number of package api")
	}
	_, d, s := rack(t, 40)
	done(t, s, put("sick", "1"), put("a", ""))
	d.Rot(10, 0)
	p2, d2, shut := rack(t, 40)
	p2.Cut()
	shut.Commit(put("a", ""))
	p2.On()
	_, small := newDisk(t, 31)
	rotten := written(t, 40, "x")
	for name, call := range map[string]func() error{
		"Format":         func() error { _, err := store.Format(small); return err },
		"Open, small":    func() error { _, err := store.Open(small); return err },
		"Open, rot":      func() error { _, err := store.Open(rotten); return err },
		"Commit, arg":    func() error { return s.Commit(put("a", ""), drop("")) },
		"Commit, none":   func() error { return s.Commit(put("x", ""), drop("y")) },
		"Commit, full":   func() error { return s.Commit(put("x", of("x", 12000))) },
		"Commit, closed": func() error { return shut.Commit() },
		"Get, none":      func() error { _, err := s.Get("x"); return err },
		"Get, rot":       func() error { _, err := s.Get("sick"); return err },
		"Where":          func() error { _, err := s.Where("x"); return err },
		"Names":          func() error { _, err := shut.Names(""); return err },
	} {
		a, aOK := call().(*api.Fault)
		b, bOK := call().(*api.Fault)
		if !aOK || !bOK || *a != *b || a == b || a.Inner != nil {
			t.Errorf("%s: %v, %v", name, a, b)
		}
	}
	p2.Cut()
	for _, call := range []func() error{
		func() error { _, err := store.Format(d2); return err },
		func() error { _, err := store.Open(d2); return err },
		func() error { d.Kill(); return s.Commit(drop("a")) },
	} {
		err := call()
		var f, inner *api.Fault
		if !errors.As(err, &f) || !errors.As(f.Inner, &inner) || inner == f || inner.Code != f.Code || !errors.Is(err, inner.Code) || errors.Is(err, api.ErrRot) {
			t.Error(err)
		}
	}
}

// P2: what is refused changes nothing that a later call could tell.
func TestRefusedChangesNothing(t *testing.T) {
	p, d, s := rack(t, 40)
	done(t, s, put("a", "1"), put("b", of("b", 600)))
	before, acts, same := d.Image(), p.Acts(), told(s)
	s.Commit()
	s.Commit(put("a", "2"), drop(""))
	s.Commit(put("a", "2"), drop("b"), drop("b"))
	s.Commit(drop("a"), put("c", of("c", 64*20)))
	s.Commit(drop("a"), put(of("c", 200), ""))
	s.Get("x")
	s.Where("x")
	store.Open(d)
	if d.Image() != before || p.Acts() != acts || d.Pending() != 0 || told(s) != same {
		t.Error(told(s))
	}
}

// P3: nothing that is handed in is written into, nor what stands behind it, and none of it is kept.
func TestNothingIsKept(t *testing.T) {
	_, d, s := rack(t, 100)
	bytes := []byte("one two values behind")
	before := string(bytes)
	lent := unsafe.String(&bytes[0], len(bytes))
	one, two, values := lent[:3], lent[4:7], lent[8:14]
	acts := []api.Act{put(one, values), put(two, ""), put("x", "1"), move("x", two), drop("behind")}
	asked := slices.Clone(acts)
	done(t, s, acts[:4:4]...)
	done(t, s, move(two, lent[15:]), put(two, values))
	s.Get(one)
	s.Names(lent[:1])
	if string(bytes) != before || !slices.Equal(acts, asked) {
		t.Errorf("written into: %q, %v", bytes, acts)
	}
	want := strings.Clone(told(s))
	clear(bytes)
	clear(acts)
	names(t, s, "behind", "one", "two")
	has(t, s, "one", "values")
	if told(s) != want || told(open(t, d)) != want {
		t.Error(told(s))
	}
	done(t, s, put("four", ""))
	names(t, open(t, d), "behind", "four", "one", "two")
}

// P3: what is answered is new memory, each time, which nothing that is done behind it changes.
func TestAnswersAreNew(t *testing.T) {
	_, _, s := rack(t, 100)
	done(t, s, put("a", of("a", 100)), put("b", of("b", 10)))
	done(t, s, drop("a"), put("c", of("c", 64)))
	done(t, s, put("d", of("d", 300)))
	one, _ := s.Where("d")
	two, _ := s.Where("d")
	want := slices.Clone(one)
	one[0] = api.Extent{}
	_ = append(one[:1], api.Extent{})
	if !slices.Equal(two, want) {
		t.Error(two)
	}
	lies(t, s, "d", want[0].From, want[0].Many, want[1].From, want[1].Many)
	l, _ := s.Names("")
	again, _ := s.Names("")
	for i := range l {
		if unsafe.StringData(l[i]) == unsafe.StringData(again[i]) {
			t.Error("one place of", l[i])
		}
	}
	l[0] = "x"
	_ = append(l[:1], "y")
	if !slices.Equal(again, []string{"b", "c", "d"}) {
		t.Error(again)
	}
	names(t, s, "b", "c", "d")
	value, _ := s.Get("d")
	other, _ := s.Get("d")
	if unsafe.StringData(value) == unsafe.StringData(other) {
		t.Error("one place of", value)
	}
	done(t, s, put("d", "other"), drop("b"))
	if value != of("d", 300) || !slices.Equal(again, []string{"b", "c", "d"}) || !slices.Equal(two, want) {
		t.Error(value, again, two)
	}
}

// P4: the same steps, the same answers and the same bytes, at another disk, whatever goes on beside.
func TestNothingElseCounts(t *testing.T) {
	steps := func() string {
		p := disk.NewPower()
		d, _ := disk.New(p, 64)
		s, _ := store.Format(d)
		r := rand.New(rand.NewSource(9))
		for range 20 {
			s.Commit(anyActs(r, 200)...)
		}
		text := told(s)
		p.Fuse(3)
		s.Commit(put("x", of("x", 300)))
		p.On()
		d.Lose([]bool{true, true}, 7)
		s, _ = store.Open(d)
		s.Commit(put("y", ""), put("x", "1"))
		return text + told(s) + d.Image()
	}
	want := steps()
	var workers sync.WaitGroup
	for range 8 {
		workers.Go(func() {
			for range 20 {
				if steps() != want {
					t.Error("another answer")
				}
			}
		})
	}
	workers.Wait()
}

// P5: a list of nothing may be nil or empty.
func TestOfNothing(t *testing.T) {
	_, _, s := rack(t, 40)
	is(t, "nil", s.Commit(nil...), api.ErrArg, 0)
	is(t, "empty", s.Commit([]api.Act{}...), api.ErrArg, 0)
	names(t, s)
	done(t, s, put("a", ""))
	lies(t, s, "a")
	has(t, s, "a", "")
}

// Two stores, on disks of one power, are apart.
func TestTwoStores(t *testing.T) {
	p := disk.NewPower()
	var stores []*store.Store
	var disks []*disk.Disk
	for range 2 {
		d, err := disk.New(p, 40)
		is(t, "New", err, api.OK, 0)
		stores, disks = append(stores, format(t, d)), append(disks, d)
	}
	done(t, stores[0], put("a", "0"))
	done(t, stores[1], put("a", "1"), put("b", ""))
	names(t, stores[0], "a")
	has(t, open(t, disks[0]), "a", "0")
	has(t, open(t, disks[1]), "a", "1")
}
