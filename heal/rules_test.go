package heal_test

import (
	"errors"
	"fmt"
	"math/rand"
	"slices"
	"strings"
	"sync"
	"testing"

	"storehouse/api"
	"storehouse/disk"
	"storehouse/eset"
	"storehouse/frame"
	"storehouse/heal"
)

// all is all that can be told of a set and its disks, of what they have a sum.
func all(p *disk.Power, d []*disk.Disk, s *eset.Set) string {
	l, err := s.Keys("")
	text := fmt.Sprint(p.Acts(), p.Gone(), s.Gen(), l, err)
	for _, key := range l {
		value, err := s.Get(key)
		text += fmt.Sprintf("%q: %.20q %x %v\n", key, value, frame.Sum(value), err)
		for i := range d {
			text += fmt.Sprintln(s.Look(i, key))
		}
	}
	for i := range d {
		text += fmt.Sprintln(s.In(i), d[i].Dead(), d[i].Life(), d[i].Pending(), frame.Sum(d[i].Image()))
	}
	return text
}

// P1: whatever is done to disks and their power, all calls end, and none panics.
func TestAnyState(t *testing.T) {
	for seed := range 200 {
		r := rand.New(rand.NewSource(int64(seed)))
		p, d, s := rack(t, 1+r.Intn(3), r.Intn(3), 32+r.Intn(64))
		h := heal.New(s)
		for range 60 {
			i, key := r.Intn(len(d)), string(rune('a'+r.Intn(4)))
			switch r.Intn(12) {
			case 0:
				d[i].Kill()
			case 1:
				d[i].Replace()
			case 2:
				d[i].Rot(r.Intn(d[i].Sectors()), r.Intn(512))
			case 3:
				p.Fuse(r.Intn(40))
			case 4:
				p.On()
			case 5:
				s.Commit([]api.Change{keep(key, of(key, r.Intn(2000)))})
			case 6:
				s.Commit([]api.Change{gone(key)})
			}
			l, err := heal.Scan(s)
			if err != nil && l != nil || slices.Contains(l, api.Sick{}) {
				t.Fatal(seed, l, err)
			}
			x, sick, _ := h.Step()
			if sick != (x.Kind != 0) || !sick && x != (api.Sick{}) {
				t.Fatal(seed, x, sick)
			}
		}
	}
}

// P1: sets of all sizes that may be.
func TestShapes(t *testing.T) {
	for n := 1; n <= 16; n++ {
		for k := 1; k <= n; k++ {
			_, d, s := rack(t, k, n-k, 40)
			commit(t, s, keep("a", "1"))
			d[n-1].Replace()
			if n == 1 {
				scan(t, s, out(0))
				continue
			}
			scan(t, s, out(n-1))
			h := heal.New(s)
			well(t, h, 2*n-2)
			step(t, h, out(n-1), api.OK)
			if code := api.ErrFew; k < n {
				step(t, h, missing(n-1, "a"), api.OK)
				scan(t, s)
			} else {
				step(t, h, missing(n-1, "a"), code)
				scan(t, s, missing(n-1, "a"))
			}
			rounds(t, h, 1)
		}
	}
}

// P2: an error is a new fault each time, in which that from which it came is found.
func TestFaults(t *testing.T) {
	p, d, s := rack(t, 1, 1, 128)
	commit(t, s, keep("a", "1"))
	d[0].Replace()
	p.Cut()
	h := heal.New(s)
	_, _, join := h.Step()
	well(t, h, 2)
	_, _, look := h.Step()
	_, _, again := h.Step()
	_, told := heal.Scan(s)
	errs := []error{join, look, again, told}
	for i, err := range errs {
		came(t, "error", err, api.ErrPower)
		var inner *api.Fault
		if !errors.As(errors.Unwrap(err), &inner) || inner.Code != api.ErrPower {
			t.Error("came from nothing:", err)
		}
		if slices.Contains(errs[:i], err) {
			t.Error("one error twice:", err)
		}
	}
}

// P3: what Scan answers is new memory, spare room too.
func TestAnswersAreNew(t *testing.T) {
	_, d, s := rack(t, 1, 1, 128)
	commit(t, s, keep("a", "1"), keep("b", "2"), keep("c", "3"))
	d[1].Replace()
	came(t, "Join", s.Join(1), api.OK)
	one, _ := heal.Scan(s)
	two, _ := heal.Scan(s)
	want := []api.Sick{missing(1, "a"), missing(1, "b"), missing(1, "c")}
	one[0] = dead(7)
	_ = append(one[:1], dead(8))
	_ = append(one, dead(9))
	if !slices.Equal(two, want) {
		t.Error(two)
	}
	scan(t, s, want...)
	healed(t, s)
	if !slices.Equal(two, want) {
		t.Error(two)
	}
}

// P4: the same steps, the same answers, whatever goes on beside.
func TestNothingElseCounts(t *testing.T) {
	steps := func() string {
		var text strings.Builder
		r := rand.New(rand.NewSource(5))
		p, d, s := rack(t, 2, 2, 128)
		h := heal.New(s)
		for range 200 {
			i, key := r.Intn(4), string(rune('a'+r.Intn(6)))
			switch r.Intn(9) {
			case 0:
				d[i].Kill()
			case 1, 2:
				d[i].Replace()
			case 3:
				d[i].Rot(r.Intn(128), r.Intn(512))
			case 4, 5:
				s.Commit([]api.Change{keep(key, of(key, r.Intn(100)))})
			case 6:
				s.Commit([]api.Change{gone(key)})
			}
			x, sick, err := h.Step()
			l, fails := heal.Scan(s)
			fmt.Fprintln(&text, x, sick, err, h.Rounds(), l, fails)
		}
		return text.String() + all(p, d, s)
	}
	want := steps()
	var workers sync.WaitGroup
	for range 4 {
		workers.Go(func() {
			for range 4 {
				if steps() != want {
					t.Error("another answer")
				}
			}
		})
	}
	workers.Wait()
}
