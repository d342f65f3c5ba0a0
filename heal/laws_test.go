package heal_test

import (
	"fmt"
	"maps"
	"math/rand"
	"testing"

	"storehouse/api"
	"storehouse/heal"
	"storehouse/store"
)

// P11.4: a round has n * (K + 1) steps, if no key comes or goes: of a set that is well, and of one that is mended on the way.
func TestStepsOfARound(t *testing.T) {
	for _, shape := range [][2]int{{1, 0}, {1, 1}, {2, 1}, {2, 3}} {
		for many := range 4 {
			n := shape[0] + shape[1]
			_, d, s := rack(t, shape[0], shape[1], 256)
			for key := range many {
				commit(t, s, keep(fmt.Sprint(key), of("v", 50*key)))
			}
			h := heal.New(s)
			if shape[1] > 0 {
				d[n-1].Kill()
			}
			for step := range 4 * n * (many + 1) {
				rounds(t, h, step/(n*(many+1)))
				if shape[1] > 0 && step == n*(many+1) {
					d[n-1].Replace()
				}
				h.Step()
			}
			rounds(t, h, 4)
			scan(t, s)
		}
	}
}

// P11.4: a step of which nothing was sick changes nothing; nor does one that finds a disk that is dead.
func TestWellStepsChangeNothing(t *testing.T) {
	for _, kill := range []bool{false, true} {
		p, d, s := rack(t, 2, 1, 128)
		commit(t, s, keep("a", "1"), keep("b", of("b", 900)), keep("c", ""))
		if kill {
			d[1].Kill()
		}
		before := all(p, d, s)
		h := heal.New(s)
		for range 36 {
			x, sick, err := h.Step()
			if sick && (!kill || x != dead(1)) || err != nil {
				t.Error(x, sick, err)
			}
			if got := all(p, d, s); got != before {
				t.Fatalf("%s\nnot\n%s", got, before)
			}
		}
		rounds(t, h, 3)
	}
}

// P11.4: if no disk is dead, at most m disks are not sound, and there is room, a round makes all well: each value is what it was, and any m disks may fail again.
func TestARoundMakesWell(t *testing.T) {
	for seed := range 120 {
		r := rand.New(rand.NewSource(int64(seed)))
		shape := [][2]int{{2, 1}, {1, 2}, {2, 2}, {3, 2}, {4, 1}, {1, 1}}[seed%6]
		w := newWorld(t, shape[0], shape[1])
		for range 6 {
			for range 1 + r.Intn(4) {
				w.change(t, r)
			}
			values := maps.Clone(w.values)
			for _, i := range r.Perm(len(w.disks))[:r.Intn(shape[1]+1)] {
				w.harm(t, r, i)
			}
			healed(t, w.set)
			for i := range w.disks {
				if !w.set.In(i) {
					t.Error("out is", i)
				}
				w.in[i], w.sick[i] = true, map[string]int{}
			}
			lost := r.Perm(len(w.disks))[:shape[1]]
			for _, i := range lost {
				w.disks[i].Kill()
			}
			w.tells(t, values)
			w.set = open(t, w.disks, shape[0], shape[1])
			w.tells(t, values)
			for _, i := range lost {
				w.disks[i].Replace()
			}
			if healed(t, w.set); t.Failed() {
				t.Fatal(seed)
			}
		}
	}
}

// harm makes a disk one that is not sound.
func (w *world) harm(t *testing.T, r *rand.Rand, i int) {
	t.Helper()
	switch r.Intn(4) {
	case 0:
		w.disks[i].Replace()
	case 1:
		w.disks[i].Kill()
		w.disks[i].Replace()
		came(t, "Join", w.set.Join(i), api.OK)
		for _, key := range w.keys() {
			if r.Intn(2) == 0 {
				came(t, "Lay", w.set.Lay(i, key), api.OK)
			}
		}
	default:
		for _, key := range w.keys() {
			if r.Intn(2) == 0 {
				turn(t, w.disks[i], key)
			}
		}
	}
}

// tells asks that the set has these values, and no other ones.
func (w *world) tells(t *testing.T, values map[string]string) {
	t.Helper()
	l, err := w.set.Keys("")
	if len(l) != len(values) || err != nil {
		t.Error(l, err)
	}
	for key, value := range values {
		has(t, w.set, key, value)
	}
}

// P11.1, P11.4: bits that have turned in journals and cards are nobody's sickness, and do not hinder mending.
func TestRotBesideShards(t *testing.T) {
	for seed := range 40 {
		r := rand.New(rand.NewSource(int64(seed)))
		w := newWorld(t, 2, 2)
		for range 8 {
			w.change(t, r)
		}
		var want []api.Sick
		for _, i := range []int{seed % 3, 3} {
			o, err := store.Open(w.disks[i])
			came(t, "Open", err, api.OK)
			card, err := o.Where("!")
			came(t, "Where", err, api.OK)
			for _, key := range w.keys() {
				turn(t, w.disks[i], key)
				want = append(want, rotten(i, key))
			}
			for _, at := range []int{card[0].From, r.Intn(64), r.Intn(64), r.Intn(64)} {
				came(t, "Rot", w.disks[i].Rot(at, r.Intn(512)), api.OK)
			}
		}
		scan(t, w.set, want...)
		healed(t, w.set)
		w.tells(t, w.values)
		for i := range 3 {
			if i != seed%3 {
				w.disks[i].Kill()
			}
		}
		if w.tells(t, w.values); t.Failed() {
			t.Fatal(seed)
		}
	}
}

// P11.4: healing goes on beside what is done: keys that change while a round is under way are well behind it, too.
func TestHealingBesideCommits(t *testing.T) {
	for seed := range 40 {
		r := rand.New(rand.NewSource(int64(seed)))
		w := newWorld(t, 2, 2)
		for range 5 {
			w.change(t, r)
		}
		w.disks[seed%4].Replace()
		w.disks[(seed+1)%4].Replace()
		h := heal.New(w.set)
		for h.Rounds() == 0 {
			_, _, err := h.Step()
			came(t, "Step", err, api.OK)
			if r.Intn(3) == 0 {
				for i := range w.in { // as many are in as there are data
					w.in[i] = w.set.In(i)
				}
				w.change(t, r)
			}
		}
		scan(t, w.set)
		w.tells(t, w.values)
		w.disks[(seed+2)%4].Kill()
		w.disks[(seed+3)%4].Kill()
		w.tells(t, w.values)
	}
}
