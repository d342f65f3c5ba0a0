package heal_test

import (
	"maps"
	"math/rand"
	"slices"
	"testing"

	"storehouse/api"
	"storehouse/disk"
	"storehouse/eset"
	"storehouse/heal"
)

// world is a set, and all that is wrong with its disks, as far as it is known from what was done to them.
type world struct {
	power    *disk.Power
	disks    []*disk.Disk
	set      *eset.Set
	k        int
	values   map[string]string
	dead, in []bool
	sick     []map[string]int // of the keys that are there
}

func newWorld(t *testing.T, k, m int) *world {
	t.Helper()
	p, d, s := rack(t, k, m, 256)
	w := &world{p, d, s, k, map[string]string{}, make([]bool, k+m), make([]bool, k+m), make([]map[string]int, k+m)}
	for i := range d {
		w.in[i], w.sick[i] = true, map[string]int{}
	}
	return w
}

// keys is those that are there, rising.
func (w *world) keys() []string { return slices.Sorted(maps.Keys(w.values)) }

// count is how many disks this is so of.
func (w *world) count(so func(i int) bool) int {
	n := 0
	for i := range w.disks {
		if so(i) {
			n++
		}
	}
	return n
}

// out lets a disk be out; keys of which no disk that is in has a shard any more go with it.
func (w *world) out(i int, dead bool) {
	w.in[i], w.dead[i], w.sick[i] = false, dead, map[string]int{}
	for _, key := range w.keys() {
		if w.count(func(i int) bool { return w.in[i] && w.sick[i][key] != api.SickMissing }) == 0 {
			delete(w.values, key)
			for _, sick := range w.sick {
				delete(sick, key)
			}
		}
	}
}

// joined lets a disk be in that has nothing.
func (w *world) joined(i int) {
	w.in[i] = true
	for key := range w.values {
		w.sick[i][key] = api.SickMissing
	}
}

// things is all that the set has, with what is wrong with it.
func (w *world) things() []api.Sick {
	var l []api.Sick
	for i := range w.disks {
		switch {
		case w.dead[i]:
			l = append(l, dead(i))
		case !w.in[i]:
			l = append(l, out(i))
		default:
			l = append(l, api.Sick{Disk: i})
		}
		for _, key := range w.keys() {
			l = append(l, api.Sick{Disk: i, Key: key, Kind: w.sick[i][key]})
		}
	}
	return l
}

// sickOnes is what Scan must tell.
func (w *world) sickOnes() []api.Sick {
	return slices.DeleteFunc(w.things(), func(x api.Sick) bool { return x.Kind == 0 })
}

// spot is where a healer is, and how many rounds are over.
type spot struct {
	disk, rounds int
	itself       bool
	key          string
}

// passed tells whether a thing is one that a healer has passed in this round.
func (p spot) passed(x api.Sick) bool {
	return x.Disk < p.disk || x.Disk == p.disk && !p.itself && x.Key <= p.key
}

// settle goes on to a thing that is there; which one it is.
func (p *spot) settle(things []api.Sick) api.Sick {
	for _, x := range things {
		if !p.passed(x) {
			p.goTo(x)
			return x
		}
	}
	*p = spot{rounds: p.rounds + 1, itself: true}
	return things[0]
}

// goTo is at the disk itself, if that is the next thing; behind a key it stays where it was.
func (p *spot) goTo(x api.Sick) {
	if x.Disk != p.disk {
		p.disk, p.itself, p.key = x.Disk, true, ""
	}
}

// mend is what mending a thing answers, and does.
func (w *world) mend(x api.Sick) api.Errno {
	switch x.Kind {
	case api.SickOut:
		if w.power.Gone() {
			return api.ErrPower
		}
		w.joined(x.Disk)
	case api.SickMissing, api.SickRot:
		if w.count(func(i int) bool { return w.in[i] && w.sick[i][x.Key] == 0 }) < w.k {
			return api.ErrFew
		}
		delete(w.sick[x.Disk], x.Key)
	}
	return api.OK
}

// step asks that a step does what it must, from where the healer must be.
func (w *world) step(t *testing.T, h *heal.Healer, p *spot) {
	t.Helper()
	x := p.settle(w.things())
	if w.power.Gone() && x.Key != "" && w.in[x.Disk] {
		step(t, h, api.Sick{}, api.ErrPower)
		rounds(t, h, p.rounds)
		return
	}
	code := w.mend(x)
	p.itself, p.key = false, x.Key
	p.settle(w.things())
	if x.Kind == 0 {
		x = api.Sick{}
	}
	step(t, h, x, code)
	rounds(t, h, p.rounds)
}

// change is a Commit.
func (w *world) change(t *testing.T, r *rand.Rand) {
	t.Helper()
	if w.count(func(i int) bool { return w.in[i] }) < w.k {
		return
	}
	key := string(rune('a' + r.Intn(6)))
	for _, sick := range w.sick {
		delete(sick, key)
	}
	if r.Intn(3) == 0 {
		delete(w.values, key)
		commit(t, w.set, gone(key))
		return
	}
	w.values[key] = of(key, r.Intn(300))
	commit(t, w.set, keep(key, w.values[key]))
}

// act does something between two steps.
func (w *world) act(t *testing.T, r *rand.Rand) {
	t.Helper()
	i := r.Intn(len(w.disks))
	switch r.Intn(7) {
	case 0:
		w.disks[i].Kill()
		w.out(i, true)
	case 1, 2:
		w.disks[i].Replace()
		w.out(i, false)
	case 3:
		for _, key := range w.keys() {
			if w.in[i] && w.sick[i][key] == 0 && r.Intn(2) == 0 {
				turn(t, w.disks[i], key)
				w.sick[i][key] = api.SickRot
			}
		}
	default:
		w.change(t, r)
	}
}

// P11.1 to P11.3: through many steps, with all that may come between them, each answer is as the chapter tells it.
func TestManySteps(t *testing.T) {
	found := map[int]int{}
	for seed := range 300 {
		r := rand.New(rand.NewSource(int64(seed)))
		shape := [][2]int{{2, 1}, {1, 2}, {2, 2}, {1, 1}, {3, 1}, {1, 0}}[seed%6]
		w := newWorld(t, shape[0], shape[1])
		h, p := heal.New(w.set), spot{itself: true}
		for at := range 100 {
			for range r.Intn(5) - 2 {
				w.act(t, r)
			}
			if r.Intn(9) == 0 {
				w.power.Cut()
				w.step(t, h, &p)
				w.step(t, h, &p)
				w.power.On()
			}
			for _, x := range w.sickOnes() {
				found[x.Kind]++
			}
			w.step(t, h, &p)
			if scan(t, w.set, w.sickOnes()...); t.Failed() {
				t.Fatal(seed, at)
			}
		}
		found[0] += h.Rounds()
	}
	for kind := api.SickDead; kind <= api.SickRot; kind++ {
		if found[kind] < 1000 || found[0] < 600 {
			t.Error("few of a kind, or few rounds:", found)
		}
	}
}
