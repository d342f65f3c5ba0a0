package eset_test

import (
	"errors"
	"maps"
	"math/rand"
	"slices"
	"testing"

	"storehouse/api"
	"storehouse/eset"
	"storehouse/store"
)

// What a disk that is in has of a key that is there, if it is not right.
const (
	missing = 1
	rotten  = 2
)

// world is a scene through many steps, with all that is wrong with its disks; spent is the generation that a Commit would have made that was begun last and left nothing.
type world struct {
	*scene
	in, dead []bool
	sick     []map[string]int
	spent    int
}

func newWorld(t *testing.T, k, m int) *world {
	w := &world{scene: newScene(t, k, m, 256), in: make([]bool, k+m), dead: make([]bool, k+m), sick: make([]map[string]int, k+m)}
	for i := range w.in {
		w.in[i], w.sick[i] = true, map[string]int{}
	}
	return w
}

// count is how many disks this is so of.
func (w *world) count(so func(i int) bool) int {
	n := 0
	for i := range w.in {
		if so(i) {
			n++
		}
	}
	return n
}

// right is how many disks have a right shard of a key.
func (w *world) right(key string) int {
	return w.count(func(i int) bool { return w.in[i] && w.sick[i][key] == 0 })
}

// unsound is how many disks are not sound.
func (w *world) unsound() int {
	return w.count(func(i int) bool { return !w.in[i] || len(w.sick[i]) > 0 })
}

// quorum tells whether there are enough disks.
func (w *world) quorum() bool { return w.count(func(i int) bool { return w.in[i] }) >= w.plain.k }

// forget takes away the keys of which no disk that is in has a shard any more.
func (w *world) forget() {
	w.plain.values = maps.Clone(w.plain.values)
	for key := range w.plain.values {
		if w.count(func(i int) bool { return w.in[i] && w.sick[i][key] != missing }) == 0 {
			delete(w.plain.values, key)
			for i := range w.sick {
				delete(w.sick[i], key)
			}
		}
	}
}

// changed is what a Commit leaves of what was wrong.
func (w *world) changed(changes []api.Change) {
	w.plain = w.plain.commit(changes...)
	for _, c := range changes {
		for i := range w.sick {
			delete(w.sick[i], c.Key)
		}
	}
}

// out lets a disk be out.
func (w *world) out(i int) {
	w.in[i], w.sick[i] = false, map[string]int{}
	w.forget()
}

// joined lets a disk be in that has nothing.
func (w *world) joined(i int) {
	w.in[i], w.sick[i] = true, map[string]int{}
	for key := range w.plain.values {
		w.sick[i][key] = missing
	}
}

// look is what Look and Lay must answer for a key that is there or not: the number, and the place.
func (w *world) look(i int, key string) (api.Errno, int) {
	_, there := w.plain.values[key]
	switch {
	case !there:
		return api.ErrNone, 0
	case w.dead[i]:
		return api.ErrDead, 0
	case !w.in[i]:
		return api.ErrBlank, 0
	case w.sick[i][key] == missing:
		return api.ErrNone, 1
	case w.sick[i][key] == rotten:
		return api.ErrRot, 0
	}
	return api.OK, 0
}

// agrees asks that the set tells all of this.
func (w *world) agrees(t *testing.T) {
	t.Helper()
	keys(t, w.set, "", slices.Sorted(maps.Keys(w.plain.values))...)
	if w.set.Gen() != w.plain.gen {
		t.Error("generation", w.set.Gen(), "not", w.plain.gen)
	}
	for _, key := range []string{"a", "b", "c", "d", "e"} {
		value, there := w.plain.values[key]
		switch {
		case !there:
			none(t, w.set, key, api.ErrNone)
		case w.right(key) < w.plain.k:
			none(t, w.set, key, api.ErrFew)
		default:
			has(t, w.set, key, value)
		}
		for i := range w.in {
			w.tells(t, "Look", w.set.Look(i, key), i, key)
		}
	}
	for i := range w.in {
		if w.set.In(i) != w.in[i] || w.set.Dead(i) != w.dead[i] {
			t.Error("disk", i, w.set.In(i), w.set.Dead(i))
		}
	}
}

// tells asks that an error is as look says.
func (w *world) tells(t *testing.T, what string, err error, i int, key string) {
	t.Helper()
	if code, at := w.look(i, key); code == api.ErrRot {
		came(t, what, err, code)
	} else {
		is(t, what, err, code, at)
	}
}

// lose lets the power come again, and any of what is pending be lost.
func (w *world) lose(r *rand.Rand) {
	w.power.On()
	for _, d := range w.disks {
		var keep []bool
		for range d.Pending() {
			keep = append(keep, r.Intn(2) == 0)
		}
		d.Lose(keep, r.Intn(65))
	}
}

// reopen opens the set anew; false, if there are not enough disks.
func (w *world) reopen(t *testing.T) bool {
	t.Helper()
	s, err := eset.Open(w.disks, w.plain.k, w.plain.m)
	if w.quorum() {
		is(t, "Open", err, api.OK, 0)
		w.set = s
		return s != nil
	}
	code := api.ErrQuorum
	if !slices.Contains(w.in, true) {
		code = api.ErrBlank
	}
	is(t, "Open", err, code, 0)
	return false
}

// step does something; false, if nothing more can be done.
func (w *world) step(t *testing.T, r *rand.Rand) bool {
	i, key := r.Intn(len(w.in)), string(rune('a'+r.Intn(5)))
	switch r.Intn(16) {
	case 0:
		w.disks[i].Kill()
		w.dead[i] = true
		w.out(i)
	case 1:
		w.disks[i].Replace()
		w.dead[i] = false
		w.out(i)
	case 2:
		if code, _ := w.look(i, key); code == api.OK {
			turn(t, w.disks[i], "d"+key)
			w.sick[i][key] = rotten
		}
	case 3:
		return w.reopen(t)
	case 4, 5:
		return w.rejoin(t, r, i)
	case 6, 7, 8:
		return w.lay(t, r, i, key)
	case 9:
		for i := range w.in {
			if w.dead[i] {
				w.disks[i].Replace()
				w.dead[i] = false
			}
		}
	default:
		return w.change(t, r)
	}
	return true
}

// fused sets a fuse, perhaps.
func (w *world) fused(r *rand.Rand, longest int) {
	if r.Intn(3) == 0 {
		w.power.Fuse(r.Intn(longest))
	}
}

// change is a Commit.
func (w *world) change(t *testing.T, r *rand.Rand) bool {
	changes := []api.Change{}
	for range 1 + r.Intn(4) {
		key := string(rune('a' + r.Intn(5)))
		if r.Intn(4) == 0 {
			changes = append(changes, gone(key))
		} else {
			changes = append(changes, keep(key, of(string(rune('A'+r.Intn(26))), r.Intn(300))))
		}
	}
	w.fused(r, 150)
	err := w.set.Commit(changes)
	w.power.Fuse(-1)
	switch {
	case !w.quorum():
		is(t, "Commit", err, api.ErrQuorum, 0)
	case !w.power.Gone():
		is(t, "Commit", err, api.OK, 0)
		w.changed(changes)
	default:
		came(t, "Commit", err, api.ErrPower)
		w.lose(r)
		if !w.reopen(t) {
			return false
		}
		if w.set.Gen() == w.plain.gen {
			w.spent = w.plain.gen + 1
			break
		}
		w.changed(changes)
	}
	return true
}

// rejoin is a Join.
func (w *world) rejoin(t *testing.T, r *rand.Rand, i int) bool {
	w.fused(r, 15)
	err := w.set.Join(i)
	w.power.Fuse(-1)
	switch {
	case w.dead[i]:
		below(t, "Join", err, api.ErrDead, 1)
	case w.power.Gone():
		came(t, "Join", err, api.ErrPower)
		w.lose(r)
		// Whether the disk is in can't be known; that is asked below.
		s, err := eset.Open(w.disks, w.plain.k, w.plain.m)
		if err != nil {
			return false
		}
		if w.set = s; s.In(i) {
			w.joined(i)
		}
	default:
		is(t, "Join", err, api.OK, 0)
		if !w.in[i] {
			w.joined(i)
		}
	}
	return true
}

// lay is a Lay.
func (w *world) lay(t *testing.T, r *rand.Rand, i int, key string) bool {
	w.fused(r, 20)
	err := w.set.Lay(i, key)
	w.power.Fuse(-1)
	code, at := w.look(i, key)
	switch {
	case code != api.ErrRot && at == 0:
		is(t, "Lay", err, code, at)
	case w.right(key) < w.plain.k:
		is(t, "Lay", err, api.ErrFew, 0)
	case !w.power.Gone():
		is(t, "Lay", err, api.OK, 0)
		delete(w.sick[i], key)
	default:
		came(t, "Lay", err, api.ErrPower)
		w.lose(r)
		if !w.reopen(t) {
			return false
		}
		if w.set.Look(i, key) == nil {
			delete(w.sick[i], key)
		}
	}
	return true
}

// P10.2 to P10.9: through many steps of all kinds, each answer is as the chapter tells it.
func TestManySteps(t *testing.T) {
	steps := 0
	for seed := range 120 {
		r := rand.New(rand.NewSource(int64(seed)))
		shape := [][2]int{{2, 1}, {1, 2}, {2, 2}, {3, 2}, {1, 1}, {2, 0}}[seed%6]
		w := newWorld(t, shape[0], shape[1])
		for step := range 60 {
			if !w.step(t, r) {
				break
			}
			if w.agrees(t); t.Failed() {
				t.Fatal(seed, step)
			}
			steps++
		}
	}
	if steps < 3000 {
		t.Error("few steps:", steps)
	}
}

// P10.8: as long as at most m disks are not sound, through power that goes, disks that die, and rot of all kinds: each Get tells the value that was committed last, no Commit is refused, and sound disks stay in.
func TestAsLongAsEnoughAreSound(t *testing.T) {
	for seed := range 60 {
		r := rand.New(rand.NewSource(int64(seed)))
		shape := [][2]int{{2, 1}, {1, 2}, {2, 2}, {3, 2}}[seed%4]
		w := newWorld(t, shape[0], shape[1])
		for step := range 40 {
			w.harm(t, r)
			if w.unsound() > w.plain.m {
				t.Fatal("too much harm")
			}
			if !w.change(t, r) {
				t.Fatal(seed, step, "no Open")
			}
			w.agrees(t)
			for key := range w.plain.values {
				if w.right(key) < w.plain.k {
					t.Error("lost:", key)
				}
			}
			if t.Failed() {
				t.Fatal(seed, step)
			}
		}
	}
}

// harm mends a disk, or harms one, as long as there are enough.
func (w *world) harm(t *testing.T, r *rand.Rand) {
	t.Helper()
	i := r.Intn(len(w.in))
	sound := w.in[i] && len(w.sick[i]) == 0
	switch {
	case !sound && r.Intn(2) == 0:
		if w.dead[i] {
			w.disks[i].Replace()
			w.dead[i] = false
		}
		w.mend(t, i)
		w.in[i], w.sick[i] = true, map[string]int{}
	case sound && w.unsound() < w.plain.m:
		switch r.Intn(4) {
		case 0:
			w.disks[i].Kill()
			w.dead[i] = true
			w.out(i)
		case 1:
			for key := range w.plain.values {
				turn(t, w.disks[i], "d"+key)
				w.sick[i][key] = rotten
			}
		default:
			w.spoil(t, r, i)
		}
	}
}

// spoil lets bits of a disk's journal turn, and the power go: whether the disk is in then can't be known, but what the set tells can. What stands in a journal of a Commit that left nothing may come back by this, as if it were that of the Commit of the same generation behind it (the chapter has nothing to tell them apart by): then nothing is spoilt.
func (w *world) spoil(t *testing.T, r *rand.Rand, i int) {
	t.Helper()
	if w.spent == w.plain.gen {
		return
	}
	for range 1 + r.Intn(3) {
		is(t, "Rot", w.disks[i].Rot(r.Intn(64), r.Intn(512)), api.OK, 0)
	}
	if o, err := store.Open(w.disks[i]); err == nil && r.Intn(2) == 0 {
		if runs, err := o.Where("!"); err == nil {
			is(t, "Rot", w.disks[i].Rot(runs[0].From, r.Intn(512)), api.OK, 0)
		}
	}
	w.power.Cut()
	w.lose(r)
	s, err := eset.Open(w.disks, w.plain.k, w.plain.m)
	if err != nil {
		t.Fatal(err)
	}
	if w.set = s; told(s) != w.plain.told() {
		t.Error(told(s))
	}
	w.disks[i].Replace()
	w.out(i)
}

// P10.9: Open of the disks of a set that is not closed has its keys, its values, and its generation, whatever disks are missing.
func TestOpenOfWhatIsThere(t *testing.T) {
	for seed := range 30 {
		r := rand.New(rand.NewSource(int64(1000 + seed)))
		w := newWorld(t, 2, 2)
		for range 30 {
			if !w.step(t, r) || !w.quorum() {
				break
			}
			var f *api.Fault
			_, err := w.set.Keys("")
			if errors.As(err, &f) {
				t.Fatal(err)
			}
			if got, want := told(open(t, w.disks, 2, 2)), told(w.set); got != want {
				t.Fatalf("seed %d: opened:\n%s\nnot\n%s", seed, got, want)
			}
		}
	}
}
