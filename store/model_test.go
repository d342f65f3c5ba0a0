package store_test

import (
	"fmt"
	"math/rand"
	"slices"
	"strings"
	"testing"

	"storehouse/api"
	"storehouse/disk"
	"storehouse/store"
)

// kept is a value as the chapter tells it: its sectors, one by one; put is the number of the act by which it came in this Commit, from 1 on, else 0.
type kept struct {
	name, value string
	sectors     []int
	put         int
}

// pairs is its runs.
func (k kept) pairs() []int {
	var l []int
	for i, at := range k.sectors {
		if i > 0 && k.sectors[i-1]+1 == at {
			l[len(l)-1]++
		} else {
			l = append(l, at, 1)
		}
	}
	return l
}

// entry is what a record tells of it.
func (k kept) entry() string { return entry(k.name, k.value, k.pairs()...) }

// plain is a store as the chapter tells it: its names rising, and its journal's records, of which so many sectors are left.
type plain struct {
	sectors, from, half, left, epoch int
	names                            []kept
	records                          []string
}

func newPlain(sectors int) plain {
	h := max(4, sectors/8)
	return plain{sectors: sectors, from: 2 * h, half: h - 1, left: h - 1, epoch: 1}
}

// find is the place of a name; -1, if it is not there.
func find(l []kept, name string) int {
	return slices.IndexFunc(l, func(k kept) bool { return k.name == name })
}

// free is the sectors of the data that no value has.
func (p plain) free() []int {
	var l []int
	for at := p.from; at < p.sectors; at++ {
		if !slices.ContainsFunc(p.names, func(k kept) bool { return slices.Contains(k.sectors, at) }) {
			l = append(l, at)
		}
	}
	return l
}

// gone is the list without a name.
func gone(l []kept, name string) []kept {
	return slices.DeleteFunc(slices.Clone(l), func(k kept) bool { return k.name == name })
}

// wants is how many sectors a record has.
func wants(record string) int { return (24 + len(record) + 63) / 64 }

// commit is the store behind acts that may be, and what is answered.
func (p plain) commit(acts []api.Act) (plain, api.Errno, int) {
	l := p.names
	for i, act := range acts {
		at := find(l, act.Name)
		if at < 0 && act.Kind != api.ActPut {
			return p, api.ErrNone, i
		}
		switch {
		case act.Kind == api.ActPut:
			l = append(gone(l, act.Name), kept{name: act.Name, value: act.Value, put: i + 1})
		case act.Kind == api.ActDrop:
			l = gone(l, act.Name)
		case act.Name != act.To:
			k := l[at]
			k.name = act.To
			l = append(gone(gone(l, act.Name), act.To), k)
		}
	}
	free := p.free()
	l = slices.Clone(l)
	slices.SortFunc(l, func(a, b kept) int { return a.put - b.put })
	for i, k := range l {
		if k.put == 0 {
			continue
		}
		want := (len(k.value) + 63) / 64
		if want > len(free) {
			return p, api.ErrFull, 0
		}
		l[i].sectors, free = free[:want], free[want:]
	}
	slices.SortFunc(l, func(a, b kept) int { return strings.Compare(a.name, b.name) })
	return p.record(l)
}

// record is the store with these names, behind what its journal gets.
func (p plain) record(l []kept) (plain, api.Errno, int) {
	var every, changed []string
	for _, k := range l {
		every = append(every, k.entry())
	}
	whole := all(every...)
	if len(whole) > 60000 || wants(whole) > p.half {
		return p, api.ErrFull, 0
	}
	both := slices.Concat(l, p.names)
	slices.SortStableFunc(both, func(a, b kept) int { return strings.Compare(a.name, b.name) })
	both = slices.CompactFunc(both, func(a, b kept) bool { return a.name == b.name })
	for _, k := range both {
		now, was := find(l, k.name), find(p.names, k.name)
		if now < 0 {
			changed = append(changed, list(k.name))
		} else if k.put > 0 || was < 0 || k.entry() != p.names[was].entry() {
			changed = append(changed, k.entry())
		}
	}
	for i := range l {
		l[i].put = 0
	}
	p.names = l
	record := some(changed...)
	switch {
	case len(changed) == 0:
	case len(record) > 60000 || wants(record) > p.left:
		p.records, p.left, p.epoch = []string{whole}, p.half-wants(whole), p.epoch+1
	default:
		p.records, p.left = append(slices.Clone(p.records), record), p.left-wants(record)
	}
	return p, api.OK, 0
}

// told is all that the store tells.
func (p plain) told() string {
	text := fmt.Sprint(len(p.free()), error(nil))
	for _, k := range p.names {
		text += fmt.Sprintf("\n%q: %q %v %v %v", k.name, k.value, error(nil), runs(k.pairs()...), error(nil))
	}
	return text
}

// agrees asks that a store, and the one that Open finds, tell what the plain one does, and that the journal is as it must be.
func (p plain) agrees(t *testing.T, d *disk.Disk, s *store.Store) {
	t.Helper()
	want := p.told()
	for _, s := range []*store.Store{s, open(t, d)} {
		if got := told(s); got != want {
			t.Fatalf("told:\n%s\nnot:\n%s", got, want)
		}
	}
	recorded(t, d, p.from, p.epoch, p.records...)
}

// anyActs is some acts on few names, with values of all sizes.
func anyActs(r *rand.Rand, values int) []api.Act {
	name := func() string { return strings.Repeat("abc"[r.Intn(3):][:1], 1+r.Intn(2)) }
	var acts []api.Act
	for range 1 + r.Intn(5) {
		switch r.Intn(5) {
		case 0:
			acts = append(acts, drop(name()))
		case 1:
			acts = append(acts, move(name(), name()))
		case 2:
			acts = append(acts, put(name(), ""))
		default:
			acts = append(acts, put(name(), of(string(rune('A'+r.Intn(26))), r.Intn(values))))
		}
	}
	return acts
}

// P5.2 to P5.4, P5.6: many Commits, each as the chapter tells it: what is answered, where it goes, what the journal gets.
func TestManyCommits(t *testing.T) {
	for seed := range 200 {
		r := rand.New(rand.NewSource(int64(seed)))
		sectors := []int{32, 40, 64, 100, 200}[seed%5]
		_, d, s := rack(t, sectors)
		p := newPlain(sectors)
		codes := map[api.Errno]int{}
		for step := range 60 {
			acts := anyActs(r, []int{70, 400, 2000}[r.Intn(3)])
			after, code, at := p.commit(acts)
			is(t, "Commit", s.Commit(acts...), code, at)
			p = after
			p.agrees(t, d, s)
			if t.Failed() {
				t.Fatal(seed, step, acts)
			}
			if r.Intn(10) == 0 {
				s = open(t, d)
			}
			codes[code]++
		}
		if codes[api.OK] < 5 || codes[api.ErrNone] == 0 {
			t.Error("tried too little:", seed, codes)
		}
	}
}
