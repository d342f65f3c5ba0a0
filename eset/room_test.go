package eset_test

import (
	"errors"
	"maps"
	"math/rand"
	"slices"
	"testing"

	"storehouse/api"
	"storehouse/disk"
	"storehouse/erasure"
	"storehouse/shard"
	"storehouse/store"
)

// q is how many sectors a shard of a value of so many bytes has, as the chapter reckons it.
func q(k, length int) int {
	size, err := erasure.Size(k, length)
	if err != nil {
		panic(err)
	}
	return (shard.Size(24+size) + 63) / 64
}

// mustFit tells whether a Commit must not be ErrFull, as P10.5 says: on disks of which the smallest has so many sectors.
func mustFit(p plain, sectors int, changes []api.Change) bool {
	h := max(4, sectors/8)
	most := q(p.k, p.k*8000)
	all, bytes := most, 300+8*most
	count := func(key, value string) {
		all += q(p.k, len(value))
		bytes += len(key) + 40 + 8*q(p.k, len(value))
	}
	for key, value := range p.values {
		count(key, value)
	}
	for _, c := range changes {
		count(c.Key, c.Value)
	}
	return all <= sectors-2*h && bytes <= 64*(h-1) && bytes <= 60000
}

// copied is a disk of a power of its own with the same bytes.
func copied(t *testing.T, d *disk.Disk) *disk.Disk {
	t.Helper()
	c, err := disk.New(disk.NewPower(), d.Sectors())
	if err != nil {
		t.Fatal(err)
	}
	image := d.Image()
	for at := range d.Sectors() {
		is(t, "Write", c.Write(at, image[64*at:64*at+64]), api.OK, 0)
	}
	is(t, "Flush", c.Flush(), api.OK, 0)
	return c
}

// full tells whether a store on one of the disks answers ErrFull to the first phase of a Commit, as the chapter tells it.
func full(t *testing.T, d []*disk.Disk, before, after plain, changes []api.Change) bool {
	t.Helper()
	var goes []string
	last := map[string]api.Change{}
	for _, c := range changes {
		last[c.Key] = c
	}
	for key, c := range last {
		if c.Gone {
			goes = append(goes, key)
		}
	}
	slices.Sort(goes)
	for i := range d {
		acts := []api.Act{put("n", cardOf(before.k, before.m, i, after.gen)), put("t", goneOf(after.gen, goes...))}
		for _, key := range slices.Sorted(maps.Keys(last)) {
			if !last[key].Gone {
				acts = append(acts, put("s"+key, shardOf(before.k, before.m, i, key, last[key].Value)))
			}
		}
		s, err := store.Open(copied(t, d[i]))
		if err != nil {
			t.Fatal(err)
		}
		if err := s.Commit(acts...); errors.Is(err, api.ErrFull) {
			return true
		} else if err != nil {
			t.Fatal(err)
		}
	}
	return false
}

// anyChanges is some changes on few keys, with values of up to so many bytes.
func anyChanges(r *rand.Rand, many, values int) []api.Change {
	var changes []api.Change
	for range 1 + r.Intn(many) {
		key := of(string(rune('a'+r.Intn(5))), 1+r.Intn(2))
		switch r.Intn(4) {
		case 0:
			changes = append(changes, gone(key))
		case 1:
			changes = append(changes, keep(key, ""))
		default:
			changes = append(changes, keep(key, of(string(rune('A'+r.Intn(26))), r.Intn(values+1))))
		}
	}
	return changes
}

// P10.5: a Commit is ErrFull where a store answers that to its first phase, in no other case, and never where the promise says so. Nothing has changed then.
func TestRoom(t *testing.T) {
	fits, fulls := 0, 0
	for seed := range 40 {
		r := rand.New(rand.NewSource(int64(seed)))
		k, m := 1+seed%3, seed%2
		smallest := []int{32, 64, 256, 300, 400}[seed%5]
		power := disk.NewPower()
		var d []*disk.Disk
		for i := range k + m {
			one, _ := disk.New(power, smallest+i*r.Intn(50))
			d = append(d, one)
		}
		slices.Reverse(d)
		s := format(t, d, k, m)
		p := newPlain(k, m)
		for range 20 {
			changes := anyChanges(r, 6, []int{50, 500, 8000}[r.Intn(3)])
			after := p.commit(changes...)
			isFull := full(t, d, p, after, changes)
			if mustFit(p, smallest, changes) {
				fits++
				if isFull {
					t.Fatal("the chapter's own reckoning", seed)
				}
			}
			err := s.Commit(changes)
			if isFull {
				fulls++
				below(t, "Commit", err, api.ErrFull, 1)
			} else if is(t, "Commit", err, api.OK, 0); err == nil {
				p = after
			}
			p.agrees(t, d, s)
			if t.Failed() {
				t.Fatal(seed)
			}
		}
	}
	if fits < 50 || fulls < 50 {
		t.Error("tried too little:", fits, fulls)
	}
}

// P10.5: as many values as the promise lets fit, and keys as long as may be, are kept, changed and gone.
func TestAsMuchAsFits(t *testing.T) {
	for _, c := range []struct{ sectors, keyBytes, valueBytes int }{{512, 1, 100}, {512, 200, 0}, {1024, 199, 3000}, {2048, 2, 8000}} {
		_, d := newDisks(t, 3, c.sectors)
		s := format(t, d, 2, 1)
		p := newPlain(2, 1)
		change := func(i int) api.Change {
			key := string([]byte{byte(i)}) + of("k", c.keyBytes-1)
			return keep(key, of(string(rune('a'+i%26)), c.valueBytes))
		}
		for i := 0; i < 256 && mustFit(p, c.sectors, []api.Change{change(i)}); i++ {
			done(t, s, change(i))
			p = p.commit(change(i))
		}
		if len(p.values) < 5 {
			t.Error("few values:", c, len(p.values))
		}
		var some []api.Change
		for i := range 32 {
			if next := append(some, gone(change(i).Key)); mustFit(p, c.sectors, next) {
				some = next
			}
		}
		if len(some) > 0 {
			done(t, s, some...)
			p = p.commit(some...)
		}
		p.agrees(t, d, s)
		p.agrees(t, d, open(t, d, 2, 1))
	}
}

// P10.5: a set that is full stays so, tells all, and has room again when something is gone.
func TestFullAndRoomAgain(t *testing.T) {
	_, d, s := rack(t, 2, 1, 64)
	p := newPlain(2, 1)
	var err error
	for i := 0; err == nil; i++ {
		c := keep(string(rune('a'+i)), of("v", 100))
		if err = s.Commit([]api.Change{c}); err == nil {
			p = p.commit(c)
		}
	}
	below(t, "Commit", err, api.ErrFull, 1)
	p.agrees(t, d, s)
	if len(p.values) < 3 {
		t.Fatal("few values:", p.values)
	}
	done(t, s, gone("a"))
	done(t, s, keep("z", of("z", 100)))
	p = p.commit(gone("a")).commit(keep("z", of("z", 100)))
	p.agrees(t, d, s)
	p.agrees(t, d, open(t, d, 2, 1))
}

// P10.5, P10.7: Lay of a disk without room is ErrFull, and changes nothing.
func TestLayWithoutRoom(t *testing.T) {
	power, d := newDisks(t, 3, 256)
	d[1], _ = disk.New(power, 32)
	s := format(t, d, 2, 1)
	d[1].Replace()
	done(t, s, keep("a", of("a", 3000)), keep("b", "two"))
	is(t, "Join", s.Join(1), api.OK, 0)
	before, acts := d[1].Image(), power.Acts()
	below(t, "Lay", s.Lay(1, "a"), api.ErrFull, 1)
	if d[1].Image() != before || power.Acts() != acts || !s.In(1) {
		t.Error("something has changed")
	}
	is(t, "Look", s.Look(1, "a"), api.ErrNone, 1)
	is(t, "Lay", s.Lay(1, "b"), api.OK, 0)
	is(t, "Look", s.Look(1, "b"), api.OK, 0)
	has(t, s, "a", of("a", 3000))
	o := open(t, d, 2, 1)
	is(t, "Look", o.Look(1, "a"), api.ErrNone, 1)
	is(t, "Look", o.Look(1, "b"), api.OK, 0)
}
