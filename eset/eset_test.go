package eset_test

import (
	"errors"
	"math"
	"slices"
	"strings"
	"testing"

	"storehouse/api"
	"storehouse/disk"
	"storehouse/eset"
	"storehouse/store"
)

// is asks that an error is a fault of this number and place that came from nothing; of OK, that it is none.
func is(t *testing.T, what string, err error, code api.Errno, at int) {
	t.Helper()
	if code == api.OK {
		if err != nil {
			t.Errorf("%s: %v", what, err)
		}
		return
	}
	f, ok := err.(*api.Fault)
	if !ok || *f != (api.Fault{Code: code, At: at}) || !errors.Is(err, code) {
		t.Errorf("%s: %v, not %d at %d", what, err, code, at)
	}
}

// below asks that an error is a fault of this number that came, over so many layers, from one of the same.
func below(t *testing.T, what string, err error, code api.Errno, layers int) {
	t.Helper()
	all := err
	for range layers {
		f, ok := err.(*api.Fault)
		if !ok || f.Code != code || f.At != 0 || !errors.Is(err, code) {
			t.Errorf("%s: %v, not %d over %d layers", what, all, code, layers)
			return
		}
		err = f.Inner
	}
	is(t, what, err, code, 0)
}

// came asks that an error is a fault of this number at 0, whatever it came from.
func came(t *testing.T, what string, err error, code api.Errno) {
	t.Helper()
	f, ok := err.(*api.Fault)
	if !ok || f.Code != code || f.At != 0 || !errors.Is(err, code) {
		t.Errorf("%s: %v, not %d", what, err, code)
	}
}

// newDisks is disks of one power on which no sector has bytes 0 alone, and all lasts.
func newDisks(t *testing.T, many, sectors int) (*disk.Power, []*disk.Disk) {
	t.Helper()
	p := disk.NewPower()
	var l []*disk.Disk
	for range many {
		d, err := disk.New(p, sectors)
		if err != nil {
			t.Fatal(err)
		}
		for at := range sectors {
			is(t, "Write", d.Write(at, strings.Repeat(string(rune('A'+at%26)), 64)), api.OK, 0)
		}
		is(t, "Flush", d.Flush(), api.OK, 0)
		l = append(l, d)
	}
	return p, l
}

// format is a new set.
func format(t *testing.T, d []*disk.Disk, k, m int) *eset.Set {
	t.Helper()
	s, err := eset.Format(d, k, m)
	if s == nil || err != nil {
		t.Fatal(err)
	}
	return s
}

// open is the set that is there.
func open(t *testing.T, d []*disk.Disk, k, m int) *eset.Set {
	t.Helper()
	s, err := eset.Open(d, k, m)
	if s == nil || err != nil {
		t.Fatal(err)
	}
	return s
}

// rack is a new set on disks of so many sectors.
func rack(t *testing.T, k, m, sectors int) (*disk.Power, []*disk.Disk, *eset.Set) {
	t.Helper()
	p, d := newDisks(t, k+m, sectors)
	return p, d, format(t, d, k, m)
}

func keep(key, value string) api.Change { return api.Change{Key: key, Value: value} }
func gone(key string) api.Change        { return api.Change{Key: key, Gone: true} }

// done asks that a Commit is done.
func done(t *testing.T, s *eset.Set, changes ...api.Change) {
	t.Helper()
	is(t, "Commit", s.Commit(changes), api.OK, 0)
}

// of is a value of so many bytes.
func of(c string, bytes int) string { return strings.Repeat(c, bytes) }

// has asks for the value of a key.
func has(t *testing.T, s *eset.Set, key, want string) {
	t.Helper()
	got, err := s.Get(key)
	if got != want || err != nil {
		t.Errorf("Get %q: %q, %v, not %q", key, got, err, want)
	}
}

// none asks that Get of a key is this error, which came from nothing.
func none(t *testing.T, s *eset.Set, key string, code api.Errno) {
	t.Helper()
	got, err := s.Get(key)
	is(t, "Get", err, code, 0)
	if got != "" {
		t.Errorf("Get %q: %q beside an error", key, got)
	}
}

// keys asks which there are that begin with a prefix.
func keys(t *testing.T, s *eset.Set, prefix string, want ...string) {
	t.Helper()
	got, err := s.Keys(prefix)
	if !slices.Equal(got, want) || err != nil {
		t.Errorf("Keys %q: %q, %v, not %q", prefix, got, err, want)
	}
}

// inside asks which disks are in a set, as a text of their numbers.
func inside(t *testing.T, s *eset.Set, want string) {
	t.Helper()
	got := ""
	for i := range s.Disks() {
		if s.In(i) {
			got += string(rune('0' + i))
		}
	}
	if got != want {
		t.Errorf("in are %q, not %q", got, want)
	}
}

// on is the store of a disk.
func on(t *testing.T, d *disk.Disk) *store.Store {
	t.Helper()
	s, err := store.Open(d)
	if s == nil || err != nil {
		t.Fatal(err)
	}
	return s
}

// turn turns a bit of the value that a disk's store has under a name: in its first sector.
func turn(t *testing.T, d *disk.Disk, name string) {
	t.Helper()
	runs, err := on(t, d).Where(name)
	if err != nil || len(runs) == 0 {
		t.Fatal(name, runs, err)
	}
	is(t, "Rot", d.Rot(runs[0].From, 77), api.OK, 0)
}

// P10.1: which shapes a set may have, and of how many disks.
func TestShapes(t *testing.T) {
	_, d := newDisks(t, 17, 64)
	for _, c := range []struct {
		disks, k, m int
		right       bool
	}{
		{1, 1, 0, true}, {2, 1, 1, true}, {2, 2, 0, true}, {3, 2, 1, true}, {16, 1, 15, true}, {16, 16, 0, true}, {16, 10, 6, true},
		{0, 0, 0, false}, {1, 0, 1, false}, {3, 0, 3, false}, {3, -1, 4, false}, {3, 4, -1, false}, {3, 3, 1, false}, {3, 2, 2, false}, {3, 2, 0, false}, {3, 1, 1, false}, {0, 1, 0, false}, {0, 2, 1, false},
		{17, 16, 1, false}, {17, 17, 0, false}, {17, 1, 16, false}, {17, 16, 0, false},
		{3, math.MinInt, 3, false}, {3, math.MaxInt, 3, false}, {3, math.MaxInt, math.MinInt, false}, {3, 3, math.MinInt, false}, {2, math.MaxInt, math.MaxInt, false}, {3, math.MinInt, math.MaxInt, false},
	} {
		s, err := eset.Format(d[:c.disks], c.k, c.m)
		if c.right {
			is(t, "Format", err, api.OK, 0)
			if s.Disks() != c.disks || s.Gen() != 0 {
				t.Error(c, s.Disks(), s.Gen())
			}
			done(t, s, keep("a", "value"))
			has(t, open(t, d[:c.disks], c.k, c.m), "a", "value")
			continue
		}
		o, openErr := eset.Open(d[:c.disks], c.k, c.m)
		is(t, "Format", err, api.ErrArg, 0)
		is(t, "Open", openErr, api.ErrArg, 0)
		if s != nil || o != nil {
			t.Error(c, "a set beside an error")
		}
	}
}

// P10.1: what Format leaves: on each disk a store with the card alone; a set of the generation 0, without keys, with all disks in it.
func TestFormat(t *testing.T) {
	for _, c := range []struct{ k, m int }{{1, 0}, {1, 1}, {2, 1}, {3, 2}, {10, 6}} {
		_, d, s := rack(t, c.k, c.m, 64)
		p := newPlain(c.k, c.m)
		p.agrees(t, d, s)
		p.agrees(t, d, open(t, d, c.k, c.m))
		keys(t, s, "")
		none(t, s, "a", api.ErrNone)
		for i := range d {
			if !s.In(i) || s.Dead(i) || d[i].Pending() != 0 {
				t.Error(c, i, s.In(i), s.Dead(i), d[i].Pending())
			}
		}
	}
}

// P10.1: a set that was there is gone behind Format, whatever its shape.
func TestFormatAnew(t *testing.T) {
	_, d, s := rack(t, 2, 1, 64)
	done(t, s, keep("a", "1"))
	done(t, s, keep("b", "1"))
	newPlain(2, 1).agrees(t, d, format(t, d, 2, 1))
	newPlain(1, 2).agrees(t, d, format(t, d, 1, 2))
	_, err := eset.Open(d, 2, 1)
	is(t, "Open", err, api.ErrBlank, 0)
}

// P10.1: an error of a disk is answered at once, as a store's; the disks behind it are as they were.
func TestFormatFails(t *testing.T) {
	p, d := newDisks(t, 3, 64)
	small, _ := disk.New(p, 31)
	for at, behind := range map[int]int{0: 2, 1: 1, 2: 0} {
		l := slices.Insert(slices.Clone(d[:2]), at, small)
		before := l[2].Image()
		s, err := eset.Format(l, 2, 1)
		below(t, "Format", err, api.ErrArg, 1)
		if s != nil || behind > 0 && l[2].Image() != before {
			t.Error(at, "is not the last one")
		}
	}
	_, d = newDisks(t, 3, 64)
	d[1].Kill()
	untouched := d[2].Image()
	_, err := eset.Format(d, 2, 1)
	below(t, "Format, dead", err, api.ErrDead, 3)
	if d[2].Image() != untouched {
		t.Error("a disk behind the dead one was written")
	}
	on(t, d[0])
	p, d = newDisks(t, 3, 64)
	p.Cut()
	s, err := eset.Format(d, 2, 1)
	below(t, "Format, dark", err, api.ErrPower, 3)
	if s != nil {
		t.Error("a set beside an error")
	}
}

// P10.1: each fuse lets Format answer ErrPower, till there is enough.
func TestFormatIsCut(t *testing.T) {
	for fuse := 0; ; fuse++ {
		p, d := newDisks(t, 2, 64)
		p.Fuse(fuse)
		s, err := eset.Format(d, 1, 1)
		if err == nil {
			newPlain(1, 1).agrees(t, d, s)
			break
		}
		came(t, "Format", err, api.ErrPower)
		if s != nil || fuse > 100 {
			t.Fatal(fuse, s)
		}
	}
}
