package eset_test

import (
	"fmt"
	"maps"
	"slices"
	"testing"

	"storehouse/api"
	"storehouse/disk"
	"storehouse/erasure"
	"storehouse/eset"
	"storehouse/frame"
	"storehouse/journal"
	"storehouse/shard"
	"storehouse/store"
)

// u32 is a number as four bytes.
func u32(n int) string {
	return string([]byte{byte(n >> 24), byte(n >> 16), byte(n >> 8), byte(n)})
}

// list is texts as one.
func list(texts ...string) string {
	s, err := frame.List(texts...)
	if err != nil {
		panic(err)
	}
	return s
}

// seal is a text, sealed for a name.
func seal(name, text string) string {
	s, err := shard.Seal(name, text)
	if err != nil {
		panic(err)
	}
	return s
}

// cardOf is a disk's card, as the chapter tells it.
func cardOf(k, m, number, gen int) string {
	return seal("!", list("set", u32(k), u32(m), u32(number), u32(gen)))
}

// goneOf is what a disk has under `t`.
func goneOf(gen int, keys ...string) string {
	return seal("t", list(append([]string{u32(gen)}, keys...)...))
}

// shardOf is a disk's shard of a value.
func shardOf(k, m, number int, key, value string) string {
	shards, err := erasure.Encode(k, m, value)
	if err != nil {
		panic(err)
	}
	return seal("d"+key, list(u32(number), u32(len(value)), shards[number]))
}

// plain is a set as the chapter tells it, all of whose disks are sound.
type plain struct {
	k, m, gen int
	values    map[string]string
}

func newPlain(k, m int) plain { return plain{k: k, m: m, values: map[string]string{}} }

// commit is the set behind a Commit that takes effect.
func (p plain) commit(changes ...api.Change) plain {
	p.gen++
	p.values = maps.Clone(p.values)
	for _, c := range changes {
		if c.Gone {
			delete(p.values, c.Key)
		} else {
			p.values[c.Key] = c.Value
		}
	}
	return p
}

// names is what the store of a disk has.
func (p plain) names(number int) map[string]string {
	l := map[string]string{"!": cardOf(p.k, p.m, number, p.gen)}
	for key, value := range p.values {
		l["d"+key] = shardOf(p.k, p.m, number, key, value)
	}
	return l
}

// line is a key's, in what is told: of a long value its beginning, and a sum.
func line(key, value string, err error) string {
	return fmt.Sprintf("\n%.9q: %.20q %d %x %v", key, value, len(value), frame.Sum(value), err)
}

// told is all that the set tells of what it keeps.
func (p plain) told() string {
	text := fmt.Sprintf("%d: %q %v", p.gen, slices.Sorted(maps.Keys(p.values)), error(nil))
	for _, key := range slices.Sorted(maps.Keys(p.values)) {
		text += line(key, p.values[key], nil)
	}
	return text
}

// told is all that a set tells of what it keeps.
func told(s *eset.Set) string {
	l, err := s.Keys("")
	text := fmt.Sprintf("%d: %q %v", s.Gen(), l, err)
	for _, key := range l {
		value, err := s.Get(key)
		text += line(key, value, err)
	}
	return text
}

// onDisk is what a disk's store has: of each name the value.
func onDisk(t *testing.T, d *disk.Disk) map[string]string {
	t.Helper()
	s, err := store.Open(d)
	if err != nil {
		t.Fatal(err)
	}
	l := map[string]string{}
	names, _ := s.Names("")
	for _, name := range names {
		value, err := s.Get(name)
		if err != nil {
			t.Fatal(name, err)
		}
		l[name] = value
	}
	return l
}

// stands asks that some disks have what the chapter says, and nothing else.
func (p plain) stands(t *testing.T, d []*disk.Disk, numbers ...int) {
	t.Helper()
	for _, i := range numbers {
		got, want := onDisk(t, d[i]), p.names(i)
		if !maps.Equal(got, want) {
			t.Errorf("disk %d has %q, not %q", i, slices.Sorted(maps.Keys(got)), slices.Sorted(maps.Keys(want)))
			for name := range got {
				if got[name] != want[name] {
					t.Errorf("%.9q is another value: %.99q, not %.99q", name, got[name], want[name])
				}
			}
		}
	}
}

// agrees asks that a set tells what the plain one does, and that all disks are in it and have what the chapter says.
func (p plain) agrees(t *testing.T, d []*disk.Disk, s *eset.Set) {
	t.Helper()
	if got := told(s); got != p.told() {
		t.Errorf("told:\n%s\nnot:\n%s", got, p.told())
	}
	for i := range d {
		if !s.In(i) {
			t.Error("out is", i)
		}
		p.stands(t, d, i)
	}
}

// journalOf lays a journal with these records where a disk's store has its own.
func journalOf(t *testing.T, d *disk.Disk, records ...string) {
	t.Helper()
	j, err := journal.Format(d, 0, 2*max(4, d.Sectors()/8))
	if err != nil {
		t.Fatal(err)
	}
	for _, record := range records {
		if err := j.Append(record); err != nil {
			t.Fatal(err)
		}
	}
}
