package store_test

import (
	"encoding/binary"
	"fmt"
	"hash/crc32"
	"slices"
	"strings"
	"testing"

	"storehouse/api"
	"storehouse/disk"
	"storehouse/frame"
	"storehouse/journal"
	"storehouse/store"
)

// words is numbers, each as four bytes.
func words(numbers ...int) string {
	var text []byte
	for _, n := range numbers {
		text = binary.BigEndian.AppendUint32(text, uint32(n))
	}
	return string(text)
}

// list is texts as one, by chapter 3's words.
func list(texts ...string) string {
	all := words(len(texts))
	for _, text := range texts {
		all += words(len(text)) + text
	}
	return all
}

// sum is a value's CRC-32C.
func sum(value string) int {
	return int(crc32.Checksum([]byte(value), crc32.MakeTable(crc32.Castagnoli)))
}

// at is what a record tells of a name, with so long a value on these runs; its sum is that of bytes 0.
func at(name string, length int, pairs ...int) string {
	return list(name, words(length, sum(strings.Repeat("\x00", length)))+words(pairs...))
}

// all and some are records.
func all(entries ...string) string  { return list(append([]string{"all"}, entries...)...) }
func some(entries ...string) string { return list(append([]string{"some"}, entries...)...) }

// written is a disk of so many sectors, of which the data have bytes 0, whose journal has these records.
func written(t *testing.T, sectors int, records ...string) *disk.Disk {
	t.Helper()
	d, err := disk.New(disk.NewPower(), sectors)
	if err != nil {
		t.Fatal(err)
	}
	j, err := journal.Format(d, 0, 2*max(4, sectors/8))
	if err != nil {
		t.Fatal(err)
	}
	is(t, "Reset", j.Reset(records...), api.OK, 0)
	return d
}

// P5.1: a directory is made of the records, one behind the other.
func TestRecordsThatAreRight(t *testing.T) {
	for i, c := range []struct {
		records []string
		want    []string // of each name what a record would tell
	}{
		{nil, nil},
		{[]string{all()}, nil},
		{[]string{some()}, nil},
		{[]string{some(at("a", 5, 100, 1))}, []string{at("a", 5, 100, 1)}},
		{[]string{all(at("a", 5, 100, 1), at("b", 0))}, []string{at("a", 5, 100, 1), at("b", 0)}},
		{[]string{all(at("a", 5, 100, 1)), all(at("b", 0))}, []string{at("b", 0)}},
		{[]string{all(at("a", 5, 100, 1)), all()}, nil},
		{[]string{all(at("a", 5, 100, 1)), some(at("b", 0))}, []string{at("a", 5, 100, 1), at("b", 0)}},
		{[]string{all(at("a", 5, 100, 1), at("b", 0)), some(list("a"))}, []string{at("b", 0)}},
		{[]string{all(at("a", 5, 100, 1)), some(at("a", 64, 399, 1))}, []string{at("a", 64, 399, 1)}},
		{[]string{some(list("a"), at("b", 0), list("c"))}, []string{at("b", 0)}},                               // who is not there may go
		{[]string{all(at("a", 5, 100, 1)), some(list("a"), at("b", 5, 100, 1))}, []string{at("b", 5, 100, 1)}}, // what goes is free at once
		{[]string{all(at("a", 1, 100, 1), at("b", 1, 101, 1)), some(at("a", 1, 101, 1), at("b", 1, 100, 1))}, []string{at("a", 1, 101, 1), at("b", 1, 100, 1)}},
		{[]string{all(at("a", 200, 101, 1, 100, 1, 300, 2))}, []string{at("a", 200, 101, 1, 100, 1, 300, 2)}}, // runs in any order
		{[]string{all(at("a", 100, 100, 1, 101, 1))}, []string{at("a", 100, 100, 1, 101, 1)}},                 // that could be longer
		{[]string{all(at("a", 12000, 212, 188))}, []string{at("a", 12000, 212, 188)}},
		{[]string{all(at("A", 0), at("AA", 0), at("B", 0), at("a", 0), at("\xff", 0))}, []string{at("A", 0), at("AA", 0), at("B", 0), at("a", 0), at("\xff", 0)}},
		{[]string{all(at("\x00", 0), at(of("n", 220), 0))}, []string{at("\x00", 0), at(of("n", 220), 0)}},
		{[]string{all(list("a", words(0, 7)))}, []string{list("a", words(0, 7))}}, // of another sum: Get says so
	} {
		d := written(t, 400, c.records...)
		before := d.Image()
		s := open(t, d)
		var got []string
		l, _ := s.Names("")
		data := 300
		for _, name := range l {
			where, err := s.Where(name)
			is(t, "Where", err, api.OK, 0)
			got = append(got, tailAt(t, s, name, where, c.want))
			for _, run := range where {
				data -= run.Many
			}
		}
		if !slices.Equal(got, c.want) || s.Free() != data || d.Image() != before {
			t.Errorf("%d: %q, not %q; %d are free", i, got, c.want, s.Free())
		}
	}
}

// tailAt is what a record would tell of a name; the sum is that of the entry which is wanted, if Get answers as it says.
func tailAt(t *testing.T, s *store.Store, name string, where []api.Extent, want []string) string {
	t.Helper()
	var pairs []int
	for _, run := range where {
		pairs = append(pairs, run.From, run.Many)
	}
	value, err := s.Get(name)
	if err == nil {
		return at(name, len(value), pairs...)
	}
	is(t, "Get", err, api.ErrRot, 0)
	if slices.Contains(want, list(name, words(0, 7))) {
		return list(name, words(0, 7))
	}
	return ""
}

// wrong is records that have neither form, or behind which, alone, the directory is not right.
func wrong() []string {
	return []string{
		"", "x", "all", "\x00\x00\x00", words(0), words(1), words(2) + words(3) + "all", all() + "x", all(at("a", 0)) + "\x00", // no lists of that kind
		list(""), list("ALL"), list("al"), list("alls"), list("So"), list(words(0)), list(list("all")), list(at("a", 0)), // of no such kind
		all(""), all("x"), all("a"), all(words(0)), all(list("a")), all(list("a", words(0, 0), "")), all(at("a", 0) + "x"), all(at("a", 0), list("b")), // entries that are none
		some(""), some("a"), some(words(0)), some(list("a", words(0, 0), "")), some(list("a") + "x"), some(list("a"), "b"),
		all(at("a", 0), at("a", 0)), all(at("b", 0), at("a", 0)), all(at("b", 0), at("B", 0)), all(at("aa", 0), at("a", 0)), // names that do not rise
		some(at("a", 0), list("a")), some(list("a"), at("a", 0)), some(list("a"), list("a")), some(list("b"), list("a")), some(at("a", 0), at("c", 0), at("b", 0)),
		all(list("a", "")), all(list("a", words(0))), all(list("a", words(0, 0)+"x")), all(list("a", words(1, 0, 100))), all(list("a", words(1, 0, 100, 1)+"\x00")), some(list("a", words(1, 0, 100, 1, 0))), // tails that are none
		all(at("", 0)), all(at(of("n", 221), 0)), some(at("", 5, 100, 1)), some(at("a", 0), at(of("n", 221), 0)), // names that may not be
		all(at("a", 12001, 100, 188)), all(at("a", 12033, 100, 189)), all(list("a", words(1<<32-1, 0, 100, 188))), // too long
		all(at("a", 0, 100, 0)), all(at("a", 5, 100, 1, 101, 0)), all(at("a", 5, 100, 0, 101, 1)), // runs of no sectors
		all(at("a", 0, 100, 1)), all(at("a", 1)), all(at("a", 64, 100, 2)), all(at("a", 65, 100, 1)), all(at("a", 12000, 100, 187)), all(at("a", 12000, 100, 189)), // too many, too few
		all(at("a", 1, 99, 1)), all(at("a", 1, 0, 1)), all(at("a", 65, 99, 2)), all(at("a", 1, 400, 1)), all(at("a", 65, 399, 2)), all(at("a", 1, 1<<32-1, 1)), all(at("a", 1, 100, 1<<32-1)), all(at("a", 1, 1<<32-1, 1<<32-1)), all(at("a", 12000, 213, 188)), // outside of the data
		all(at("a", 65, 100, 1, 100, 1)), all(at("a", 200, 100, 2, 101, 2)), all(at("a", 1, 100, 1), at("b", 1, 100, 1)), all(at("a", 640, 100, 10), at("b", 1, 109, 1)), // a sector twice
	}
}

// P5.1: the first record is told that is none of the forms, or behind which the directory is not right.
func TestRecordsThatAreWrong(t *testing.T) {
	for i, record := range wrong() {
		for n, ahead := range [][]string{nil, {all()}, {all(at("z", 0)), some(at("y", 70, 300, 2))}} {
			for _, behind := range [][]string{nil, {all()}, {"x", some()}} {
				d := written(t, 400, slices.Concat(ahead, []string{record}, behind)...)
				before := d.Image()
				s, err := store.Open(d)
				is(t, fmt.Sprint("Open ", i), err, api.ErrRot, n+1)
				if s != nil || d.Image() != before || t.Failed() {
					t.Fatalf("%d: %q: %v", i, record, s)
				}
			}
		}
	}
	for i, c := range [][]string{
		{all(at("a", 1, 100, 1)), some(at("b", 1, 100, 1))}, // in two runs, of two records
		{all(at("a", 1, 100, 1)), some(at("b", 640, 95, 10))},
		{all(at("a", 640, 100, 10)), some(at("b", 65, 109, 2))},
		{some(at("a", 1, 100, 1), at("b", 1, 101, 1)), some(at("a", 1, 101, 1), at("c", 0)), some(list("b"))}, // not even if the next one mends it
	} {
		_, err := store.Open(written(t, 400, c...))
		is(t, fmt.Sprint("Open of two, ", i), err, api.ErrRot, 2)
	}
	_, err := store.Open(written(t, 40, all(at("a", 1, 9, 1))))
	is(t, "the journal's last sector", err, api.ErrRot, 1)
	_, err = store.Open(written(t, 40, all(at("a", 65, 39, 1, 10, 1)), all(at("a", 1, 40, 1))))
	is(t, "behind the disk's last sector", err, api.ErrRot, 2)
}

// P5.1, P5.3: a Commit goes on from what Open found.
func TestCommitBehindOpen(t *testing.T) {
	d := written(t, 80, all(at("a", 5, 30, 1), at("b", 100, 21, 1, 20, 1)))
	s := open(t, d)
	has(t, s, "b", strings.Repeat("\x00", 100))
	done(t, s, put("c", of("c", 640)), move("b", "d"))
	lies(t, s, "c", 22, 8, 31, 2)
	lies(t, s, "d", 21, 1, 20, 1)
	recorded(t, d, 20, 2, all(at("a", 5, 30, 1), at("b", 100, 21, 1, 20, 1)),
		some(list("b"), entry("c", of("c", 640), 22, 8, 31, 2), at("d", 100, 21, 1, 20, 1)))
}

// P5.2: a directory that has grown, record by record, beyond what one may have: it must be less, ahead of all else.
func TestGreaterThanARecord(t *testing.T) {
	var entries, names []string
	for i := range 246 { // 244 bytes each, and the 11 of a List of `all`: 60035
		names = append(names, fmt.Sprintf("%0220d", i))
		entries = append(entries, at(names[i], 0))
	}
	d := written(t, 8192, some(entries[:123]...), some(entries[123:]...))
	s := open(t, d)
	if l, err := s.Names(""); !slices.Equal(l, names) || err != nil {
		t.Error(len(l), err)
	}
	before := d.Image()
	is(t, "one more", s.Commit(put("z", "")), api.ErrFull, 0)
	is(t, "as it is", s.Commit(move(names[0], names[0])), api.ErrFull, 0)
	is(t, "put anew", s.Commit(put(names[0], "x")), api.ErrFull, 0)
	is(t, "a bit less", s.Commit(move(names[0], names[0][:186])), api.ErrFull, 0)
	is(t, "no such name", s.Commit(drop("z")), api.ErrNone, 0)
	if d.Image() != before {
		t.Error("written")
	}
	done(t, s, move(names[0], names[0][:185]))
	if told(open(t, d)) != told(s) {
		t.Error("Open tells something else")
	}
}

// entry is what a record tells of a name with a value.
func entry(name, value string, pairs ...int) string {
	return list(name, words(len(value), sum(value))+words(pairs...))
}

// recorded asks for the epoch and the records of a journal of so many sectors.
func recorded(t *testing.T, d *disk.Disk, size, epoch int, want ...string) {
	t.Helper()
	if e, l := records(t, d, size); e != epoch || !slices.Equal(l, want) {
		t.Errorf("epoch %d, %q, not epoch %d, %q", e, l, epoch, want)
	}
}

// P5.3: the record of each Commit.
func TestRecords(t *testing.T) {
	_, d, s := rack(t, 128) // a half has 15 sectors for records
	var want []string
	commit := func(record string, acts ...api.Act) {
		t.Helper()
		done(t, s, acts...)
		if record != "" {
			want = append(want, record)
		}
		recorded(t, d, 32, 1, want...)
	}
	hundred := of("a", 100)
	commit(some(entry("a", hundred, 32, 2), entry("b", "")), put("b", ""), put("a", hundred))
	commit(some(entry("b", "")), put("b", "")) // put anew: always
	commit("", move("a", "a"))
	commit("", put("x", "1"), drop("x"))
	commit("", move("a", "x"), move("b", "a"), move("a", "b"), move("x", "a"))
	commit(some(entry("a", hundred, 34, 2)), put("a", hundred)) // the same, elsewhere
	commit(some(list("a"), entry("c", hundred, 34, 2)), move("a", "c"))
	commit(some(entry("d", ""), entry("e", "")), put("e", ""), put("d", ""))
	commit(some(list("d")), move("d", "e"))           // the tail of e is as it was
	commit(some(list("e")), put("e", "x"), drop("e")) // it is gone, whatever was put
	commit(some(list("b"), entry("x", "")), move("b", "x"))
	commit(some(entry("x", "")), drop("x"), put("x", "")) // put anew, too
}

// P5.3: no record is laid, and nothing else written, where nothing changes.
func TestNothingChanges(t *testing.T) {
	p, d, s := rack(t, 40)
	done(t, s, put("a", "1"))
	before, acts := d.Image(), p.Acts()
	p.Cut()
	done(t, s, move("a", "a"))
	done(t, s, put("x", "1"), move("x", "y"), drop("y"))
	p.On()
	if d.Image() != before || p.Acts() != acts {
		t.Error("written")
	}
	has(t, s, "a", "1")
}

// P5.3: a record that does not fit behind the others: the journal is laid anew, with the whole directory alone.
func TestLaidAnew(t *testing.T) {
	_, d, s := rack(t, 40)                 // a half has 4 sectors for records
	done(t, s, put("a", ""), put("b", "")) // 62 bytes and a record's 24: two sectors
	done(t, s, put("b", "1"))              // 69 bytes: two
	recorded(t, d, 10, 1, some(entry("a", ""), entry("b", "")), some(entry("b", "1", 10, 1)))
	done(t, s, drop("a"))                              // 49 bytes: it would want one more
	recorded(t, d, 10, 2, all(entry("b", "1", 10, 1))) // 68 bytes: two
	done(t, s, put("c", ""))                           // 61 bytes: one
	done(t, s, drop("c"))                              // 49 bytes: one, which is the last
	recorded(t, d, 10, 2, all(entry("b", "1", 10, 1)), some(entry("c", "")), some(list("c")))
	done(t, s, put("d", "2"), put("e", ""))
	recorded(t, d, 10, 3, all(entry("b", "1", 10, 1), entry("d", "2", 11, 1), entry("e", "")))
	done(t, s, drop("e"))                // one
	done(t, s, drop("b"), put("d", "3")) // 82 bytes: two, where one is left
	recorded(t, d, 10, 4, all(entry("d", "3", 12, 1)))
	done(t, s, put("d", "4")) // two
	done(t, s, drop("d"))
	recorded(t, d, 10, 5, all())
	names(t, s)
	if told(open(t, d)) != told(s) {
		t.Error(told(s))
	}
}

// P5.3: so it is with a record of more than MaxRecord bytes, where the whole directory has less.
func TestLongRecord(t *testing.T) {
	var entries, want []string
	var acts []api.Act
	for i := range 100 { // behind the Commit 232 bytes of a name that is gone, and 372 of the new one: 60412 in all
		name, to := fmt.Sprintf("a%0219d", i), fmt.Sprintf("b%0219d", i)
		var places []int
		for n := range 16 {
			places = append(places, 2048+16*i+n, 1)
		}
		entries, want = append(entries, at(name, 1024, places...)), append(want, at(to, 1024, places...))
		acts = append(acts, move(name, to))
	}
	d := written(t, 8192, all(entries...))
	s := open(t, d)
	done(t, s, acts...)
	recorded(t, d, 2048, 3, all(want...))
	if told(open(t, d)) != told(s) {
		t.Error("Open tells something else")
	}
}

// P5.3, P2: a journal of the last epoch can't be laid anew: that is told, and nothing has changed.
func TestLastEpoch(t *testing.T) {
	_, d, s := rack(t, 40)
	done(t, s, put("a", ""), put("b", "1"))
	head, err := frame.Pack(api.MaxEpoch, 0, "journal")
	is(t, "Pack", err, api.OK, 0)
	is(t, "Write", d.Write(5, head), api.OK, 0)
	record, err := frame.Pack(api.MaxEpoch, 1, all(entry("a", ""), entry("b", "1", 10, 1)))
	is(t, "Pack", err, api.OK, 0)
	for i := 0; i < len(record); i += 64 {
		is(t, "Write", d.Write(6+i/64, record[i:i+64]), api.OK, 0)
	}
	is(t, "Flush", d.Flush(), api.OK, 0)
	s = open(t, d)
	done(t, s, put("c", ""))
	done(t, s, drop("c"))
	before, same := d.Image(), told(s)
	is(t, "no room, and no epoch", s.Commit(drop("a"), put("d", "3")), api.ErrArg, 0)
	if d.Image() != before || told(s) != same || told(open(t, d)) != same {
		t.Error(told(s))
	}
	done(t, s, move("a", "a"))
}
