package store_test

import (
	"errors"
	"fmt"
	"slices"
	"strings"
	"testing"

	"storehouse/api"
	"storehouse/disk"
	"storehouse/journal"
	"storehouse/store"
)

// is asks that an error is a fault of this number and place that came from nothing; of OK, that it is none.
func is(t *testing.T, what string, err error, code api.Errno, at int) {
	t.Helper()
	if code == api.OK {
		if err != nil {
			t.Errorf("%s: %v", what, err)
		}
		return
	}
	f, ok := err.(*api.Fault)
	if !ok || *f != (api.Fault{Code: code, At: at}) || !errors.Is(err, code) {
		t.Errorf("%s: %v, not %d at %d", what, err, code, at)
	}
}

// below asks that an error is a fault of this number that came, over so many layers, from one of the same.
func below(t *testing.T, what string, err error, code api.Errno, layers int) {
	t.Helper()
	all := err
	for range layers {
		f, ok := err.(*api.Fault)
		if !ok || f.Code != code || f.At != 0 || !errors.Is(err, code) {
			t.Errorf("%s: %v, not %d over %d layers", what, all, code, layers)
			return
		}
		err = f.Inner
	}
	is(t, what, err, code, 0)
}

// newDisk is a disk on which no sector has bytes 0 alone, and all lasts.
func newDisk(t *testing.T, sectors int) (*disk.Power, *disk.Disk) {
	t.Helper()
	p := disk.NewPower()
	d, err := disk.New(p, sectors)
	if err != nil {
		t.Fatal(err)
	}
	for at := range sectors {
		is(t, "Write", d.Write(at, strings.Repeat(string(rune('A'+at%26)), 64)), api.OK, 0)
	}
	is(t, "Flush", d.Flush(), api.OK, 0)
	return p, d
}

// format is a new store.
func format(t *testing.T, d *disk.Disk) *store.Store {
	t.Helper()
	s, err := store.Format(d)
	if s == nil || err != nil {
		t.Fatal(err)
	}
	return s
}

// open is the store that is there.
func open(t *testing.T, d *disk.Disk) *store.Store {
	t.Helper()
	s, err := store.Open(d)
	if s == nil || err != nil {
		t.Fatal(err)
	}
	return s
}

// rack is a new store on a disk of so many sectors.
func rack(t *testing.T, sectors int) (*disk.Power, *disk.Disk, *store.Store) {
	t.Helper()
	p, d := newDisk(t, sectors)
	return p, d, format(t, d)
}

func put(name, value string) api.Act {
	return api.Act{Kind: api.ActPut, Name: name, Value: value}
}
func drop(name string) api.Act     { return api.Act{Kind: api.ActDrop, Name: name} }
func move(name, to string) api.Act { return api.Act{Kind: api.ActMove, Name: name, To: to} }

// done asks that a Commit is done.
func done(t *testing.T, s *store.Store, acts ...api.Act) {
	t.Helper()
	is(t, "Commit", s.Commit(acts...), api.OK, 0)
}

// of is a value of so many bytes.
func of(c string, bytes int) string { return strings.Repeat(c, bytes) }

// runs is some, told as pairs.
func runs(pairs ...int) []api.Extent {
	var l []api.Extent
	for i := 0; i < len(pairs); i += 2 {
		l = append(l, api.Extent{From: pairs[i], Many: pairs[i+1]})
	}
	return l
}

// lies asks where the value of a name lies.
func lies(t *testing.T, s *store.Store, name string, pairs ...int) {
	t.Helper()
	got, err := s.Where(name)
	if !slices.Equal(got, runs(pairs...)) || err != nil {
		t.Errorf("Where %q: %v, %v, not %v", name, got, err, pairs)
	}
}

// has asks for the value of a name.
func has(t *testing.T, s *store.Store, name, want string) {
	t.Helper()
	got, err := s.Get(name)
	if got != want || err != nil {
		t.Errorf("Get %q: %q, %v, not %q", name, got, err, want)
	}
}

// names asks which there are.
func names(t *testing.T, s *store.Store, want ...string) {
	t.Helper()
	got, err := s.Names("")
	if !slices.Equal(got, want) || err != nil {
		t.Errorf("Names: %q, %v, not %q", got, err, want)
	}
}

// told is all that a store tells: of each name its sectors and its value, or the error.
func told(s *store.Store) string {
	l, err := s.Names("")
	text := fmt.Sprint(s.Free(), err)
	for _, name := range l {
		value, getErr := s.Get(name)
		where, whereErr := s.Where(name)
		text += fmt.Sprintf("\n%q: %q %v %v %v", name, value, getErr, where, whereErr)
	}
	return text
}

// records is the journal's epoch, and its records, as they lie on a disk whose journal has so many sectors.
func records(t *testing.T, d *disk.Disk, size int) (int, []string) {
	t.Helper()
	j, l, err := journal.Open(d, 0, size)
	if err != nil {
		t.Fatal(err)
	}
	return j.Epoch(), l
}

// The chapter's examples.
func TestExamples(t *testing.T) {
	p, d, s := rack(t, 40)
	if s.Free() != 30 {
		t.Error(s.Free())
	}
	done(t, s, put("a", of("h", 100)), put("b", ""))
	lies(t, s, "a", 10, 2)
	lies(t, s, "b")
	if s.Free() != 28 {
		t.Error(s.Free())
	}
	done(t, s, move("a", "c"), put("a", "1"))
	lies(t, s, "c", 10, 2)
	lies(t, s, "a", 12, 1)
	names(t, s, "a", "b", "c")
	is(t, "two drops", s.Commit(drop("b"), drop("b")), api.ErrNone, 1)
	is(t, "no acts", s.Commit(), api.ErrArg, 0)
	is(t, "no name", s.Commit(put("", "")), api.ErrArg, 0)
	is(t, "1800 bytes", s.Commit(put("d", of("d", 1800))), api.ErrFull, 0)
	is(t, "Rot", d.Rot(10, 77), api.OK, 0)
	_, err := s.Get("c")
	is(t, "a turned bit", err, api.ErrRot, 0)
	_, err = s.Get("x")
	is(t, "no such name", err, api.ErrNone, 0)
	p.Fuse(1)
	below(t, "without power", s.Commit(drop("a")), api.ErrPower, 2)
	_, err = s.Get("c")
	is(t, "closed", err, api.ErrClosed, 0)
	p.On()
	d.Lose(nil, 0)
	names(t, open(t, d), "a", "b", "c")
}

// P5.1: how many sectors a disk must have, and which of them are the data.
func TestSectors(t *testing.T) {
	for _, sectors := range []int{1, 2, 8, 31} {
		p, d := newDisk(t, sectors)
		before := d.Image()
		for range 2 {
			s, err := store.Format(d)
			o, openErr := store.Open(d)
			is(t, "Format", err, api.ErrArg, 0)
			is(t, "Open", openErr, api.ErrArg, 0)
			if s != nil || o != nil || d.Image() != before || d.Pending() != 0 {
				t.Error(sectors, s, o)
			}
			p.Cut() // what may not be is told ahead of what the disk says
		}
	}
	for _, c := range [][2]int{{32, 4}, {33, 4}, {39, 4}, {40, 5}, {47, 5}, {48, 6}, {100, 12}, {8191, 1023}, {8192, 1024}} {
		_, d := newDisk(t, c[0])
		before := d.Image()
		s := format(t, d)
		data := c[0] - 2*c[1]
		if s.Free() != data {
			t.Errorf("of %d sectors %d are free, not %d", c[0], s.Free(), data)
		}
		names(t, s)
		if epoch, l := records(t, d, 2*c[1]); epoch != 1 || len(l) != 0 || d.Image()[64*2*c[1]:] != before[64*2*c[1]:] {
			t.Error(c, "the journal:", epoch, l)
		}
		done(t, s, put("first", "x"))
		lies(t, s, "first", 2*c[1], 1)
		if o := open(t, d); told(o) != told(s) || o.Free() != data-1 {
			t.Error(c, told(o))
		}
	}
}

// P5.1: Format takes away what was there; Open tells what the journal or the disk says.
func TestFormatAndOpen(t *testing.T) {
	p, d, s := rack(t, 40)
	done(t, s, put("a", "1"), put("b", "2"))
	s = format(t, d)
	names(t, s)
	names(t, open(t, d))
	_, blank := newDisk(t, 40)
	o, err := store.Open(blank)
	below(t, "no journal", err, api.ErrBlank, 1)
	p.Cut()
	f, formatErr := store.Format(d)
	o2, openErr := store.Open(d)
	below(t, "Format", formatErr, api.ErrPower, 2)
	below(t, "Open", openErr, api.ErrPower, 2)
	p.On()
	d.Kill()
	f2, formatErr := store.Format(d)
	o3, openErr := store.Open(d)
	below(t, "Format", formatErr, api.ErrDead, 2)
	below(t, "Open", openErr, api.ErrDead, 2)
	if o != nil || f != nil || o2 != nil || f2 != nil || o3 != nil {
		t.Error("a store beside an error")
	}
}

// P5.2: the first act that may not be is told, ahead of all that would come of the others.
func TestActsThatMayNotBe(t *testing.T) {
	_, d, s := rack(t, 40)
	done(t, s, put("a", "1"), put("b", "2"))
	before, all := d.Image(), told(s)
	long := of("n", 221)
	for i, act := range []api.Act{
		{}, {Name: "a"}, {Kind: -1, Name: "a"}, {Kind: 4, Name: "a"}, {Kind: 1 << 40, Name: "a"},
		put("", "v"), put(long, "v"), drop(""), drop(long), move("", "x"), move(long, "x"),
		move("a", ""), move("a", long),
		{Kind: api.ActPut, Name: "a", To: "x"}, {Kind: api.ActDrop, Name: "a", To: "x"}, {Kind: api.ActDrop, Name: "a", To: "a"},
		put("a", of("v", 12001)),
		{Kind: api.ActDrop, Name: "a", Value: "v"}, {Kind: api.ActMove, Name: "a", To: "x", Value: "v"},
	} {
		is(t, fmt.Sprint("alone: ", i), s.Commit(act), api.ErrArg, 0)
		is(t, fmt.Sprint("last: ", i), s.Commit(put("x", ""), drop("a"), act), api.ErrArg, 2)
		is(t, fmt.Sprint("ahead of another: ", i), s.Commit(put("x", ""), act, drop("")), api.ErrArg, 1)
		is(t, fmt.Sprint("behind none: ", i), s.Commit(drop("none"), act), api.ErrArg, 1)
		is(t, fmt.Sprint("behind too much: ", i), s.Commit(put("x", of("x", 12000)), act), api.ErrArg, 1)
	}
	is(t, "101 acts", s.Commit(slices.Repeat([]api.Act{put("x", "")}, 101)...), api.ErrArg, 0)
	is(t, "101 acts, one of which may not be", s.Commit(append(slices.Repeat([]api.Act{put("x", "")}, 100), drop(""))...), api.ErrArg, 0)
	if d.Image() != before || told(s) != all {
		t.Error("something has changed:", told(s))
	}
}

// P5.2: the most that may be.
func TestActsThatMayBe(t *testing.T) {
	_, d, s := rack(t, 400)
	long := of("n", 220)
	done(t, s, put(long, of("v", 12000)), put("x", ""))
	has(t, s, long, of("v", 12000))
	lies(t, s, long, 100, 188)
	done(t, s, move(long, of("m", 220)))
	has(t, s, of("m", 220), of("v", 12000))
	done(t, s, drop(of("m", 220)))
	names(t, s, "x")
	done(t, s, slices.Repeat([]api.Act{put("x", "1"), move("x", "y")}, 50)...)
	names(t, s, "y")
	done(t, s, put("\x00", "0"), put("\xff\xfe", "1"), put("é\n", "2"))
	names(t, s, "\x00", "y", "é\n", "\xff\xfe")
	if told(open(t, d)) != told(s) {
		t.Error(told(s))
	}
}

// P5.2: acts are gone through one behind the other.
func TestActsInOrder(t *testing.T) {
	for i, c := range []struct {
		acts []api.Act
		want string // the values of a, b, c, d; - where there is none
		none int    // the number of the act whose name is not there; -1: all are
	}{
		{[]api.Act{put("c", "C")}, "A B C -", -1},
		{[]api.Act{put("a", "x"), put("a", "y")}, "y B - -", -1},
		{[]api.Act{drop("a"), put("a", "x")}, "x B - -", -1},
		{[]api.Act{put("a", "x"), drop("a")}, "- B - -", -1},
		{[]api.Act{put("c", "x"), drop("c")}, "A B - -", -1},
		{[]api.Act{move("a", "b")}, "- A - -", -1},
		{[]api.Act{move("a", "c"), move("b", "a"), move("c", "b")}, "B A - -", -1},
		{[]api.Act{move("a", "a")}, "A B - -", -1},
		{[]api.Act{move("a", "c"), move("c", "a")}, "A B - -", -1},
		{[]api.Act{put("c", "x"), move("c", "a"), move("a", "d")}, "- B - x", -1},
		{[]api.Act{put("c", "x"), move("a", "c"), put("a", "y")}, "y B A -", -1},
		{[]api.Act{put("c", "x"), move("c", "c"), move("c", "d"), put("c", "y")}, "A B y x", -1},
		{[]api.Act{drop("c")}, "", 0},
		{[]api.Act{move("c", "d")}, "", 0},
		{[]api.Act{move("c", "c")}, "", 0},
		{[]api.Act{drop("a"), drop("a")}, "", 1},
		{[]api.Act{drop("a"), move("a", "a")}, "", 1},
		{[]api.Act{move("a", "c"), move("a", "d")}, "", 1},
		{[]api.Act{put("d", "x"), move("d", "c"), drop("d"), drop("d")}, "", 2},
		{[]api.Act{put("d", of("x", 12000)), drop("c")}, "", 1}, // ahead of ErrFull
	} {
		_, d, s := rack(t, 40)
		done(t, s, put("a", "A"), put("b", "B"))
		before := told(s)
		err := s.Commit(c.acts...)
		if c.none >= 0 {
			is(t, fmt.Sprint(i), err, api.ErrNone, c.none)
			c.want = "A B - -"
			if told(s) != before {
				t.Error(i, told(s))
			}
		} else {
			is(t, fmt.Sprint(i), err, api.OK, 0)
		}
		for _, s := range []*store.Store{s, open(t, d)} {
			for n, want := range strings.Fields(c.want) {
				name := "abcd"[n : n+1]
				if value, err := s.Get(name); want == "-" {
					is(t, fmt.Sprint(i, name), err, api.ErrNone, 0)
				} else if value != want {
					t.Error(i, name, value, err)
				}
			}
		}
	}
}

// P5.2, P5.3: what is put gets the lowest sectors that are free, in the order of the acts; what goes by a Commit is free from the next one on.
func TestWhereItGoes(t *testing.T) {
	_, d, s := rack(t, 40)
	done(t, s, put("b", of("b", 64)), put("a", of("a", 65)), put("c", ""), put("d", of("d", 128)))
	lies(t, s, "b", 10, 1)
	lies(t, s, "a", 11, 2)
	lies(t, s, "c")
	lies(t, s, "d", 13, 2)
	done(t, s, put("b", "new"))
	lies(t, s, "b", 15, 1)
	done(t, s, drop("a"), put("e", "e"))
	lies(t, s, "e", 10, 1)
	done(t, s, put("f", of("f", 300))) // over 11, 12 and what is behind 15
	lies(t, s, "f", 11, 2, 16, 3)
	has(t, s, "f", of("f", 300))
	done(t, s, drop("e"), drop("d"), drop("c"))
	done(t, s, put("x", "gone"), put("z", of("z", 65)), put("y", "moved"), drop("x"), move("y", "x"), put("w", ""), put("y", of("y", 64)))
	lies(t, s, "z", 10, 1, 13, 1) // what is not left in the end has no sectors
	lies(t, s, "x", 14, 1)
	lies(t, s, "y", 19, 1)
	done(t, s, drop("w"), put("z", "1"), put("q", "2"), put("z", "3"))
	lies(t, s, "q", 20, 1) // the act that put what is left counts
	lies(t, s, "z", 21, 1)
	if told(open(t, d)) != told(s) {
		t.Error(told(s))
	}
}

// P5.3: the bytes of a value on its sectors, made up with bytes 0; what else there is of the data is as it was.
func TestBytesOnSectors(t *testing.T) {
	_, d, s := rack(t, 40)
	before := d.Image()
	done(t, s, put("a", of("a", 65)), put("b", ""), put("c", of("c", 128)))
	done(t, s, drop("a"))
	done(t, s, put("d", of("d", 130)))
	lies(t, s, "d", 10, 2, 14, 1)
	want := of("d", 128) + of("c", 128) + "dd" + of("\x00", 62) + before[64*15:]
	if got := d.Image()[64*10:]; got != want {
		t.Errorf("%q, not %q", got, want)
	}
}

// P5.2: a value wants sectors that are free ahead of the Commit.
func TestFullOfValues(t *testing.T) {
	_, d, s := rack(t, 40)
	done(t, s, put("a", of("a", 64*20)))
	for _, acts := range [][]api.Act{
		{put("b", of("b", 64*10+1))},
		{put("b", of("b", 64*9)), put("c", "1"), put("d", "1")},
		{drop("a"), put("b", of("b", 64*11))},
		{put("a", of("b", 64*11))},
	} {
		before := d.Image()
		is(t, "too much", s.Commit(acts...), api.ErrFull, 0)
		if s.Free() != 10 || d.Image() != before {
			t.Error(told(s))
		}
		has(t, s, "a", of("a", 64*20))
		names(t, s, "a")
	}
	// What is not left in the end wants no sectors.
	done(t, s, put("b", of("b", 64*10)), put("c", of("c", 64*10)), drop("b"), put("c", of("d", 64*9)), put("e", ""))
	if s.Free() != 1 {
		t.Error(s.Free())
	}
	done(t, s, put("f", "1"))
	is(t, "one more", s.Commit(put("g", "1")), api.ErrFull, 0)
	done(t, s, put("g", ""), move("a", "h"))
	done(t, s, drop("h"))
	done(t, s, put("g", of("g", 64*20)))
	if s.Free() != 0 || told(open(t, d)) != told(s) {
		t.Error(told(s))
	}
}

// P5.2: the record of a whole directory must fit into a half of the journal: with 40 sectors into 4, 232 bytes.
func TestFullDirectory(t *testing.T) {
	// A List of `all` has 11 bytes, an entry of an empty value 24 and its name's.
	for _, c := range []struct {
		bytes []int // of the names
		fits  bool
	}{
		{[]int{197}, true}, {[]int{198}, false}, {[]int{220}, false},
		{[]int{100, 73}, true}, {[]int{100, 74}, false},
		{[]int{1, 1, 1, 1, 1, 1, 1, 46}, false}, {[]int{1, 1, 1, 1, 1, 1, 1, 22}, true}, {[]int{1, 1, 1, 1, 1, 1, 1, 23}, false},
	} {
		_, d, s := rack(t, 40)
		var acts []api.Act
		for i, bytes := range c.bytes {
			acts = append(acts, put(of(string(rune('a'+i)), bytes), ""))
		}
		err := s.Commit(acts...)
		if c.fits {
			is(t, fmt.Sprint(c.bytes), err, api.OK, 0)
			is(t, "one more", s.Commit(put("z", "")), api.ErrFull, 0)
			done(t, s, drop(acts[0].Name), put("z", ""))
			done(t, s, drop("z"))
		} else {
			is(t, fmt.Sprint(c.bytes), err, api.ErrFull, 0)
			names(t, s)
		}
		if told(open(t, d)) != told(s) {
			t.Error(c.bytes, told(s))
		}
	}
}

// P5.2: on a great disk the record of a whole directory may have MaxRecord bytes, and no more.
func TestLongestDirectory(t *testing.T) {
	_, d, s := rack(t, 8192)
	var acts []api.Act
	left := 60000 - 11
	for i := 0; left >= 2*(24+220); i++ {
		acts = append(acts, put(fmt.Sprintf("%0220d", i), ""))
		left -= 24 + 220
	}
	for ; len(acts) > 100; acts = acts[100:] {
		done(t, s, acts[:100]...)
	}
	done(t, s, acts...)
	done(t, s, put(of("x", 220), ""))
	left -= 24 + 220
	for _, more := range []int{left - 24 + 1, left} {
		is(t, "one byte more", s.Commit(put(of("y", min(more, 220)), ""), put(of("z", more-min(more, 220)+1), "")), api.ErrFull, 0)
	}
	done(t, s, put(of("y", left-24), ""))
	is(t, "one more", s.Commit(put("z", "")), api.ErrFull, 0)
	is(t, "one byte more", s.Commit(move(of("y", left-24), of("y", left-23))), api.ErrFull, 0)
	is(t, "a sector more", s.Commit(put(of("y", left-24), "1")), api.ErrFull, 0)
	done(t, s, move(of("y", left-24), of("z", left-24)))
	if told(open(t, d)) != told(s) {
		t.Error("Open tells something else")
	}
}

// P5.4: what is asked for, and what comes.
func TestGetWhereNames(t *testing.T) {
	_, d, s := rack(t, 100)
	values := map[string]string{}
	var acts []api.Act
	for _, bytes := range []int{0, 1, 63, 64, 65, 127, 128, 129, 1000} {
		name := fmt.Sprintf("n%d", bytes)
		values[name] = of("\x00\xffv", bytes)[:bytes]
		acts = append(acts, put(name, values[name]))
	}
	done(t, s, acts...)
	for _, s := range []*store.Store{s, open(t, d)} {
		for name, value := range values {
			has(t, s, name, value)
			sectors := 0
			where, err := s.Where(name)
			for _, run := range where {
				sectors += run.Many
			}
			if sectors != (len(value)+63)/64 || err != nil {
				t.Error(name, where, err)
			}
		}
		for prefix, want := range map[string]string{
			"": "n0 n1 n1000 n127 n128 n129 n63 n64 n65", "n": "n0 n1 n1000 n127 n128 n129 n63 n64 n65",
			"n1": "n1 n1000 n127 n128 n129", "n12": "n127 n128 n129", "n0": "n0", "n00": "", "m": "", "o": "", of("n", 500): "",
		} {
			l, err := s.Names(prefix)
			if strings.Join(l, " ") != want || err != nil {
				t.Error(prefix, l, err)
			}
		}
		for _, name := range []string{"", "n", "n00", "N1", of("n", 500)} {
			value, err := s.Get(name)
			where, whereErr := s.Where(name)
			is(t, "Get", err, api.ErrNone, 0)
			is(t, "Where", whereErr, api.ErrNone, 0)
			if value != "" || len(where) != 0 {
				t.Error(name, value, where)
			}
		}
	}
}

// P5.4: each bit of a value, turned; those behind it in its last sector are none of it.
func TestEachBitTurned(t *testing.T) {
	_, d, s := rack(t, 40)
	value := of("value", 100)[:100]
	done(t, s, put("a", value), put("b", "other"))
	for at := 10; at < 12; at++ {
		for bit := range 512 {
			is(t, "Rot", d.Rot(at, bit), api.OK, 0)
			got, err := s.Get("a")
			if 64*(at-10)+bit/8 < 100 {
				is(t, "turned", err, api.ErrRot, 0)
				if got != "" {
					t.Error(got)
				}
			} else if got != value || err != nil {
				t.Error(at, bit, err)
			}
			lies(t, s, "a", 10, 2)
			has(t, s, "b", "other")
			is(t, "Rot", d.Rot(at, bit), api.OK, 0)
		}
	}
	has(t, s, "a", value)
	is(t, "Rot", d.Rot(10, 0), api.OK, 0)
	done(t, s, move("a", "c"), put("a", "new")) // what is sick may go, and may be put anew
	has(t, s, "a", "new")
	_, err := s.Get("c")
	is(t, "moved", err, api.ErrRot, 0)
}

// P5.4, P5.5: an error of the disk is answered; by Get the store is not closed, by Commit it is, for good.
func TestClosed(t *testing.T) {
	p, d, s := rack(t, 40)
	done(t, s, put("a", "1"), put("b", ""))
	p.Cut()
	value, err := s.Get("a")
	below(t, "Get", err, api.ErrPower, 1)
	if value != "" {
		t.Error(value)
	}
	lies(t, s, "a", 10, 1)
	names(t, s, "a", "b")
	p.On()
	has(t, s, "a", "1")
	for _, c := range []struct {
		fuse, layers int
		acts         []api.Act
	}{
		{0, 1, []api.Act{put("c", "3")}}, // the value's own sectors
		{1, 1, []api.Act{put("c", "3")}},
		{2, 2, []api.Act{put("c", "3")}}, // the journal's
		{0, 2, []api.Act{drop("a")}},
		{0, 2, []api.Act{put("c", "")}},
	} {
		s := open(t, d)
		p.Fuse(c.fuse)
		below(t, "Commit", s.Commit(c.acts...), api.ErrPower, c.layers)
		p.On()
		d.Lose(nil, 0)
		closed(t, s)
	}
	d.Kill()
	_, err = s.Get("a")
	below(t, "Get", err, api.ErrDead, 1)
	is(t, "none", s.Commit(drop("x")), api.ErrNone, 0)
	is(t, "wrong", s.Commit(drop("")), api.ErrArg, 0)
	if s.Free() != 29 {
		t.Error(s.Free())
	}
	below(t, "Commit", s.Commit(put("c", "3")), api.ErrDead, 1)
	closed(t, s)
}

// closed asks that a store tells nothing.
func closed(t *testing.T, s *store.Store) {
	t.Helper()
	value, err := s.Get("a")
	is(t, "Get", err, api.ErrClosed, 0)
	where, err := s.Where("a")
	is(t, "Where", err, api.ErrClosed, 0)
	l, err := s.Names("")
	is(t, "Names", err, api.ErrClosed, 0)
	_, err = s.Get("none")
	is(t, "Get of none", err, api.ErrClosed, 0)
	_, err = s.Where("")
	is(t, "Where of none", err, api.ErrClosed, 0)
	is(t, "Commit", s.Commit(put("a", "x")), api.ErrClosed, 0)
	is(t, "Commit of none", s.Commit(), api.ErrClosed, 0)
	is(t, "Commit of a wrong one", s.Commit(api.Act{}), api.ErrClosed, 0)
	if value != "" || len(where) != 0 || len(l) != 0 || s.Free() != 0 {
		t.Error(value, where, l, s.Free())
	}
}
