package journal_test

import (
	"errors"
	"math"
	"math/rand"
	"slices"
	"strings"
	"sync"
	"testing"
	"unsafe"

	"storehouse/api"
	"storehouse/disk"
	"storehouse/journal"
)

// numbers are those at which a place or a size may go wrong.
var numbers = []int{math.MinInt, math.MinInt + 1, -64, -1, 0, 1, 2, 3, 4, 5, 16, 19, 20, 21, 8192, 1 << 32, math.MaxInt - 1, math.MaxInt}

// P1, P6: every call ends, and none panics, whatever it gets and whatever stands there.
func TestAnyArguments(t *testing.T) {
	r := rand.New(rand.NewSource(6))
	for _, from := range numbers {
		for _, size := range numbers {
			_, d := newDisk(t, 20)
			may := from >= 0 && size >= 4 && size <= 20 && size%2 == 0 && from <= 20-size
			j, err := journal.Format(d, from, size)
			k, _, err2 := journal.Open(d, from, size)
			if !may {
				is(t, "Format", err, api.ErrArg)
				is(t, "Open", err2, api.ErrArg)
				continue
			}
			is(t, "Format", err, api.OK)
			is(t, "Open", err2, api.OK)
			for _, j := range []*journal.Journal{j, k} {
				for _, n := range []int{0, 1, 39, 40, 41, 60000, 60001, 1000000} {
					record := strings.Repeat("\x01", n)
					j.Append(record)
					j.Reset(record)
					j.Reset(record, record, "")
					j.Reset(slices.Repeat([]string{record}, 9)...)
				}
			}
		}
	}
	for range 2000 {
		_, d := newDisk(t, 10)
		for at := range 10 {
			s := make([]byte, 64)
			r.Read(s)
			copy(s, pack(1, at%5, "journal")[:r.Intn(65)])
			raw(t, d, at, string(s))
		}
		if j, _, err := journal.Open(d, 0, 10); err == nil {
			j.Append("a")
			j.Reset("b", "c")
		} else {
			is(t, "Open", err, api.ErrBlank)
		}
	}
}

// P2: the errors' numbers, each in a fault that is new; what came of the disk is found by its number, and as the disk's fault.
func TestErrors(t *testing.T) {
	if api.ErrArg != 1 || api.ErrPower != 10 || api.ErrDead != 11 || api.ErrFull != 12 || api.ErrBlank != 15 || api.ErrClosed != 16 || api.MaxRecord != 60000 || api.MaxEpoch != 1<<62 {
		t.Error("a number of package api")
	}
	p, d := newDisk(t, 20)
	j, dark, closed := format(t, d, 0, 4), format(t, d, 4, 4), format(t, d, 8, 4)
	for name, call := range map[string]func() error{
		"Format":           func() error { _, err := journal.Format(d, 0, 3); return err },
		"Open":             func() error { _, _, err := journal.Open(d, 0, 3); return err },
		"Open, blank":      func() error { _, _, err := journal.Open(d, 12, 8); return err },
		"Append, full":     func() error { return j.Append(text("a", 2)) },
		"Append, too long": func() error { return j.Append(strings.Repeat("a", 60001)) },
		"Reset, full":      func() error { return j.Reset("a", "b") },
		"Reset, too long":  func() error { return j.Reset(strings.Repeat("a", 60001)) },
		"closed": func() error {
			p.Cut()
			closed.Append("a")
			p.On()
			return closed.Append("a")
		},
	} {
		a, aOK := call().(*api.Fault)
		b, bOK := call().(*api.Fault)
		if !aOK || !bOK || *a != *b || a == b || a.Inner != nil || a.At != 0 {
			t.Errorf("%s: %v, %v", name, a, b)
		}
	}
	p.Cut()
	defer p.On()
	for _, call := range []func() error{
		func() error { _, err := journal.Format(d, 0, 4); return err },
		func() error { _, _, err := journal.Open(d, 0, 4); return err },
		func() error { return dark.Append("a") },
		func() error { return j.Reset("a") },
	} {
		err := call()
		ofDisk(t, "without power", err, api.ErrPower)
		var f *api.Fault
		if !errors.As(err, &f) || !errors.As(f.Inner, &f) || f.Inner != nil || errors.Is(err, api.ErrDead) {
			t.Error(err)
		}
	}
}

// P2: beside an error nothing is told, and what is refused changes nothing that a later call could tell.
func TestRefusedChangesNothing(t *testing.T) {
	p, d := newDisk(t, 20)
	j := format(t, d, 2, 8)
	is(t, "Append", j.Append("a"), api.OK)
	before, acts := d.Image(), p.Acts()
	journal.Format(d, 2, 7)
	journal.Open(d, 2, 7)
	journal.Open(d, 10, 8)
	j.Append(text("b", 3))
	j.Append(strings.Repeat("b", 60001))
	j.Reset("b", text("b", 3))
	j.Reset("b", strings.Repeat("b", 60001))
	if d.Image() != before || p.Acts() != acts || d.Pending() != 0 {
		t.Error("written")
	}
	tells(t, j, 2, 3, 1, 1)
	finds(t, d, 2, 8, j, "a")
}

// P3: nothing that is handed in is written into, nor what stands behind it, and none of it is kept.
func TestNothingIsKept(t *testing.T) {
	_, d := newDisk(t, 20)
	j := format(t, d, 2, 10)
	bytes := []byte("one two behind")
	lent := unsafe.String(&bytes[0], len(bytes))
	is(t, "Append", j.Append(lent[:3]), api.OK)
	finds(t, d, 2, 10, j, "one")
	records := []string{lent[:3], lent[4:7], "behind", ""}
	is(t, "Reset", j.Reset(records[:2:3]...), api.OK)
	if string(bytes) != "one two behind" || !slices.Equal(records, []string{"one", "two", "behind", ""}) {
		t.Errorf("written into: %q, %q", bytes, records)
	}
	clear(bytes)
	clear(records)
	is(t, "Append", j.Append("three"), api.OK)
	finds(t, d, 2, 10, j, "one", "two", "three")
}

// P3: what Open tells is new memory, each time.
func TestAnswersAreNew(t *testing.T) {
	_, d := newDisk(t, 20)
	j := format(t, d, 2, 10)
	is(t, "Reset", j.Reset("one", "two"), api.OK)
	_, a := open(t, d, 2, 10)
	_, b := open(t, d, 2, 10)
	for i := range a {
		if unsafe.StringData(a[i]) == unsafe.StringData(b[i]) {
			t.Error("one place of", a[i])
		}
	}
	a[0] = "x"
	_ = append(a[:1], "y")
	is(t, "Reset", j.Reset("other"), api.OK)
	if !slices.Equal(b, []string{"one", "two"}) {
		t.Error(b)
	}
}

// P4: the same steps, the same answers and the same bytes, at another disk, whatever goes on beside.
func TestNothingElseCounts(t *testing.T) {
	told := func() string {
		p := disk.NewPower()
		d, _ := disk.New(p, 16)
		j, _ := journal.Format(d, 1, 14)
		j.Append("a")
		j.Reset("b", text("c", 2))
		p.Fuse(3)
		j.Append(text("d", 3))
		p.On()
		d.Lose([]bool{true, true}, 7)
		k, records, _ := journal.Open(d, 1, 14)
		k.Append("e")
		return strings.Join(records, "|") + d.Image()
	}
	want := told()
	var all sync.WaitGroup
	for range 8 {
		all.Go(func() {
			for range 50 {
				if told() != want {
					t.Error("another answer")
				}
			}
		})
	}
	all.Wait()
}

// P4: two journals on one disk are apart.
func TestTwoJournals(t *testing.T) {
	_, d := newDisk(t, 20)
	a, b := format(t, d, 0, 10), format(t, d, 10, 10)
	for i := range 4 {
		is(t, "Append", a.Append(strings.Repeat("a", i)), api.OK)
		is(t, "Append", b.Append(strings.Repeat("b", i)), api.OK)
	}
	is(t, "Reset", a.Reset("x"), api.OK)
	finds(t, d, 0, 10, a, "x")
	finds(t, d, 10, 10, b, "", "b", "bb", "bbb")
}

// P5: a list of nothing may be nil or empty.
func TestOfNothing(t *testing.T) {
	_, d := newDisk(t, 20)
	j := format(t, d, 2, 8)
	for i, none := range [][]string{nil, {}} {
		is(t, "Reset", j.Reset(none...), api.OK)
		tells(t, j, 3, 3, i+2, 0)
		finds(t, d, 2, 8, j)
	}
	is(t, "Append", j.Append(""), api.OK)
	finds(t, d, 2, 8, j, "")
}
