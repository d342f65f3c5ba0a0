package matrix_test

import (
	"errors"
	"math"
	"math/rand"
	"slices"
	"strconv"
	"strings"
	"sync"
	"testing"
	"unsafe"

	"storehouse/api"
	"storehouse/matrix"
)

// matrices is each call of the layer that answers a matrix, of these two, and of one's size.
func matrices(a, b api.Matrix, rows ...int) []func() (api.Matrix, error) {
	return []func() (api.Matrix, error){
		func() (api.Matrix, error) { return matrix.Identity(a.Rows) },
		func() (api.Matrix, error) { return matrix.Cauchy(a.Rows, a.Cols) },
		func() (api.Matrix, error) { return matrix.Mul(a, b) },
		func() (api.Matrix, error) { return matrix.Invert(a) },
		func() (api.Matrix, error) { return matrix.Pick(a, rows...) },
		func() (api.Matrix, error) { return matrix.Under(a, b) },
	}
}

// told is what all calls of the layer answer, as one text.
func told(a, b api.Matrix, column []string, rows ...int) string {
	all := strconv.FormatBool(matrix.Right(a))
	for _, call := range matrices(a, b, rows...) {
		c, err := call()
		all += " " + strconv.Itoa(c.Rows) + " " + strconv.Itoa(c.Cols) + " " + string(c.Cells) + number(err)
	}
	n, err := matrix.Rank(a)
	all += " " + strconv.Itoa(n) + number(err)
	list, err := matrix.Apply(a, column)
	return all + " " + strings.Join(list, "|") + number(err)
}

// number is an error's, as a text.
func number(err error) string {
	var f *api.Fault
	if !errors.As(err, &f) {
		return ""
	}
	return " " + strconv.Itoa(int(f.Code))
}

// P1, P6: every call ends, and none panics, whatever it gets.
func TestAnyArguments(t *testing.T) {
	r := rand.New(rand.NewSource(16))
	right := []api.Matrix{of(1, 1, 0), of(1, 1, 7), of(1, 3, 0, 0, 1), of(3, 1, 0, 1, 2), of(2, 2, 0, 0, 0, 0), anyOf(r, 255, 255), anyOf(r, 255, 2)}
	columns := [][]string{nil, {""}, {"a"}, {"a", "bc"}, {"abc", "de", ""}, make([]string, 255), make([]string, 256)}
	picks := [][]int{nil, {0}, {-1}, {math.MaxInt, math.MinInt}, {254, 255}, make([]int, 1000)}
	for i, a := range append(wrong(), right...) {
		for j, b := range append(right[:3:3], wrong()[i%10], a) {
			told(a, b, columns[(i+j)%len(columns)], picks[(i+j)%len(picks)]...)
		}
	}
	for i, a := range right {
		for j, b := range right {
			told(a, b, columns[(i+j)%len(columns)], picks[(i+j)%len(picks)]...)
		}
	}
}

// P2: each error is a new fault that errors.Is finds, with no place, and that came from nothing.
func TestErrors(t *testing.T) {
	if api.ErrArg != 1 || api.ErrSingular != 18 || api.ErrShape != 19 || api.MaxRows != 255 {
		t.Error("a number of package api")
	}
	right, wide := of(2, 2, 1, 2, 2, 4), of(1, 3, 1, 2, 3)
	for name, c := range map[string]struct {
		code api.Errno
		call func() error
	}{
		"Identity":         {api.ErrArg, func() error { _, err := matrix.Identity(0); return err }},
		"Cauchy":           {api.ErrArg, func() error { _, err := matrix.Cauchy(0, 1); return err }},
		"Mul":              {api.ErrArg, func() error { _, err := matrix.Mul(right, api.Matrix{}); return err }},
		"Mul, shape":       {api.ErrShape, func() error { _, err := matrix.Mul(right, wide); return err }},
		"Invert":           {api.ErrArg, func() error { _, err := matrix.Invert(api.Matrix{}); return err }},
		"Invert, shape":    {api.ErrShape, func() error { _, err := matrix.Invert(wide); return err }},
		"Invert, singular": {api.ErrSingular, func() error { _, err := matrix.Invert(right); return err }},
		"Rank":             {api.ErrArg, func() error { _, err := matrix.Rank(api.Matrix{}); return err }},
		"Pick":             {api.ErrArg, func() error { _, err := matrix.Pick(right, 2); return err }},
		"Under":            {api.ErrArg, func() error { _, err := matrix.Under(right, api.Matrix{}); return err }},
		"Under, shape":     {api.ErrShape, func() error { _, err := matrix.Under(right, wide); return err }},
		"Apply":            {api.ErrArg, func() error { _, err := matrix.Apply(api.Matrix{}, nil); return err }},
		"Apply, shape":     {api.ErrShape, func() error { _, err := matrix.Apply(right, nil); return err }},
	} {
		a, b := c.call(), c.call()
		is(t, name, a, c.code)
		if !errors.Is(a, c.code) || a == b {
			t.Errorf("%s: %v, %v", name, a, b)
		}
	}
}

// P3: nothing that is handed in is written into, nor what stands behind it, and none of it is kept.
func TestNothingIsKept(t *testing.T) {
	cells := []byte("\x00\x02\x03\x04\x05\x06\x07\x08\x0a" + "behind")
	rows := []int{2, 0, 1, 7}
	bytes := []byte("abcdef" + "behind")
	lent := unsafe.String(&bytes[0], len(bytes))
	column := []string{lent[0:2], lent[2:4], lent[4:6], "behind"}
	a := of(3, 3, cells[:9]...)
	a.Cells = cells[:9]
	calls := matrices(a, a, rows[:3]...)
	var got []api.Matrix
	for _, call := range calls {
		answer, err := call()
		is(t, "a call", err, api.OK)
		got = append(got, answer)
	}
	n, _ := matrix.Rank(a)
	list, err := matrix.Apply(a, column[:3])
	is(t, "Apply", err, api.OK)
	if string(cells) != "\x00\x02\x03\x04\x05\x06\x07\x08\x0abehind" || !slices.Equal(rows, []int{2, 0, 1, 7}) || string(bytes) != "abcdefbehind" || column[3] != "behind" {
		t.Errorf("written into: %q, %v, %q, %q", cells, rows, bytes, column)
	}
	clear(cells)
	clear(rows)
	clear(bytes)
	clear(column)
	same := of(3, 3, 0, 2, 3, 4, 5, 6, 7, 8, 10)
	for i, call := range matrices(same, same, 2, 0, 1) {
		want, _ := call()
		answers(t, "kept", got[i], nil, want)
	}
	if !slices.Equal(list, applied(same, []string{"ab", "cd", "ef"})) || n != rank(same) {
		t.Errorf("kept: %q, %d", list, n)
	}
}

// P3: what is answered is new memory, spare room too: not an argument's, not another answer's.
func TestAnswersAreNew(t *testing.T) {
	a := of(3, 3, 1, 0, 0, 0, 1, 0, 0, 0, 1)
	want := slices.Clone(a.Cells)
	for i, call := range matrices(a, a, 0, 1, 2) {
		first, _ := call()
		kept := slices.Clone(first.Cells)
		second, _ := call()
		for k := range second.Cells[:cap(second.Cells)] {
			second.Cells[:cap(second.Cells)][k] = 99
		}
		if !slices.Equal(a.Cells, want) || !slices.Equal(first.Cells, kept) {
			t.Error("shared:", i)
		}
	}
	column := []string{"one text", "two text", "one text"}
	first, _ := matrix.Apply(a, column)
	second, _ := matrix.Apply(a, column)
	for i := range first {
		for _, other := range []string{column[i], second[i], first[(i+1)%3]} {
			if unsafe.StringData(first[i]) == unsafe.StringData(other) {
				t.Errorf("shared: %q", first[i])
			}
		}
	}
	clear(second[:cap(second)])
	if !slices.Equal(first, column) {
		t.Errorf("shared: %q", first)
	}
}

// P4: the same arguments, the same answers, whatever goes on beside.
func TestNothingElseCounts(t *testing.T) {
	r := rand.New(rand.NewSource(17))
	a, b, low := anyOf(r, 9, 9), anyOf(r, 9, 9), anyOf(r, 9, 9, 0, 0, 1)
	column := anyTexts(r, 9, 20)
	both := func() string { return told(a, b, column, 8, 1, 1) + told(low, a, column, 3, 2) }
	want := both()
	var all sync.WaitGroup
	for range 8 {
		all.Go(func() {
			for range 100 {
				if both() != want {
					t.Error("another answer")
				}
			}
		})
	}
	all.Wait()
}

// P5: rows of nothing may be nil or empty; texts of nothing make texts of nothing.
func TestOfNothing(t *testing.T) {
	a := of(3, 2, 1, 2, 3, 4, 5, 6)
	for _, rows := range [][]int{nil, {}} {
		got, err := matrix.Pick(a, rows...)
		refuses(t, "Pick", got, err, api.ErrArg)
	}
	for _, column := range [][]string{nil, {}} {
		got, err := matrix.Apply(a, column)
		is(t, "Apply", err, api.ErrShape)
		if len(got) != 0 {
			t.Errorf("Apply: %q", got)
		}
	}
	got, err := matrix.Apply(a, []string{"", ""})
	is(t, "Apply", err, api.OK)
	if !slices.Equal(got, []string{"", "", ""}) {
		t.Errorf("Apply: %q", got)
	}
}
