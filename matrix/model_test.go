package matrix_test

import (
	"math"
	"math/rand"
	"slices"
	"strings"
	"testing"

	"storehouse/api"
	"storehouse/field"
)

// of is a matrix with these cells.
func of(rows, cols int, cells ...byte) api.Matrix {
	return api.Matrix{Rows: rows, Cols: cols, Cells: cells}
}

// made is a matrix whose cells a function tells.
func made(rows, cols int, cell func(i, j int) byte) api.Matrix {
	a := of(rows, cols)
	for i := range rows {
		for j := range cols {
			a.Cells = append(a.Cells, cell(i, j))
		}
	}
	return a
}

// at is a cell of a matrix.
func at(a api.Matrix, i, j int) byte { return a.Cells[i*a.Cols+j] }

// anyOf is a matrix of any of these numbers; of none of them, of all numbers.
func anyOf(r *rand.Rand, rows, cols int, of ...byte) api.Matrix {
	return made(rows, cols, func(i, j int) byte {
		if len(of) == 0 {
			return byte(r.Intn(256))
		}
		return of[r.Intn(len(of))]
	})
}

// one is the matrix that changes nothing.
func one(n int) api.Matrix {
	return made(n, n, func(i, j int) byte {
		if i == j {
			return 1
		}
		return 0
	})
}

// product is that of two matrices, cell by cell.
func product(a, b api.Matrix) api.Matrix {
	return made(a.Rows, b.Cols, func(i, j int) byte {
		sum := byte(0)
		for k := range a.Cols {
			sum ^= field.Mul(at(a, i, k), at(b, k, j))
		}
		return sum
	})
}

// part is what some rows and columns of a matrix have in common.
func part(a api.Matrix, rows, cols []int) api.Matrix {
	return made(len(rows), len(cols), func(i, j int) byte { return at(a, rows[i], cols[j]) })
}

// without is the numbers below n but one.
func without(n, gone int) []int {
	var all []int
	for i := range n {
		if i != gone {
			all = append(all, i)
		}
	}
	return all
}

// determinant goes along the first row; there are no signs, as a number is its own opposite.
func determinant(a api.Matrix) byte {
	if a.Rows == 0 {
		return 1
	}
	sum := byte(0)
	for j := range a.Cols {
		sum ^= field.Mul(at(a, 0, j), determinant(part(a, without(a.Rows, 0), without(a.Cols, j))))
	}
	return sum
}

// inverse is that of a small matrix, by its determinants; false, if it has none.
func inverse(a api.Matrix) (api.Matrix, bool) {
	times, ok := field.Inv(determinant(a))
	if !ok {
		return of(0, 0), false
	}
	return made(a.Rows, a.Cols, func(i, j int) byte {
		return field.Mul(times, determinant(part(a, without(a.Rows, j), without(a.Cols, i))))
	}), true
}

// choices is each way to choose some of the numbers below n, rising.
func choices(n, many int) [][]int {
	if many == 0 {
		return [][]int{nil}
	}
	var all [][]int
	for last := many - 1; last < n; last++ {
		for _, ahead := range choices(last, many-1) {
			all = append(all, append(slices.Clone(ahead), last))
		}
	}
	return all
}

// rank is the size of the greatest square part of a small matrix whose determinant is not 0.
func rank(a api.Matrix) int {
	for n := min(a.Rows, a.Cols); n > 0; n-- {
		for _, rows := range choices(a.Rows, n) {
			for _, cols := range choices(a.Cols, n) {
				if determinant(part(a, rows, cols)) != 0 {
					return n
				}
			}
		}
	}
	return 0
}

// applied is a matrix times a column of texts, byte by byte.
func applied(a api.Matrix, column []string) []string {
	var list []string
	for i := range a.Rows {
		text := make([]byte, len(column[0]))
		for place := range text {
			for j := range a.Cols {
				text[place] ^= field.Mul(at(a, i, j), column[j][place])
			}
		}
		list = append(list, string(text))
	}
	return list
}

// anyTexts is a column of any texts of one length.
func anyTexts(r *rand.Rand, many, length int) []string {
	var list []string
	for range many {
		text := make([]byte, length)
		r.Read(text)
		list = append(list, string(text))
	}
	return list
}

// wrong are matrices that are not right.
func wrong() []api.Matrix {
	all := []api.Matrix{{}, {Rows: 1}, {Cols: 1}, of(1, 1), of(1, 1, 1, 2), of(2, 3, 1, 2, 3, 4, 5), of(2, 3, 1, 2, 3, 4, 5, 6, 7), of(2, 2, 1, 2)}
	for _, n := range []int{math.MinInt, -256, -1, 0, 256, 1 << 32, math.MaxInt} {
		for _, m := range []int{-1, 0, 1, 2, 255, n} {
			// Where rows times columns is as many as there are cells, or seems so as it wraps, it is the sizes that are wrong.
			cells := make([]byte, min(max(n*m, 0), 65536))
			all = append(all, api.Matrix{Rows: n, Cols: m, Cells: cells}, api.Matrix{Rows: m, Cols: n, Cells: cells}, of(n, m), of(m, n, 1))
		}
	}
	return all
}

// is asks that an error is a fault of this number, that came from nothing; of OK, that it is none.
func is(t *testing.T, what string, err error, code api.Errno) {
	t.Helper()
	if code == api.OK {
		if err != nil {
			t.Errorf("%s: %v", what, err)
		}
		return
	}
	if f, ok := err.(*api.Fault); !ok || *f != (api.Fault{Code: code}) {
		t.Errorf("%s: %v, not %v", what, err, code)
	}
}

// answers asks that a call answers a matrix.
func answers(t *testing.T, what string, got api.Matrix, err error, want api.Matrix) {
	t.Helper()
	is(t, what, err, api.OK)
	if got.Rows != want.Rows || got.Cols != want.Cols || !slices.Equal(got.Cells, want.Cells) {
		t.Errorf("%s: %v, not %v", what, brief(got), brief(want))
	}
}

// refuses asks that a call answers an error, and beside it no matrix.
func refuses(t *testing.T, what string, got api.Matrix, err error, code api.Errno) {
	t.Helper()
	is(t, what, err, code)
	if got.Rows != 0 || got.Cols != 0 || len(got.Cells) != 0 {
		t.Errorf("%s: %v beside %v", what, brief(got), err)
	}
}

// brief is what of a matrix can be read in a test's complaint.
func brief(a api.Matrix) api.Matrix {
	a.Cells = a.Cells[:min(len(a.Cells), 50)]
	return a
}

// letters are so many texts of one byte.
func letters(many int) []string { return strings.Split(strings.Repeat("x", many), "") }
