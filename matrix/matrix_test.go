package matrix_test

import (
	"math"
	"math/rand"
	"slices"
	"strings"
	"testing"

	"storehouse/api"
	"storehouse/field"
	"storehouse/matrix"
)

// The chapter's examples.
func TestExamples(t *testing.T) {
	two := of(2, 2, 1, 0, 0, 1)
	low := of(2, 2, 1, 2, 2, 4)
	got, err := matrix.Identity(2)
	answers(t, "Identity(2)", got, err, two)
	got, err = matrix.Cauchy(1, 2)
	answers(t, "Cauchy(1, 2)", got, err, of(1, 2, 142, 244))
	got, err = matrix.Mul(of(2, 2, 1, 2, 3, 4), of(2, 1, 1, 1))
	answers(t, "Mul", got, err, of(2, 1, 3, 7))
	got, err = matrix.Invert(low)
	refuses(t, "Invert", got, err, api.ErrSingular)
	n, err := matrix.Rank(low)
	is(t, "Rank", err, api.OK)
	if n != 1 {
		t.Error("Rank:", n)
	}
	got, err = matrix.Pick(two, 1, 1)
	answers(t, "Pick", got, err, of(2, 2, 0, 1, 0, 1))
	list, err := matrix.Apply(of(1, 2, 1, 2), []string{"\x05", "\x03"})
	is(t, "Apply", err, api.OK)
	if !slices.Equal(list, []string{"\x03"}) {
		t.Errorf("Apply: %q", list)
	}
	got, err = matrix.Mul(of(2, 2, 1, 2, 3, 4), of(1, 2, 1, 2))
	refuses(t, "Mul", got, err, api.ErrShape)
	got, err = matrix.Mul(of(2, 2), of(2, 1, 1, 1))
	refuses(t, "Mul", got, err, api.ErrArg)
}

// P7.1: Right is told by rows, columns and cells.
func TestRight(t *testing.T) {
	for _, n := range []int{1, 2, 7, 128, 254, 255} {
		for _, m := range []int{1, 2, 7, 128, 254, 255} {
			cells := make([]byte, n*m+1)
			if !matrix.Right(of(n, m, cells[:n*m]...)) {
				t.Error("not right:", n, m)
			}
			if matrix.Right(of(n, m, cells...)) || matrix.Right(of(n, m, cells[:n*m-1]...)) {
				t.Error("right with other cells:", n, m)
			}
		}
	}
	for _, a := range wrong() {
		if matrix.Right(a) {
			t.Error("right:", brief(a))
		}
	}
}

// P7.1: Identity of each size; others are refused.
func TestIdentity(t *testing.T) {
	for n := 1; n <= 255; n++ {
		got, err := matrix.Identity(n)
		answers(t, "Identity", got, err, one(n))
		if !matrix.Right(got) {
			t.Error("not right:", n)
		}
	}
	for _, n := range []int{math.MinInt, -256, -255, -1, 0, 256, 257, 1 << 32, 1<<32 + 1, math.MaxInt} {
		got, err := matrix.Identity(n)
		refuses(t, "Identity", got, err, api.ErrArg)
	}
}

// P7.1: Cauchy, cell by cell, of small sizes and up to both together 256.
func TestCauchy(t *testing.T) {
	for _, rows := range []int{1, 2, 3, 5, 16, 100, 127, 128, 129, 200, 254, 255} {
		for _, cols := range []int{1, 2, 3, 5, 16, 100, 128, 255, 256 - rows} {
			got, err := matrix.Cauchy(rows, cols)
			if cols < 1 || rows+cols > 256 {
				refuses(t, "Cauchy", got, err, api.ErrArg)
				continue
			}
			answers(t, "Cauchy", got, err, made(rows, cols, func(i, j int) byte {
				cell, _ := field.Inv(field.Add(byte(cols+i), byte(j)))
				return cell
			}))
			for k, cell := range got.Cells {
				if field.Mul(cell, byte(cols+k/cols)^byte(k%cols)) != 1 {
					t.Fatal("no inverse of the sum:", rows, cols, k)
				}
			}
		}
	}
}

// P7.1: what Cauchy refuses, each size by itself and both together.
func TestCauchyRefused(t *testing.T) {
	wrong := []int{math.MinInt, -255, -1, 0, 256, 257, 1 << 32, math.MaxInt}
	for _, n := range wrong {
		for _, m := range append(wrong, 1, 2, 128, 255, 256-n) {
			got, err := matrix.Cauchy(n, m)
			refuses(t, "Cauchy", got, err, api.ErrArg)
			got, err = matrix.Cauchy(m, n)
			refuses(t, "Cauchy", got, err, api.ErrArg)
		}
	}
	for rows := 2; rows <= 255; rows++ {
		got, err := matrix.Cauchy(rows, 257-rows)
		refuses(t, "Cauchy", got, err, api.ErrArg)
	}
}

// P7.2: Mul of matrices of many sizes, cell by cell.
func TestMul(t *testing.T) {
	r := rand.New(rand.NewSource(1))
	sizes := []int{1, 2, 3, 4, 5, 17, 60}
	for _, n := range sizes {
		for _, m := range sizes {
			for _, l := range sizes {
				a, b := anyOf(r, n, m), anyOf(r, m, l)
				got, err := matrix.Mul(a, b)
				answers(t, "Mul", got, err, product(a, b))
			}
		}
	}
	for _, s := range [][3]int{{255, 1, 255}, {1, 255, 1}, {255, 255, 1}, {1, 255, 255}, {255, 255, 255}} {
		a, b := anyOf(r, s[0], s[1]), anyOf(r, s[1], s[2])
		got, err := matrix.Mul(a, b)
		answers(t, "Mul", got, err, product(a, b))
	}
}

// P7.2: Mul refuses sizes that do not fit, whichever is the greater one; all others may be as they are.
func TestMulRefused(t *testing.T) {
	r := rand.New(rand.NewSource(2))
	for n := range 5 * 5 * 5 * 5 {
		a, b := anyOf(r, n%5+1, n/5%5+1), anyOf(r, n/25%5+1, n/125+1)
		got, err := matrix.Mul(a, b)
		if a.Cols == b.Rows {
			answers(t, "Mul", got, err, product(a, b))
		} else {
			refuses(t, "Mul", got, err, api.ErrShape)
		}
	}
}

// hasInverse asks that Invert answers a small matrix's inverse, or that there is none, and Rank the same.
func hasInverse(t *testing.T, a api.Matrix) {
	t.Helper()
	got, err := matrix.Invert(a)
	if want, ok := inverse(a); ok {
		answers(t, "Invert", got, err, want)
	} else {
		refuses(t, "Invert", got, err, api.ErrSingular)
	}
}

// hasRank asks that Rank answers a number.
func hasRank(t *testing.T, a api.Matrix, want int) {
	t.Helper()
	got, err := matrix.Rank(a)
	is(t, "Rank", err, api.OK)
	if got != want {
		t.Errorf("Rank of %v: %d, not %d", brief(a), got, want)
	}
}

// everyOf hands on each matrix of a size whose cells are some of these.
func everyOf(rows, cols int, of []byte, hand func(api.Matrix)) {
	many := 1
	for range rows * cols {
		many *= len(of)
	}
	for n := range many {
		rest := n
		hand(made(rows, cols, func(i, j int) byte {
			cell := of[rest%len(of)]
			rest /= len(of)
			return cell
		}))
	}
}

// P7.2: Invert and Rank of every number, of every small matrix of few numbers, and of many others, by determinants.
func TestInvertAndRankOfSmall(t *testing.T) {
	both := func(a api.Matrix) {
		hasRank(t, a, rank(a))
		if a.Rows == a.Cols {
			hasInverse(t, a)
		}
	}
	all := make([]byte, 256)
	for i := range all {
		all[i] = byte(i)
	}
	everyOf(1, 1, all, both)
	everyOf(2, 2, []byte{0, 1, 2, 3, 4, 5, 142, 255}, both)
	everyOf(3, 3, []byte{0, 1}, both)
	everyOf(2, 3, []byte{0, 1, 2}, both)
	everyOf(3, 2, []byte{0, 1, 2}, both)
	r := rand.New(rand.NewSource(3))
	for range 2000 {
		n, m := r.Intn(4)+1, r.Intn(4)+1
		both(anyOf(r, n, n))
		both(anyOf(r, n, n, 0, 0, 0, 1, 7))
		both(anyOf(r, n, m, 0, 1, 2))
		both(anyOf(r, n, m, 0, 0, 0, 200))
	}
}

// P7.2: Invert refuses what has not as many rows as columns, even where its rank is as great as it can be.
func TestInvertRefused(t *testing.T) {
	for n := 1; n <= 255; n += 7 {
		for _, m := range []int{1, 2, n - 1, n + 1, 255} {
			if m < 1 || m > 255 || m == n {
				continue
			}
			for _, a := range []api.Matrix{made(n, m, func(i, j int) byte { return 0 }), part(one(255), without(n, n), without(m, m))} {
				got, err := matrix.Invert(a)
				refuses(t, "Invert", got, err, api.ErrShape)
			}
		}
	}
}

// P7.2: Rank of great matrices that have been made of so many rows.
func TestRankOfGreat(t *testing.T) {
	r := rand.New(rand.NewSource(4))
	for _, s := range [][2]int{{255, 255}, {255, 40}, {40, 255}, {100, 99}, {1, 255}, {255, 1}} {
		least := min(s[0], s[1])
		for _, n := range []int{1, least / 3, least - 1, least} {
			if n < 1 || s[0]+n > 256 || s[1]+n > 256 {
				continue
			}
			// Each square part of a Cauchy matrix has an inverse, so n rows come of it, as wide and as high as is wanted.
			high, _ := matrix.Cauchy(s[0], n)
			wide, _ := matrix.Cauchy(n, s[1])
			hasRank(t, product(high, wide), n)
		}
		hasRank(t, made(s[0], s[1], func(i, j int) byte { return 0 }), 0)
		hasRank(t, part(one(255), without(s[0], s[0]), without(s[1], s[1])), least)
		hasRank(t, made(s[0], s[1], func(i, j int) byte { return byte(7*i + 1) }), 1)
	}
	mixed := anyOf(r, 255, 255)
	n, _ := matrix.Rank(mixed)
	copy(mixed.Cells[254*255:], mixed.Cells[:255])
	more, _ := matrix.Rank(mixed)
	if n < 250 || more > 254 {
		t.Error("Rank:", n, more)
	}
}

// P7.2: Pick, rows again and in any order, up to MaxRows of them.
func TestPick(t *testing.T) {
	r := rand.New(rand.NewSource(5))
	for range 500 {
		a := anyOf(r, r.Intn(20)+1, r.Intn(20)+1)
		rows := make([]int, r.Intn(30)+1)
		for i := range rows {
			rows[i] = r.Intn(a.Rows)
		}
		got, err := matrix.Pick(a, rows...)
		answers(t, "Pick", got, err, part(a, rows, without(a.Cols, a.Cols)))
	}
	a := anyOf(r, 255, 255)
	back := without(255, 255)
	slices.Reverse(back)
	got, err := matrix.Pick(a, back...)
	answers(t, "Pick", got, err, part(a, back, without(255, 255)))
	got, err = matrix.Pick(of(1, 1, 9), make([]int, 255)...)
	answers(t, "Pick", got, err, of(255, 1, []byte(strings.Repeat("\x09", 255))...))
}

// P7.2: Pick refuses no rows, too many, and one that is none, wherever it stands.
func TestPickRefused(t *testing.T) {
	a := of(3, 1, 1, 2, 3)
	for _, rows := range [][]int{nil, {}, make([]int, 256), make([]int, 100000), {3}, {-1}, {math.MinInt}, {math.MaxInt}, {1 << 32}, {0, 1, 3}, {3, 0, 1}, {0, -1, 1}, append(make([]int, 254), 3)} {
		got, err := matrix.Pick(a, rows...)
		refuses(t, "Pick", got, err, api.ErrArg)
	}
	wide := of(1, 3, 1, 2, 3)
	got, err := matrix.Pick(wide, 1)
	refuses(t, "Pick", got, err, api.ErrArg)
}

// P7.2: Under, up to MaxRows rows; what is beyond goes ahead of columns that do not fit.
func TestUnder(t *testing.T) {
	r := rand.New(rand.NewSource(6))
	for _, n := range []int{1, 2, 100, 127, 128, 254, 255} {
		for _, m := range []int{1, 2, 100, 127, 128, 254, 255} {
			for _, cols := range []int{1, 2, 3, 255} {
				a, b := anyOf(r, n, cols), anyOf(r, m, 3)
				got, err := matrix.Under(a, b)
				switch {
				case n+m > 255:
					refuses(t, "Under", got, err, api.ErrArg)
				case cols != 3:
					refuses(t, "Under", got, err, api.ErrShape)
				default:
					answers(t, "Under", got, err, of(n+m, 3, slices.Concat(a.Cells, b.Cells)...))
				}
			}
		}
	}
}

// P7.3: Apply, byte by byte, of texts of many lengths, of none too.
func TestApply(t *testing.T) {
	r := rand.New(rand.NewSource(7))
	for _, rows := range []int{1, 2, 3, 10, 255} {
		for _, cols := range []int{1, 2, 3, 10, 255} {
			for _, length := range []int{0, 1, 2, 7, 40} {
				for _, a := range []api.Matrix{anyOf(r, rows, cols), anyOf(r, rows, cols, 0, 0, 1)} {
					column := anyTexts(r, cols, length)
					got, err := matrix.Apply(a, column)
					is(t, "Apply", err, api.OK)
					if !slices.Equal(got, applied(a, column)) {
						t.Error("Apply:", rows, cols, length)
					}
				}
			}
		}
	}
	a, column := anyOf(r, 3, 2), anyTexts(r, 2, 100000)
	if got, err := matrix.Apply(a, column); err != nil || !slices.Equal(got, applied(a, column)) {
		t.Error("Apply of long texts:", err)
	}
	for i := range 256 * 256 {
		got, err := matrix.Apply(of(1, 1, byte(i/256)), []string{string([]byte{byte(i)})})
		if err != nil || len(got) != 1 || got[0] != string([]byte{field.Mul(byte(i/256), byte(i))}) {
			t.Fatalf("Apply of %d to %d: %q, %v", i/256, byte(i), got, err)
		}
	}
}

// P7.3: Apply refuses too few texts, too many, and one of another length, whichever.
func TestApplyRefused(t *testing.T) {
	refusesTexts := func(a api.Matrix, column []string, code api.Errno) {
		t.Helper()
		got, err := matrix.Apply(a, column)
		is(t, "Apply", err, code)
		if len(got) != 0 {
			t.Errorf("Apply: %q beside %v", got, err)
		}
	}
	for cols := 1; cols <= 255; cols += 2 {
		a := made(2, cols, func(i, j int) byte { return byte(i + j) })
		for _, many := range []int{0, 1, 2, cols - 1, cols + 1, 2 * cols, 300} {
			if many != cols {
				refusesTexts(a, letters(many), api.ErrShape)
			}
		}
		for _, i := range []int{0, cols / 2, cols - 1} {
			for _, text := range []string{"", "xy"} {
				column := letters(cols)
				column[i] = text
				if cols > 1 {
					refusesTexts(a, column, api.ErrShape)
				}
			}
		}
		refusesTexts(of(2, cols), letters(cols), api.ErrArg)
		refusesTexts(of(2, cols), letters(cols+1), api.ErrArg)
		refusesTexts(of(2, cols), nil, api.ErrArg)
	}
	for _, a := range wrong() {
		refusesTexts(a, letters(a.Cols&511), api.ErrArg)
		refusesTexts(a, []string{"a", "bc"}, api.ErrArg)
	}
}

// P7.2: a matrix that is not right is refused by all, ahead of what else is wrong, whichever of two it is.
func TestNotRight(t *testing.T) {
	others := []api.Matrix{of(1, 1, 1), of(2, 3, 1, 2, 3, 4, 5, 6), one(255), {}}
	for _, a := range wrong() {
		for _, other := range others {
			got, err := matrix.Mul(a, other)
			refuses(t, "Mul", got, err, api.ErrArg)
			got, err = matrix.Mul(other, a)
			refuses(t, "Mul", got, err, api.ErrArg)
			got, err = matrix.Under(a, other)
			refuses(t, "Under", got, err, api.ErrArg)
			got, err = matrix.Under(other, a)
			refuses(t, "Under", got, err, api.ErrArg)
		}
		got, err := matrix.Invert(a)
		refuses(t, "Invert", got, err, api.ErrArg)
		n, err := matrix.Rank(a)
		is(t, "Rank", err, api.ErrArg)
		if n != 0 {
			t.Error("Rank:", n, "beside", err)
		}
		for _, rows := range [][]int{nil, {0}, {-1}} {
			got, err = matrix.Pick(a, rows...)
			refuses(t, "Pick", got, err, api.ErrArg)
		}
	}
}
