package matrix_test

import (
	"math/rand"
	"slices"
	"testing"

	"storehouse/api"
	"storehouse/matrix"
)

// times is Mul of two matrices that fit.
func times(t *testing.T, a, b api.Matrix) api.Matrix {
	t.Helper()
	got, err := matrix.Mul(a, b)
	is(t, "Mul", err, api.OK)
	return got
}

// applies is Apply of a matrix to a column that fits.
func applies(t *testing.T, a api.Matrix, column []string) []string {
	t.Helper()
	got, err := matrix.Apply(a, column)
	is(t, "Apply", err, api.OK)
	return got
}

// inverts asks that a matrix has an inverse, which makes Identity of it from either side, and that its rank says so.
func inverts(t *testing.T, a api.Matrix) {
	t.Helper()
	got, err := matrix.Invert(a)
	is(t, "Invert", err, api.OK)
	if err == nil {
		answers(t, "Mul with the inverse", times(t, a, got), nil, one(a.Rows))
		answers(t, "Mul of the inverse", times(t, got, a), nil, one(a.Rows))
		hasRank(t, a, a.Rows)
	}
}

// P7.4: Mul with Identity is the matrix, from either side.
func TestMulWithIdentity(t *testing.T) {
	r := rand.New(rand.NewSource(8))
	for _, n := range []int{1, 2, 3, 20, 255} {
		for _, m := range []int{1, 2, 3, 20, 255} {
			a := anyOf(r, n, m)
			ahead, _ := matrix.Identity(n)
			behind, _ := matrix.Identity(m)
			answers(t, "Mul of Identity", times(t, ahead, a), nil, a)
			answers(t, "Mul with Identity", times(t, a, behind), nil, a)
		}
	}
}

// P7.4: a matrix has an inverse, which undoes it, just if its rank is its number of rows.
func TestInverseJustIfFullRank(t *testing.T) {
	r := rand.New(rand.NewSource(9))
	for i := range 600 {
		n := r.Intn(12) + 1
		if i%200 == 0 {
			n = 255 - i/200
		}
		for _, a := range []api.Matrix{anyOf(r, n, n), anyOf(r, n, n, 0, 1), anyOf(r, n, n, 0, 0, 0, 5)} {
			if got, _ := matrix.Rank(a); got == n {
				inverts(t, a)
				continue
			}
			got, err := matrix.Invert(a)
			refuses(t, "Invert", got, err, api.ErrSingular)
		}
	}
}

// P7.4: what only has one row that hangs on others has no inverse; without that it would have one.
func TestOneRowThatHangs(t *testing.T) {
	r := rand.New(rand.NewSource(10))
	for _, n := range []int{2, 3, 5, 30, 128} {
		right, _ := matrix.Cauchy(n, n)
		inverts(t, right)
		mix := anyOf(r, 1, n)
		for _, row := range []int{0, n / 2, n - 1} {
			// The row's own share of the mix is left out, so that it is a sum of the others.
			mix.Cells[row] = 0
			hangs := of(n, n, slices.Clone(right.Cells)...)
			copy(hangs.Cells[row*n:], product(mix, right).Cells)
			got, err := matrix.Invert(hangs)
			refuses(t, "Invert", got, err, api.ErrSingular)
			hasRank(t, hangs, n-1)
		}
	}
}

// P7.4: a row or a column of 0 leaves no inverse; rows in another order, and rows without a 0 ahead of those with it, leave it.
func TestNoughtsAndOrder(t *testing.T) {
	for _, n := range []int{1, 2, 5, 50} {
		right, _ := matrix.Cauchy(n, n)
		for k := range n {
			for _, a := range []api.Matrix{
				made(n, n, func(i, j int) byte { return right.Cells[i*n+j] * byte(min(1, max(i-k, k-i))) }),
				made(n, n, func(i, j int) byte { return right.Cells[i*n+j] * byte(min(1, max(j-k, k-j))) }),
			} {
				got, err := matrix.Invert(a)
				refuses(t, "Invert", got, err, api.ErrSingular)
				hasRank(t, a, n-1)
			}
		}
		back := without(n, n)
		slices.Reverse(back)
		inverts(t, part(one(n), back, without(n, n)))
		inverts(t, made(n, n, func(i, j int) byte { return byte(min(1, max(0, i+j-n+2))) }))
	}
}

// P7.4: each square matrix of rows and columns of a Cauchy matrix has an inverse: all of small ones, some of great ones.
func TestPartsOfCauchy(t *testing.T) {
	for _, s := range [][2]int{{1, 1}, {2, 3}, {4, 4}, {5, 3}, {3, 6}} {
		a, _ := matrix.Cauchy(s[0], s[1])
		for n := 1; n <= min(s[0], s[1]); n++ {
			for _, rows := range choices(s[0], n) {
				for _, cols := range choices(s[1], n) {
					inverts(t, part(a, rows, cols))
				}
			}
		}
	}
	r := rand.New(rand.NewSource(11))
	for _, s := range [][2]int{{128, 128}, {255, 1}, {1, 255}, {200, 56}, {40, 216}} {
		a, _ := matrix.Cauchy(s[0], s[1])
		for range 10 {
			n := r.Intn(min(s[0], s[1])) + 1
			inverts(t, part(a, r.Perm(s[0])[:n], r.Perm(s[1])[:n]))
		}
	}
}

// P7.4: of Identity(k) with Cauchy(m, k) under it each k rows, each once, have an inverse.
func TestRowsOfIdentityOverCauchy(t *testing.T) {
	over := func(k, m int) api.Matrix {
		ahead, _ := matrix.Identity(k)
		behind, _ := matrix.Cauchy(m, k)
		all, err := matrix.Under(ahead, behind)
		is(t, "Under", err, api.OK)
		return all
	}
	for k := 1; k <= 5; k++ {
		for m := 1; m <= 4; m++ {
			all := over(k, m)
			for _, rows := range choices(k+m, k) {
				picked, err := matrix.Pick(all, rows...)
				is(t, "Pick", err, api.OK)
				inverts(t, picked)
			}
		}
	}
	r := rand.New(rand.NewSource(12))
	for _, s := range [][2]int{{1, 254}, {254, 1}, {128, 127}, {12, 4}, {200, 55}} {
		all := over(s[0], s[1])
		for range 5 {
			picked, err := matrix.Pick(all, r.Perm(s[0] + s[1])[:s[0]]...)
			is(t, "Pick", err, api.OK)
			inverts(t, picked)
		}
	}
}

// P7.4: Mul of a with what Apply is told is Apply of Mul: once with each matrix is once with both, and a column of texts is a matrix of these rows.
func TestApplyOfMul(t *testing.T) {
	r := rand.New(rand.NewSource(13))
	for range 200 {
		a, b := anyOf(r, r.Intn(10)+1, 6), anyOf(r, 6, r.Intn(10)+1)
		column := anyTexts(r, b.Cols, r.Intn(50)+1)
		got := applies(t, a, applies(t, b, column))
		if want := applies(t, times(t, a, b), column); !slices.Equal(got, want) {
			t.Errorf("%q, not %q", got, want)
		}
		rows := of(b.Cols, len(column[0]))
		whole := of(a.Rows, len(column[0]))
		for _, text := range column {
			rows.Cells = append(rows.Cells, text...)
		}
		for _, text := range got {
			whole.Cells = append(whole.Cells, text...)
		}
		answers(t, "Mul", times(t, a, times(t, b, rows)), nil, whole)
	}
}

// P7.4: Apply of the inverse undoes Apply.
func TestApplyUndone(t *testing.T) {
	r := rand.New(rand.NewSource(14))
	for _, n := range []int{1, 2, 8, 60} {
		a, _ := matrix.Cauchy(n, n)
		back, err := matrix.Invert(a)
		is(t, "Invert", err, api.OK)
		column := anyTexts(r, n, 33)
		if got := applies(t, back, applies(t, a, column)); !slices.Equal(got, column) {
			t.Error("Apply of the inverse:", n)
		}
	}
}

// P7.2 to P7.4: two texts and one of both; any two of the three make the others again.
func TestTextsThatAreLost(t *testing.T) {
	parity, _ := matrix.Cauchy(1, 2)
	all, err := matrix.Under(one(2), parity)
	is(t, "Under", err, api.OK)
	texts := applies(t, all, []string{"ab", "cd"})
	for _, kept := range [][]int{{0, 1}, {1, 2}, {2, 0}} {
		some, err := matrix.Pick(all, kept...)
		is(t, "Pick", err, api.OK)
		back, err := matrix.Invert(some)
		is(t, "Invert", err, api.OK)
		if got := applies(t, back, []string{texts[kept[0]], texts[kept[1]]}); !slices.Equal(got, []string{"ab", "cd"}) {
			t.Errorf("of %v: %q", kept, got)
		}
	}
	twice, _ := matrix.Pick(all, 1, 1)
	got, err := matrix.Invert(twice)
	refuses(t, "Invert", got, err, api.ErrSingular)
	hasRank(t, twice, 1)
	got, err = matrix.Mul(all, parity)
	refuses(t, "Mul", got, err, api.ErrShape)
}

// P7.4: Mul may be taken in any order of three, and Rank of a product is no greater than those of both.
func TestMulOfThree(t *testing.T) {
	r := rand.New(rand.NewSource(15))
	for range 300 {
		a, b, c := anyOf(r, r.Intn(6)+1, 4, 0, 1, 2, 9), anyOf(r, 4, 5, 0, 0, 1, 7), anyOf(r, 5, r.Intn(6)+1)
		both := times(t, a, b)
		answers(t, "Mul", times(t, both, c), nil, times(t, a, times(t, b, c)))
		first, _ := matrix.Rank(a)
		second, _ := matrix.Rank(b)
		if n, _ := matrix.Rank(both); n > min(first, second) || n < first+second-4 {
			t.Error("Rank:", first, second, n)
		}
	}
}
