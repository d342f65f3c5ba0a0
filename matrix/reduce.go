package matrix

import "storehouse/field"

// reduce adds rows to rows, and swaps them, till each of the first cols columns that can has a 1 in a row of its own, the uppermost that is left, and else 0. It tells how many of these there are: of the rows above none is a sum of others, those below are 0 so far.
func (t table) reduce(cols int) int {
	done := 0
	for col := range cols {
		from, ok := t.lead(done, col)
		if !ok {
			continue
		}
		t.swap(done, from)
		t.makeOne(done, col)
		t.clearOthers(done, col)
		done++
	}
	return done
}

// lead is the first row, from one on, that has not 0 in a column.
func (t table) lead(from, col int) (int, bool) {
	for i := from; i < t.Rows; i++ {
		if t.row(i)[col] != 0 {
			return i, true
		}
	}
	return 0, false
}

// makeOne multiplies a row so that it has 1 in a column: it is there once, so it is added once less, which is once more, than the inverse says.
func (t table) makeOne(row, col int) {
	inverse, _ := field.Inv(t.row(row)[col])
	t.add(row, row, field.Add(inverse, 1))
}

// clearOthers makes 0 of a column in all rows but one, which has 1 there: a number added to itself is 0.
func (t table) clearOthers(row, col int) {
	for i := range t.Rows {
		if times := t.row(i)[col]; i != row && times != 0 {
			t.add(i, row, times)
		}
	}
}
