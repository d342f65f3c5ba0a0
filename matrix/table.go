package matrix

import (
	"storehouse/api"
	"storehouse/field"
)

// table is a matrix, told by its rows. One that is written into is always the layer's own, with copies of the cells that were handed in; it may be wider than a matrix that is told.
type table api.Matrix

// blank is a table with all cells 0.
func blank(rows, cols int) table {
	return table{Rows: rows, Cols: cols, Cells: make([]byte, rows*cols)}
}

// identity is a table with 1 where row and column are the same.
func identity(n int) table {
	t := blank(n, n)
	for i := range n {
		t.row(i)[i] = 1
	}
	return t
}

// row is the cells of a row, where they lie.
func (t table) row(i int) []byte { return t.Cells[i*t.Cols : (i+1)*t.Cols] }

// lay copies a table's cells into this one, its first to a row and a column.
func (t table) lay(from table, row, col int) {
	for i := range from.Rows {
		copy(t.row(row + i)[col:], from.row(i))
	}
}

// texts are the rows as texts.
func (t table) texts() []string {
	texts := make([]string, t.Rows)
	for i := range texts {
		texts[i] = string(t.row(i))
	}
	return texts
}

// add takes a row some times, and adds it to a row.
func (t table) add(to, of int, times byte) {
	sum, _ := field.Scale(string(t.row(to)), string(t.row(of)), times)
	copy(t.row(to), sum)
}

// swap puts two rows in one another's places.
func (t table) swap(i, j int) {
	kept := string(t.row(i))
	copy(t.row(i), t.row(j))
	copy(t.row(j), kept)
}

// applied is a table times a column of texts, which are of one length.
func applied(t table, column []string) []string {
	list := make([]string, t.Rows)
	nought := string(make([]byte, len(column[0])))
	for i := range list {
		list[i] = nought
		for j, times := range t.row(i) {
			list[i], _ = field.Scale(list[i], column[j], times)
		}
	}
	return list
}
