package matrix

import "storehouse/api"

// numbers is how many numbers the field has.
const numbers = 256

// mayBe tells whether a matrix may have so many rows, or columns.
func mayBe(n int) bool { return n >= 1 && n <= api.MaxRows }

// ofOneLength tells whether all texts of a column, which has one at least, are as long as the first.
func ofOneLength(column []string) bool {
	for _, text := range column {
		if len(text) != len(column[0]) {
			return false
		}
	}
	return true
}
