package samples

import "slices"

// Losses is what may be kept of so many writes when the power goes: each choice of them, if these are few; else the first ones, one alone, all but one, all.
func Losses(writes int) [][]bool {
	const few = 4
	var all [][]bool
	if writes <= few {
		for mask := range 1 << writes {
			var keep []bool
			for i := range writes {
				keep = append(keep, mask>>i&1 > 0)
			}
			all = append(all, keep)
		}
		return all
	}
	every := slices.Repeat([]bool{true}, writes)
	for i := range writes {
		first, one, others := make([]bool, writes), make([]bool, writes), slices.Clone(every)
		copy(first, every[:i])
		one[i], others[i] = true, false
		all = append(all, first, one, others)
	}
	return append(all, every)
}
