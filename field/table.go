package field

// powers is a table of 2, n times, by n.
func powers() [order]number {
	var table [order]number
	power := number(1)
	for n := range table {
		table[n] = power
		power = power.doubled()
	}
	return table
}

// multiples is a table of the products with a number, by what it is taken with: what has one bit more set than what stands ahead in the table has that bit's product more.
func multiples(of number) [order + 1]number {
	var table [order + 1]number
	for bit := 1; bit < len(table); bit *= 2 {
		for below := range bit {
			table[bit+below] = table[below].plus(of)
		}
		of = of.doubled()
	}
	return table
}
