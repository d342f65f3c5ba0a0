package erasure

import (
	"slices"

	"storehouse/api"
	"storehouse/matrix"
)

// cut is a text's bytes as k texts of one length, made up with bytes 0.
func cut(k int, text string) []string {
	size := size(k, len(text))
	bytes := make([]byte, k*size)
	copy(bytes, text)
	data := make([]string, k)
	for i := range k {
		data[i] = string(bytes[i*size : (i+1)*size])
	}
	return data
}

// parity is the m shards that belong to the first ones. The matrix is never refused: k and m are few enough.
func parity(m int, data []string) []string {
	if m == 0 {
		return nil // there is no matrix without rows
	}
	rows, _ := matrix.Cauchy(m, len(data))
	shards, _ := matrix.Apply(rows, data)
	return shards
}

// whole is all shards: the first ones, and m that belong to them.
func whole(m int, data []string) []string {
	return slices.Concat(data, parity(m, data))
}

// there are the numbers and the texts of the pieces that are there.
func there(pieces []api.Piece) ([]int, []string) {
	var rows []int
	var texts []string
	for i := range len(pieces) {
		if pieces[i].Has {
			rows = append(rows, i)
			texts = append(texts, pieces[i].Data)
		}
	}
	return rows, texts
}

// maker is the matrix that makes all shards of the first k.
func maker(k, m int) api.Matrix {
	rows, _ := matrix.Identity(k)
	if m == 0 {
		return rows
	}
	more, _ := matrix.Cauchy(m, k)
	all, _ := matrix.Under(rows, more)
	return all
}

// solved is the first shards, told by as many of all: their numbers and their texts. There is always an answer, and one only, as the maker's rows, as many as it has columns, each once, have an inverse.
func solved(m int, numbers []int, texts []string) []string {
	rows, _ := matrix.Pick(maker(len(numbers), m), numbers...)
	back, _ := matrix.Invert(rows)
	data, _ := matrix.Apply(back, texts)
	return data
}
