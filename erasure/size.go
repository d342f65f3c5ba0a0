package erasure

import "storehouse/api"

// mayBe tells whether a text of so many bytes may have k shards, and m more. What is left beside k is asked, as k + m might wrap.
func mayBe(k, m, length int) bool {
	return k >= 1 && m >= 0 && m <= api.MaxRows-k && length >= 0
}

// size is how many bytes a shard has. What is rounded up is added behind the division, as it might wrap ahead of it.
func size(k, length int) int {
	return length/k + min(1, length%k)
}

// allHave tells whether each text has so many bytes.
func allHave(size int, texts []string) bool {
	for i := range len(texts) {
		if len(texts[i]) != size {
			return false
		}
	}
	return true
}
