package digest

import "math/bits"

// state5 is how far an MD5 has come.
type state5 [4]uint32

// start5 is the state ahead of the first block.
func start5() state5 {
	return state5{0x67452301, 0xefcdab89, 0x98badcfe, 0x10325476}
}

// turn takes a block in; a to d are named as in RFC 1321.
func (s *state5) turn(taken *block) {
	addends, turns, words := addends5(), turns5(), taken.words(true)
	a, b, c, d := s[0], s[1], s[2], s[3]
	for i, addend := range addends {
		var mixed uint32
		var word int
		switch i / 16 {
		case 0:
			mixed, word = (b&c)|(^b&d), i
		case 1:
			mixed, word = (d&b)|(^d&c), 5*i+1
		case 2:
			mixed, word = b^c^d, 3*i+5
		default:
			mixed, word = c^(b|^d), 7*i
		}
		mixed += a + addend + words[word%16]
		a, b, c, d = d, b+bits.RotateLeft32(mixed, turns[i/16][i%4]), b, c
	}
	for i, word := range [4]uint32{a, b, c, d} {
		s[i] += word
	}
}

// end is the sum, if nothing comes behind what was told; s and told are copies, so that more may come all the same.
func (s state5) end(told tail) string {
	told.add(closing(told.size, true), s.turn)
	return textOf(s[:], true)
}

// turns5 is how far each round turns, sixteen rounds a row.
func turns5() [4][4]int {
	return [4][4]int{{7, 12, 17, 22}, {5, 9, 14, 20}, {4, 11, 16, 23}, {6, 10, 15, 21}}
}

// addends5 is what each round adds: RFC 1321, section 3.4.
func addends5() [64]uint32 {
	return [64]uint32{
		0xd76aa478, 0xe8c7b756, 0x242070db, 0xc1bdceee, 0xf57c0faf, 0x4787c62a, 0xa8304613, 0xfd469501,
		0x698098d8, 0x8b44f7af, 0xffff5bb1, 0x895cd7be, 0x6b901122, 0xfd987193, 0xa679438e, 0x49b40821,
		0xf61e2562, 0xc040b340, 0x265e5a51, 0xe9b6c7aa, 0xd62f105d, 0x02441453, 0xd8a1e681, 0xe7d3fbc8,
		0x21e1cde6, 0xc33707d6, 0xf4d50d87, 0x455a14ed, 0xa9e3e905, 0xfcefa3f8, 0x676f02d9, 0x8d2a4c8a,
		0xfffa3942, 0x8771f681, 0x6d9d6122, 0xfde5380c, 0xa4beea44, 0x4bdecfa9, 0xf6bb4b60, 0xbebfbc70,
		0x289b7ec6, 0xeaa127fa, 0xd4ef3085, 0x04881d05, 0xd9d4d039, 0xe6db99e5, 0x1fa27cf8, 0xc4ac5665,
		0xf4292244, 0x432aff97, 0xab9423a7, 0xfc93a039, 0x655b59c3, 0x8f0ccc92, 0xffeff47d, 0x85845dd1,
		0x6fa87e4f, 0xfe2ce6e0, 0xa3014314, 0x4e0811a1, 0xf7537e82, 0xbd3af235, 0x2ad7d2bb, 0xeb86d391,
	}
}
