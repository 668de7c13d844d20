package huff_test

import (
	"strings"

	"parley/api"
)

// The reference works on texts of the letters 0 and 1, and shares nothing with the package.

// table is the chapter's table of bits.
func table() []int {
	return []int{
		13, 23, 28, 28, 28, 28, 28, 28, 28, 24, 30, 28, 28, 30, 28, 28,
		28, 28, 28, 28, 28, 28, 30, 28, 28, 28, 28, 28, 28, 28, 28, 28,
		6, 10, 10, 12, 13, 6, 8, 11, 10, 10, 8, 11, 8, 6, 6, 6,
		5, 5, 5, 6, 6, 6, 6, 6, 6, 6, 7, 8, 15, 6, 12, 10,
		13, 6, 7, 7, 7, 7, 7, 7, 7, 7, 7, 7, 7, 7, 7, 7,
		7, 7, 7, 7, 7, 7, 7, 7, 8, 7, 8, 13, 19, 13, 14, 6,
		15, 5, 6, 5, 6, 5, 6, 6, 6, 5, 7, 7, 6, 6, 6, 5,
		6, 7, 6, 5, 5, 6, 7, 7, 7, 7, 7, 15, 11, 14, 13, 28,
		20, 22, 20, 20, 22, 22, 22, 23, 22, 23, 23, 23, 23, 23, 24, 23,
		24, 24, 22, 23, 24, 23, 23, 23, 23, 21, 22, 23, 22, 23, 23, 24,
		22, 21, 20, 22, 22, 23, 23, 21, 23, 22, 22, 24, 21, 22, 23, 23,
		21, 21, 22, 21, 23, 22, 23, 23, 20, 22, 22, 22, 23, 22, 22, 23,
		26, 26, 20, 19, 22, 23, 22, 25, 26, 26, 26, 27, 27, 26, 24, 25,
		19, 21, 26, 27, 27, 26, 27, 24, 21, 21, 26, 26, 28, 27, 27, 27,
		20, 24, 20, 21, 22, 21, 21, 23, 22, 22, 25, 25, 24, 24, 26, 23,
		26, 27, 26, 26, 27, 27, 27, 27, 27, 28, 27, 27, 27, 27, 27, 26,
		30,
	}
}

// numbers is the code of each symbol: of each one ahead, what it takes of the room that so many bits have.
func numbers() []uint32 {
	l := table()
	out := make([]uint32, len(l))
	for x, n := range l {
		for y, m := range l {
			if m < n || m == n && y < x {
				out[x] += 1 << (n - m)
			}
		}
	}
	return out
}

// book is the code of each symbol in 0s and 1s, and the symbol of each code.
type book struct {
	codes   []string
	symbols map[string]int
}

func newBook() *book {
	k := &book{symbols: map[string]int{}}
	l := table()
	for symbol, c := range numbers() {
		code := digits(uint64(c), l[symbol])
		k.codes = append(k.codes, code)
		k.symbols[code] = symbol
	}
	return k
}

// digits is the lowest n bits of u.
func digits(u uint64, n int) string {
	b := make([]byte, n)
	for i := range b {
		b[i] = '0' + byte(u>>(n-1-i)&1)
	}
	return string(b)
}

func digitsOf(b []byte) string {
	var s strings.Builder
	for _, c := range b {
		s.WriteString(digits(uint64(c), 8))
	}
	return s.String()
}

// padded is the bytes whose bits are s, and 1s up to the end of the last one.
func padded(s string) []byte {
	for len(s)%8 != 0 {
		s += "1"
	}
	b := make([]byte, len(s)/8)
	for i, c := range []byte(s) {
		b[i/8] = b[i/8]<<1 | (c - '0')
	}
	return b
}

// bits is the codes of s, one behind the other.
func (k *book) bits(s string) string {
	var out strings.Builder
	for i := range len(s) {
		out.WriteString(k.codes[s[i]])
	}
	return out.String()
}

func (k *book) decode(b []byte) (string, error) {
	var text []byte
	code := ""
	for _, c := range digitsOf(b) {
		code += string(c)
		symbol, ok := k.symbols[code]
		if ok && symbol == 256 {
			return "", api.ErrHuff
		}
		if ok {
			text = append(text, byte(symbol))
			code = ""
		}
	}
	if len(code) > 7 || strings.Contains(code, "0") {
		return "", api.ErrHuff
	}
	return string(text), nil
}
