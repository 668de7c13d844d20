package huff

// book is the whole code. The codes of one number of bits follow one another, so that the first of them tells all.
type book struct {
	codes [symbols]uint32
	order [symbols]uint16     // the symbols, as their codes are handed out
	start [longest + 2]int    // by a number of bits: the place in order of the first symbol that has so many
	first [longest + 2]uint32 // and what its code is, or would be
}

func newBook() book {
	var k book
	for symbol := range symbols {
		k.start[bitsOf(symbol)+1]++
	}
	// start[n] is now how many symbols have n - 1 bits.
	for n := 1; n < len(k.start); n++ {
		k.first[n] = (k.first[n-1] + uint32(k.start[n])) << 1
		k.start[n] += k.start[n-1]
	}
	next := k.start
	for symbol := range symbols {
		n := bitsOf(symbol)
		k.codes[symbol] = k.first[n] + uint32(next[n]-k.start[n])
		k.order[next[n]] = uint16(symbol)
		next[n]++
	}
	return k
}

// symbol is the one whose code is code, of n bits, where no code ends in fewer of them.
func (k *book) symbol(code uint32, n int) (int, bool) {
	// What isn't the code of a shorter one is no less than first[n].
	i := k.start[n] + int(code-k.first[n])
	if i >= k.start[n+1] {
		return 0, false
	}
	return int(k.order[i]), true
}
