package hpack

import "parley/api"

const (
	greatest = 1<<31 - 1 // the greatest number
	longest  = 6         // bytes of a number
)

// fresh copies b to memory of its own with room behind it, so that appending never writes behind what was handed in.
func fresh(b []byte, room int) []byte {
	return append(make([]byte, 0, len(b)+room), b...)
}

// full is a prefix that is all 1: what does not fit goes on behind it.
func full(bits int) int {
	return 1<<bits - 1
}

func isPrefix(bits int) bool {
	return bits >= 1 && bits <= 8
}

// PutInt is b, and behind it n with a prefix of bits bits, beside which first stands.
func PutInt(b []byte, first, bits, n int) []byte {
	if !isPrefix(bits) || n < 0 || n > greatest || first < 0 || first > 255 || first&full(bits) != 0 {
		return fresh(b, 0)
	}
	return appendInt(fresh(b, longest), first, bits, n)
}

func appendInt(b []byte, first, bits, n int) []byte {
	if n < full(bits) {
		return append(b, byte(first|n))
	}
	b = append(b, byte(first|full(bits)))
	n -= full(bits)
	for n >= 128 {
		b = append(b, byte(n&127|128))
		n >>= 7
	}
	return append(b, byte(n))
}

// Int is the number with a prefix of bits bits that b begins with, and how many bytes it has.
func Int(b []byte, bits int) (int, int, error) {
	if !isPrefix(bits) {
		return 0, 0, api.ErrLong
	}
	if len(b) == 0 {
		return 0, 0, api.ErrEnd
	}
	n := uint64(b[0]) & uint64(full(bits)) // an int of 32 bits would not hold what six bytes can say
	if n < uint64(full(bits)) {
		return int(n), 1, nil
	}
	at := 1
more:
	if at == longest {
		return 0, 0, api.ErrLong
	}
	if at == len(b) {
		return 0, 0, api.ErrEnd
	}
	n += uint64(b[at]&127) << (7 * (at - 1))
	at++
	if b[at-1] >= 128 {
		goto more
	}
	if n > greatest {
		return 0, 0, api.ErrLong
	}
	return int(n), at, nil
}
