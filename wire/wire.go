// Package wire: varints, tags, records: see ../shared/doc/01-wire.md.
package wire

import (
	"math/bits"
	"unicode/utf8"

	"parley/api"
)

// longest is the number of bytes of the longest varint.
const longest = 10

// fresh copies b to memory of its own with room behind it, so that appending never writes behind what was handed in.
func fresh(b []byte, room int) []byte {
	return append(make([]byte, 0, len(b)+room), b...)
}

// Varint is b, and behind it u in as few bytes as there can be.
func Varint(b []byte, u uint64) []byte {
	return appendVarint(fresh(b, Size(u)), u)
}

func appendVarint(b []byte, u uint64) []byte {
	for u >= 128 {
		b = append(b, byte(u&127|128))
		u >>= 7
	}
	return append(b, byte(u))
}

// Uvarint is the number that b begins with, and how many bytes it has.
func Uvarint(b []byte) (uint64, int, error) {
	var u uint64
	for i, c := range b {
		// Nine bytes hold 63 bits: the tenth has room for one more.
		if i == longest-1 && c > 1 {
			return 0, 0, api.ErrLong
		}
		u |= uint64(c&127) << (7 * i)
		if c < 128 {
			return u, i + 1, nil
		}
	}
	return 0, 0, api.ErrEnd
}

// Size is how many bytes Varint writes for u.
func Size(u uint64) int {
	// 0 has no bits, but takes a byte as 1 does.
	return (bits.Len64(u|1) + 6) / 7
}

// Zig folds n so that numbers near 0 become small, whatever their sign.
func Zig(n int64) uint64 {
	return uint64(n)<<1 ^ uint64(n>>63)
}

// Zag is the number whose Zig is u.
func Zag(u uint64) int64 {
	return int64(u>>1) ^ -int64(u&1)
}

// Fixed is b, and behind it u in 4 or 8 bytes, the lowest first.
func Fixed(b []byte, u uint64, bytes int) []byte {
	if !isFixed(bytes) {
		return fresh(b, 0)
	}
	return appendFixed(fresh(b, bytes), u, bytes)
}

func isFixed(bytes int) bool {
	return bytes == 4 || bytes == 8
}

func appendFixed(b []byte, u uint64, bytes int) []byte {
	for range bytes {
		b = append(b, byte(u&255))
		u >>= 8
	}
	return b
}

// Unfixed is the number that the first 4 or 8 bytes of b are, and how many these are.
func Unfixed(b []byte, bytes int) (uint64, int, error) {
	if !isFixed(bytes) {
		return 0, 0, api.ErrNumber
	}
	if len(b) < bytes {
		return 0, 0, api.ErrEnd
	}
	var u uint64
	for i, c := range b[:bytes] {
		u |= uint64(c) << (8 * i)
	}
	return u, bytes, nil
}

// Tag is field and kind as one number.
func Tag(field, kind int) (uint64, error) {
	if field < 1 || field > api.MaxNumber || kind < api.WVarint || kind > api.W32 {
		return 0, api.ErrTag
	}
	return uint64(field)<<3 | uint64(kind), nil
}

// Untag is field and kind of a tag.
func Untag(u uint64) (int, int, error) {
	field, kind := u>>3, u&7
	if field < 1 || field > api.MaxNumber || kind > api.W32 {
		return 0, 0, api.ErrTag
	}
	return int(field), int(kind), nil
}

// Text tells whether b is UTF-8.
func Text(b []byte) bool {
	return utf8.Valid(b)
}
