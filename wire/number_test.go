package wire_test

import (
	"bytes"
	"encoding/binary"
	"math"
	"math/rand"
	"testing"

	"parley/api"
	"parley/wire"
)

// runOf is n times c, and last behind them.
func runOf(n int, c byte, last ...byte) []byte {
	return append(bytes.Repeat([]byte{c}, n), last...)
}

// numbers is both bounds of every length of a varint, and others.
func numbers() []uint64 {
	l := []uint64{0, 1, 300, 1<<32 - 1, 1 << 32, math.MaxInt64, math.MaxUint64}
	for shift := 7; shift < 64; shift += 7 {
		l = append(l, 1<<shift-1, 1<<shift)
	}
	r := rand.New(rand.NewSource(1))
	for range 500 {
		l = append(l, r.Uint64()>>r.Intn(64))
	}
	return l
}

func TestP1_1Varint(t *testing.T) {
	for _, x := range []struct {
		u    uint64
		want []byte
	}{
		{0, []byte{0}},
		{1, []byte{1}},
		{127, []byte{127}},
		{128, []byte{128, 1}},
		{300, []byte{172, 2}},
		{1<<14 - 1, []byte{255, 127}},
		{1 << 14, []byte{128, 128, 1}},
		{1<<63 - 1, runOf(8, 255, 127)},
		{1 << 63, runOf(9, 128, 1)},
		{1<<64 - 1, runOf(9, 255, 1)},
	} {
		if b := wire.Varint(nil, x.u); !bytes.Equal(b, x.want) {
			t.Errorf("Varint(none, %d) = %v, not %v", x.u, b, x.want)
		}
		if b := wire.Varint([]byte{7, 200}, x.u); !bytes.Equal(b, append([]byte{7, 200}, x.want...)) {
			t.Errorf("Varint(7 200, %d) = %v", x.u, b)
		}
		if n := wire.Size(x.u); n != len(x.want) {
			t.Errorf("Size(%d) = %d, not %d", x.u, n, len(x.want))
		}
	}
	for _, u := range numbers() {
		want := binary.AppendUvarint(nil, u)
		if b := wire.Varint(nil, u); !bytes.Equal(b, want) || wire.Size(u) != len(want) {
			t.Errorf("Varint(none, %d) = %v, Size %d, not %v", u, b, wire.Size(u), want)
		}
	}
}

func TestP1_1Uvarint(t *testing.T) {
	for _, x := range []struct {
		b    []byte
		u    uint64
		size int
		err  error
	}{
		{nil, 0, 0, api.ErrEnd},
		{[]byte{}, 0, 0, api.ErrEnd},
		{[]byte{0}, 0, 1, nil},
		{[]byte{127, 255}, 127, 1, nil},
		{[]byte{172, 2}, 300, 2, nil},
		{[]byte{128, 0}, 0, 2, nil},
		{[]byte{128}, 0, 0, api.ErrEnd},
		{runOf(8, 255), 0, 0, api.ErrEnd},
		{runOf(9, 255), 0, 0, api.ErrEnd},
		{runOf(8, 255, 127), 1<<63 - 1, 9, nil},
		{runOf(9, 128, 0), 0, 10, nil},
		{runOf(9, 129, 0, 9), 0x0102040810204081 & (1<<63 - 1), 10, nil},
		{runOf(9, 128, 1), 1 << 63, 10, nil},
		{runOf(9, 255, 1), 1<<64 - 1, 10, nil},
		{runOf(9, 255, 1, 200), 1<<64 - 1, 10, nil},
		{runOf(9, 255, 2), 0, 0, api.ErrLong},
		{runOf(9, 128, 2), 0, 0, api.ErrLong},
		{runOf(9, 128, 127), 0, 0, api.ErrLong},
		{runOf(10, 128), 0, 0, api.ErrLong},
		{runOf(9, 128, 129), 0, 0, api.ErrLong},
		{runOf(10, 128, 0), 0, 0, api.ErrLong},
		{runOf(30, 255), 0, 0, api.ErrLong},
	} {
		if u, n, err := wire.Uvarint(x.b); u != x.u || n != x.size || err != x.err {
			t.Errorf("Uvarint(%v) = %d, %d, %v, not %d, %d, %v", x.b, u, n, err, x.u, x.size, x.err)
		}
	}
	// More bytes than needed, of every length: 5, then zeros.
	for n := 1; n <= 10; n++ {
		b := runOf(n-1, 128, 0)
		b[0] |= 5
		if u, size, err := wire.Uvarint(b); u != 5 || size != n || err != nil {
			t.Errorf("Uvarint(%v) = %d, %d, %v", b, u, size, err)
		}
	}
}

func TestP1_2ZigZag(t *testing.T) {
	for _, x := range []struct {
		n int64
		u uint64
	}{
		{0, 0}, {-1, 1}, {1, 2}, {-2, 3}, {2, 4}, {63, 126}, {-64, 127}, {64, 128},
		{math.MaxInt32, 1<<32 - 2}, {math.MinInt32, 1<<32 - 1},
		{math.MaxInt64, 1<<64 - 2}, {math.MinInt64, 1<<64 - 1}, {math.MinInt64 + 1, 1<<64 - 3},
	} {
		if u := wire.Zig(x.n); u != x.u {
			t.Errorf("Zig(%d) = %d, not %d", x.n, u, x.u)
		}
		if n := wire.Zag(x.u); n != x.n {
			t.Errorf("Zag(%d) = %d, not %d", x.u, n, x.n)
		}
	}
}

func TestP1_3Fixed(t *testing.T) {
	for _, x := range []struct {
		u     uint64
		bytes int
		want  []byte
	}{
		{258, 4, []byte{2, 1, 0, 0}},
		{258, 8, []byte{2, 1, 0, 0, 0, 0, 0, 0}},
		{0x0807060504030201, 4, []byte{1, 2, 3, 4}},
		{0x0807060504030201, 8, []byte{1, 2, 3, 4, 5, 6, 7, 8}},
		{1<<64 - 1, 4, runOf(4, 255)},
		{1<<64 - 1, 8, runOf(8, 255)},
		{258, 0, nil}, {258, 1, nil}, {258, 3, nil}, {258, 5, nil}, {258, 7, nil}, {258, 9, nil},
		{258, -4, nil}, {258, math.MinInt, nil}, {258, math.MaxInt, nil},
	} {
		if b := wire.Fixed(nil, x.u, x.bytes); !bytes.Equal(b, x.want) {
			t.Errorf("Fixed(none, %d, %d) = %v, not %v", x.u, x.bytes, b, x.want)
		}
		if b := wire.Fixed([]byte{7, 9}, x.u, x.bytes); !bytes.Equal(b, append([]byte{7, 9}, x.want...)) {
			t.Errorf("Fixed(7 9, %d, %d) = %v", x.u, x.bytes, b)
		}
	}
}

func TestP1_3Unfixed(t *testing.T) {
	for _, x := range []struct {
		b    []byte
		size int
		u    uint64
		n    int
		err  error
	}{
		{[]byte{1, 2, 0, 0}, 4, 513, 4, nil},
		{[]byte{1, 2, 0, 0, 9}, 4, 513, 4, nil},
		{runOf(8, 255), 4, 1<<32 - 1, 4, nil},
		{[]byte{1, 2, 3, 4, 5, 6, 7, 8}, 8, 0x0807060504030201, 8, nil},
		{runOf(9, 255), 8, 1<<64 - 1, 8, nil},
		{[]byte{1, 2, 3}, 4, 0, 0, api.ErrEnd},
		{nil, 4, 0, 0, api.ErrEnd},
		{runOf(7, 255), 8, 0, 0, api.ErrEnd},
		{nil, 8, 0, 0, api.ErrEnd},
		// A wrong number of bytes is told ahead of too few of them.
		{nil, 5, 0, 0, api.ErrNumber},
		{runOf(20, 1), 0, 0, 0, api.ErrNumber},
		{runOf(20, 1), 1, 0, 0, api.ErrNumber},
		{runOf(20, 1), 16, 0, 0, api.ErrNumber},
		{runOf(20, 1), -4, 0, 0, api.ErrNumber},
		{runOf(20, 1), math.MinInt, 0, 0, api.ErrNumber},
		{runOf(20, 1), math.MaxInt, 0, 0, api.ErrNumber},
	} {
		if u, n, err := wire.Unfixed(x.b, x.size); u != x.u || n != x.n || err != x.err {
			t.Errorf("Unfixed(%v, %d) = %d, %d, %v, not %d, %d, %v", x.b, x.size, u, n, err, x.u, x.n, x.err)
		}
	}
}

func TestP1_4Tag(t *testing.T) {
	for _, x := range []struct {
		field, kind int
		u           uint64
		err         error
	}{
		{1, api.WVarint, 8, nil}, {1, api.W64, 9, nil}, {1, api.WBytes, 10, nil},
		{1, api.WGroup, 11, nil}, {1, api.WEnd, 12, nil}, {1, api.W32, 13, nil},
		{16, api.WVarint, 128, nil},
		{api.MaxNumber, api.WVarint, 1<<32 - 8, nil},
		{api.MaxNumber, api.W32, 1<<32 - 3, nil},
		{0, 0, 0, api.ErrTag}, {0, api.W32, 0, api.ErrTag}, {-1, 0, 0, api.ErrTag},
		{api.MaxNumber + 1, 0, 0, api.ErrTag}, {math.MaxInt, 0, 0, api.ErrTag}, {math.MinInt, 0, 0, api.ErrTag},
		{1, -1, 0, api.ErrTag}, {1, 6, 0, api.ErrTag}, {1, 7, 0, api.ErrTag}, {1, 8, 0, api.ErrTag},
		{1, math.MaxInt, 0, api.ErrTag}, {1, math.MinInt, 0, api.ErrTag},
	} {
		if u, err := wire.Tag(x.field, x.kind); u != x.u || err != x.err {
			t.Errorf("Tag(%d, %d) = %d, %v, not %d, %v", x.field, x.kind, u, err, x.u, x.err)
		}
	}
}

func TestP1_4Untag(t *testing.T) {
	for _, x := range []struct {
		u           uint64
		field, kind int
		err         error
	}{
		{8, 1, api.WVarint, nil}, {9, 1, api.W64, nil}, {10, 1, api.WBytes, nil},
		{11, 1, api.WGroup, nil}, {12, 1, api.WEnd, nil}, {13, 1, api.W32, nil},
		{1<<32 - 3, api.MaxNumber, api.W32, nil},
		{1<<32 - 8, api.MaxNumber, api.WVarint, nil},
		{0, 0, 0, api.ErrTag}, {5, 0, 0, api.ErrTag}, {6, 0, 0, api.ErrTag}, {7, 0, 0, api.ErrTag},
		{14, 0, 0, api.ErrTag}, {15, 0, 0, api.ErrTag},
		{1<<32 - 2, 0, 0, api.ErrTag}, {1<<32 - 1, 0, 0, api.ErrTag},
		{1 << 32, 0, 0, api.ErrTag}, {1<<32 + 8, 0, 0, api.ErrTag},
		{1<<63 + 8, 0, 0, api.ErrTag}, {1<<64 - 8, 0, 0, api.ErrTag}, {1<<64 - 1, 0, 0, api.ErrTag},
	} {
		if field, kind, err := wire.Untag(x.u); field != x.field || kind != x.kind || err != x.err {
			t.Errorf("Untag(%d) = %d, %d, %v, not %d, %d, %v", x.u, field, kind, err, x.field, x.kind, x.err)
		}
	}
}

// slowText reads characters as P1.8 says them: by their numbers, each with the fewest bytes that it needs.
func slowText(b []byte) bool {
	for len(b) > 0 {
		more, c, least := 0, 0, 0
		switch first := int(b[0]); {
		case first < 128:
			c = first
		case first < 192:
			return false
		case first < 224:
			more, c, least = 1, first-192, 128
		case first < 240:
			more, c, least = 2, first-224, 2048
		case first < 248:
			more, c, least = 3, first-240, 65536
		default:
			return false
		}
		b = b[1:]
		for ; more > 0; more-- {
			if len(b) == 0 || b[0] < 128 || b[0] > 191 {
				return false
			}
			c = c*64 + int(b[0]) - 128
			b = b[1:]
		}
		if c < least || c > 0x10FFFF || 0xD800 <= c && c <= 0xDFFF {
			return false
		}
	}
	return true
}

func TestP1_8Text(t *testing.T) {
	for s, want := range map[string]bool{
		"":                     true,
		"\x00":                 true,
		"plain":                true,
		"\x7f":                 true,
		"\x80":                 false,
		"\xbf":                 false,
		"\xc0\x80":             false,
		"\xc1\xbf":             false,
		"\xc2\x80":             true,
		"\xdf\xbf":             true,
		"\xe0\x80\x80":         false,
		"\xe0\x9f\xbf":         false,
		"\xe0\xa0\x80":         true,
		"\xed\x9f\xbf":         true,
		"\xed\xa0\x80":         false,
		"\xed\xbf\xbf":         false,
		"\xee\x80\x80":         true,
		"\xef\xbf\xbd":         true,
		"\xef\xbf\xbf":         true,
		"\xf0\x80\x80\x80":     false,
		"\xf0\x8f\xbf\xbf":     false,
		"\xf0\x90\x80\x80":     true,
		"\xf4\x8f\xbf\xbf":     true,
		"\xf4\x90\x80\x80":     false,
		"\xf5\x80\x80\x80":     false,
		"\xff":                 false,
		"\xfe":                 false,
		"a\xc3":                false,
		"a\xc3\xa9b":           true,
		"\xe2\x82":             false,
		"\xf0\x9f\x98":         false,
		"\xc3(":                false,
		"ok\xffok":             false,
		"\xf8\x88\x80\x80\x80": false,
	} {
		if wire.Text([]byte(s)) != want {
			t.Errorf("Text(%q) = %v", s, !want)
		}
	}
	if !wire.Text(nil) {
		t.Error("Text(nil)")
	}
}

func TestP1_8TextAgainstCharacters(t *testing.T) {
	edges := []byte{0, 'a', 0x7f, 0x80, 0x8f, 0x90, 0x9f, 0xa0, 0xbf, 0xc0, 0xc1, 0xc2, 0xdf, 0xe0, 0xe1, 0xec, 0xed, 0xee, 0xef, 0xf0, 0xf1, 0xf3, 0xf4, 0xf5, 0xf8, 0xff}
	var b [4]byte
	var try func(n int)
	try = func(n int) {
		if wire.Text(b[:n]) != slowText(b[:n]) {
			t.Fatalf("Text(%x) = %v", b[:n], !slowText(b[:n]))
		}
		if n == len(b) {
			return
		}
		for _, c := range edges {
			b[n] = c
			try(n + 1)
		}
	}
	try(0)
}

func TestP1_10NumbersThereAndBack(t *testing.T) {
	for _, u := range numbers() {
		for _, behind := range [][]byte{nil, {0}, {255, 255}, runOf(12, 128)} {
			b := append(wire.Varint(nil, u), behind...)
			if v, n, err := wire.Uvarint(b); v != u || n != wire.Size(u) || err != nil {
				t.Errorf("Uvarint(%v) = %d, %d, %v, not %d", b, v, n, err, u)
			}
			for size, want := range map[int]uint64{4: u & (1<<32 - 1), 8: u} {
				b := append(wire.Fixed(nil, u, size), behind...)
				if v, n, err := wire.Unfixed(b, size); v != want || n != size || err != nil {
					t.Errorf("Unfixed(%v, %d) = %d, %d, %v, not %d", b, size, v, n, err, want)
				}
			}
		}
		if v := wire.Zag(wire.Zig(int64(u))); v != int64(u) {
			t.Errorf("Zag(Zig(%d)) = %d", int64(u), v)
		}
		if v := wire.Zig(wire.Zag(u)); v != u {
			t.Errorf("Zig(Zag(%d)) = %d", u, v)
		}
	}
	for _, field := range []int{1, 2, 15, 16, 2047, 2048, api.MaxNumber - 1, api.MaxNumber} {
		for kind := api.WVarint; kind <= api.W32; kind++ {
			u, err := wire.Tag(field, kind)
			if err != nil {
				t.Errorf("Tag(%d, %d): %v", field, kind, err)
			}
			if f, k, err := wire.Untag(u); f != field || k != kind || err != nil {
				t.Errorf("Untag(Tag(%d, %d)) = %d, %d, %v", field, kind, f, k, err)
			}
		}
	}
}

func TestP1_3OtherSizes(t *testing.T) {
	for size := -20; size <= 20; size++ {
		if size == 4 || size == 8 {
			continue
		}
		if b := wire.Fixed([]byte{7, 9}, 258, size); !bytes.Equal(b, []byte{7, 9}) {
			t.Errorf("Fixed(7 9, 258, %d) = %v", size, b)
		}
		if u, n, err := wire.Unfixed(runOf(20, 1), size); u != 0 || n != 0 || err != api.ErrNumber {
			t.Errorf("Unfixed(.., %d) = %d, %d, %v", size, u, n, err)
		}
	}
}
