package hpack_test

import (
	"bytes"
	"math/rand"
	"slices"
	"strings"
	"testing"

	"parley/api"
	"parley/hpack"
	"parley/huff"
)

func TestP4_2PutText(t *testing.T) {
	for _, x := range []struct {
		s    string
		want []byte
	}{
		{"www.example.com", []byte{140, 241, 227, 194, 229, 242, 58, 107, 160, 171, 144, 244, 255}},
		{"", []byte{0}},
		{"\"#", []byte{2, 34, 35}},
		{"0", []byte{1, 48}},           // a code as long as the text is not taken
		{"307", []byte{3, 51, 48, 55}}, // nor this one
		{"302", []byte{130, 100, 2}},   // a shorter one is
		{"\x00\xff", []byte{2, 0, 255}},
		{strings.Repeat("\"", 126), append([]byte{126}, strings.Repeat("\"", 126)...)},
		{strings.Repeat("\"", 127), append([]byte{127, 0}, strings.Repeat("\"", 127)...)},
		{strings.Repeat("\"", 1000), append([]byte{127, 233, 6}, strings.Repeat("\"", 1000)...)},
		{strings.Repeat("0", 200), append([]byte{253}, huff.Encode(strings.Repeat("0", 200))...)},
		{strings.Repeat("0", 208), append([]byte{255, 3}, huff.Encode(strings.Repeat("0", 208))...)},
	} {
		if b := hpack.PutText(nil, x.s); !bytes.Equal(b, x.want) {
			t.Errorf("PutText(none, %.50q) = %.50v, not %.50v", x.s, b, x.want)
		}
		if b := hpack.PutText([]byte{7, 200}, x.s); !bytes.Equal(b, append([]byte{7, 200}, x.want...)) {
			t.Errorf("PutText(7 200, %.50q) = %.50v", x.s, b)
		}
	}
}

func TestP4_2Text(t *testing.T) {
	plain := func(n int) []byte { return append(refInt(0, 7, n), strings.Repeat("\"", n)...) }
	zeros := strings.Repeat("0", 26214) // 16384 bytes of code
	for _, x := range []struct {
		b    []byte
		s    string
		size int
		err  error
	}{
		{[]byte{0}, "", 1, nil},
		{[]byte{128}, "", 1, nil},
		{[]byte{0, 9}, "", 1, nil},
		{[]byte{1, 65, 66}, "A", 2, nil},
		{[]byte{129, 7, 66}, "0", 2, nil}, // a code that is not shorter is read, too
		{[]byte{1, 7}, "\x07", 2, nil},
		{[]byte{127, 0}, "", 0, api.ErrEnd},
		{append(plain(127), 1), strings.Repeat("\"", 127), 129, nil},
		{plain(16384), strings.Repeat("\"", 16384), 16387, nil},
		{append(refInt(128, 7, 16384), huff.Encode(zeros)...), zeros, 16387, nil},
		// Its number's errors.
		{nil, "", 0, api.ErrEnd},
		{[]byte{}, "", 0, api.ErrEnd},
		{[]byte{127}, "", 0, api.ErrEnd},
		{[]byte{255, 128}, "", 0, api.ErrEnd},
		{[]byte{127, 128, 128, 128, 128, 128}, "", 0, api.ErrLong},
		{[]byte{255, 255, 255, 255, 255, 127}, "", 0, api.ErrLong},
		// Too long is told ahead of too few bytes, and of no code.
		{[]byte{127, 130, 127}, "", 0, api.ErrLong},
		{[]byte{255, 130, 127}, "", 0, api.ErrLong},
		{plain(16385), "", 0, api.ErrLong},
		{append(refInt(128, 7, 16385), bytes.Repeat([]byte{255}, 16385)...), "", 0, api.ErrLong},
		{[]byte{255, 128, 255, 255, 255, 7}, "", 0, api.ErrLong},
		// Too few bytes ahead of no code.
		{[]byte{127, 129, 127}, "", 0, api.ErrEnd},
		{[]byte{3, 65}, "", 0, api.ErrEnd},
		{[]byte{1}, "", 0, api.ErrEnd},
		{[]byte{130, 255}, "", 0, api.ErrEnd},
		{plain(16384)[:16386], "", 0, api.ErrEnd},
		// No code.
		{[]byte{129, 0}, "", 0, api.ErrHuff},
		{[]byte{129, 255}, "", 0, api.ErrHuff},
		{[]byte{132, 255, 255, 255, 255}, "", 0, api.ErrHuff},
		{[]byte{130, 7, 255, 1}, "", 0, api.ErrHuff},
	} {
		if s, size, err := hpack.Text(x.b); s != x.s || size != x.size || err != x.err {
			t.Errorf("Text(%.50v) = %.50q, %d, %v, not %.50q, %d, %v", x.b, s, size, err, x.s, x.size, x.err)
		}
	}
}

func TestP4_2TextOfPutText(t *testing.T) {
	r := rand.New(rand.NewSource(2))
	for range 3000 {
		s := make([]byte, r.Intn(300))
		for i := range s {
			s[i] = byte(r.Intn(256))
			if r.Intn(8) > 0 { // short codes
				s[i] = byte(32 + r.Intn(96))
			}
		}
		want := refText(string(s))
		b := hpack.PutText(nil, string(s))
		if !bytes.Equal(b, want) {
			t.Fatalf("PutText(none, %q) = %v, not %v", s, b, want)
		}
		if back, size, err := hpack.Text(append(slices.Clone(b), 3)); back != string(s) || size != len(want) || err != nil {
			t.Fatalf("Text(%v) = %q, %d, %v, not %q", b, back, size, err, s)
		}
		cut := r.Intn(len(want))
		if back, size, err := hpack.Text(want[:cut]); back != "" || size != 0 || err != api.ErrEnd {
			t.Fatalf("Text(%v) = %q, %d, %v", want[:cut], back, size, err)
		}
	}
}

func TestP4_2TextOfAnyBytes(t *testing.T) {
	r := rand.New(rand.NewSource(3))
	for range 50000 {
		b := make([]byte, r.Intn(8))
		for i := range b {
			b[i] = byte(r.Intn(256))
		}
		if len(b) > 0 && r.Intn(2) == 0 {
			b[0] = byte(r.Intn(2)*128 + r.Intn(8))
		}
		want, rest, fault := takeText(b)
		size := len(b) - len(rest)
		if fault != nil {
			size = 0
		}
		if s, got, err := hpack.Text(b); s != want || got != size || err != fault {
			t.Fatalf("Text(%v) = %q, %d, %v, not %q, %d, %v", b, s, got, err, want, size, fault)
		}
	}
}
