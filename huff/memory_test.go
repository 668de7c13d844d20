package huff_test

import (
	"bytes"
	"testing"

	"parley/api"
	"parley/huff"
)

func TestP2_4EncodeAnswersNewMemory(t *testing.T) {
	for _, s := range []string{"", "0", "0000", "www.example.com", "\x00\xff"} {
		one := huff.Encode(s)
		want := bytes.Clone(one)
		room := bytes.Clone(one[:cap(one)])
		two := huff.Encode(s)
		two = append(two[:cap(two)], 1, 2, 3)
		for i := range two {
			two[i] = 0xEE
		}
		three := huff.Encode(s)
		spare := three[:cap(three)]
		for i := range spare {
			spare[i] = 0xEE
		}
		if !bytes.Equal(one, want) || !bytes.Equal(one[:cap(one)], room) {
			t.Errorf("Encode(%q): one answer shows what was written into another: %v, not %v", s, one[:cap(one)], room)
		}
		if four := huff.Encode(s); !bytes.Equal(four, want) {
			t.Errorf("Encode(%q) is %v at last, not %v", s, four, want)
		}
	}
}

func TestP2_4DecodeKeepsNothing(t *testing.T) {
	for _, x := range []struct {
		b    []byte
		want string
		err  error
	}{
		{huff.Encode("www.example.com"), "www.example.com", nil},
		{[]byte{7}, "0", nil},
		{nil, "", nil},
		{[]byte{255}, "", api.ErrHuff},
		{[]byte{0}, "", api.ErrHuff},
	} {
		// What lies behind the length would go on with the text.
		for _, behind := range []byte{0, 7, 255} {
			memory := append(bytes.Clone(x.b), bytes.Repeat([]byte{behind}, 20)...)
			whole := bytes.Clone(memory)
			s, err := huff.Decode(memory[:len(x.b)])
			if s != x.want || err != x.err {
				t.Errorf("Decode(%v), %d behind it, = %q, %v, not %q, %v", x.b, behind, s, err, x.want, x.err)
			}
			if !bytes.Equal(memory, whole) {
				t.Errorf("Decode(%v) changed what was handed in: %v, not %v", x.b, memory, whole)
			}
			for i := range memory {
				memory[i] = 0xEE
			}
			if s != x.want {
				t.Errorf("Decode(%v): the text shows what was written into b: %q", x.b, s)
			}
		}
	}
}
