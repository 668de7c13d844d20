package hpack_test

import (
	"bytes"
	"slices"
	"testing"

	"parley/api"
	"parley/hpack"
)

// guarded is a copy of b with bytes behind its length, in the same memory, and a call that tells whether anything there was changed.
func guarded(t *testing.T, b []byte, behind byte) ([]byte, func(what string)) {
	t.Helper()
	memory := append(bytes.Clone(b), bytes.Repeat([]byte{behind}, 40)...)
	want := bytes.Clone(memory)
	return memory[:len(b)], func(what string) {
		t.Helper()
		if !bytes.Equal(memory, want) {
			t.Errorf("%s changed what was handed in: %v, not %v", what, memory, want)
		}
	}
}

// spoil writes over l, its spare room too.
func spoil[T any](l []T, with T) {
	l = l[:cap(l)]
	for i := range l {
		l[i] = with
	}
}

// writers is every call that answers b with something behind it.
func writers() map[string]func(b []byte) []byte {
	return map[string]func(b []byte) []byte{
		"PutInt":                  func(b []byte) []byte { return hpack.PutInt(b, 0, 5, 10) },
		"PutInt of many bytes":    func(b []byte) []byte { return hpack.PutInt(b, 0, 5, 1<<31-1) },
		"PutInt of no prefix":     func(b []byte) []byte { return hpack.PutInt(b, 0, 9, 10) },
		"PutInt of no number":     func(b []byte) []byte { return hpack.PutInt(b, 0, 5, -1) },
		"PutInt beside no byte":   func(b []byte) []byte { return hpack.PutInt(b, 1, 5, 1) },
		"PutText":                 func(b []byte) []byte { return hpack.PutText(b, "\"#") },
		"PutText of a code":       func(b []byte) []byte { return hpack.PutText(b, "www.example.com") },
		"PutText of an empty one": func(b []byte) []byte { return hpack.PutText(b, "") },
	}
}

func TestP4_7WritersAnswerNewMemory(t *testing.T) {
	for name, write := range writers() {
		for _, given := range [][]byte{nil, {9}, {9, 8, 7}} {
			b, unchanged := guarded(t, given, 1)
			one := write(b)
			want := bytes.Clone(one)
			unchanged(name)
			two := write(b)
			spoil(two, 0xEE)
			unchanged(name + ", its answer written over,")
			if !bytes.Equal(one, want) {
				t.Errorf("%s: one answer shows what was written into another: %v, not %v", name, one, want)
			}
			spoil(b, 0xEE)
			if !bytes.Equal(one, want) {
				t.Errorf("%s: the answer shows what was written into b: %v, not %v", name, one, want)
			}
		}
	}
}

func TestP4_7ReadersKeepNothing(t *testing.T) {
	for _, x := range []struct {
		b    []byte
		s    string
		size int
		err  error
	}{
		{[]byte{2, 34, 35}, "\"#", 3, nil},
		{[]byte{129, 7}, "0", 2, nil},
		{[]byte{3, 34, 35}, "", 0, api.ErrEnd},
		{[]byte{127}, "", 0, api.ErrEnd},
		{nil, "", 0, api.ErrEnd},
	} {
		for _, behind := range []byte{0, 7, 128, 255} {
			b, unchanged := guarded(t, x.b, behind)
			s, size, err := hpack.Text(b)
			n, bytesOf, fault := hpack.Int(b, 7)
			unchanged("a reader")
			if want, rest, err := takeInt(x.b, 7); n != want || fault != err || err == nil && bytesOf != len(x.b)-len(rest) {
				t.Errorf("Int(%v), %d behind it, = %d, %d, %v", x.b, behind, n, bytesOf, fault)
			}
			spoil(b, 0xEE)
			if s != x.s || size != x.size || err != x.err {
				t.Errorf("Text(%v), %d behind it, = %q, %d, %v, not %q, %d, %v", x.b, behind, s, size, err, x.s, x.size, x.err)
			}
		}
	}
}

// guardedList is l with headers behind its length.
func guardedList(t *testing.T, l []api.Header) ([]api.Header, func()) {
	t.Helper()
	memory := append(slices.Clone(l), list("behind", "1", "behind", "2", "behind", "3", "behind", "4")...)
	want := slices.Clone(memory)
	return memory[:len(l)], func() {
		t.Helper()
		if !slices.Equal(memory, want) {
			t.Errorf("what was handed in is changed: %v, not %v", memory, want)
		}
	}
}

func TestP4_7EncodeKeepsNothing(t *testing.T) {
	e, quiet := mustEncoder(t, 4096), mustEncoder(t, 4096)
	given := append(list("a", "b", ":method", "PUT"), secret(list("c", "d"))...)
	for range 3 {
		l, unchanged := guardedList(t, given)
		b := e.Encode(l)
		unchanged()
		hpack.Size(l)
		unchanged()
		want := quiet.Encode(given)
		if !bytes.Equal(b, want) {
			t.Fatalf("Encode(%v) = %v, not %v", given, b, want)
		}
		spoil(l, api.Header{Name: "spoilt", Never: true})
		other := e.Encode(given)
		want2 := quiet.Encode(given)
		if !bytes.Equal(b, want) || !bytes.Equal(other, want2) {
			t.Fatalf("Encode shows what was written into l: %v, %v, not %v, %v", b, other, want, want2)
		}
		spoil(other, 0xEE)
		other = append(other[:cap(other)], 1, 2, 3)
		if !bytes.Equal(b, want) {
			t.Fatalf("one answer shows what was written into another: %v, not %v", b, want)
		}
		spoil(b, 0xEE)
	}
}

func TestP4_7DecodeKeepsNothing(t *testing.T) {
	d := mustDecoder(t, 4096)
	one := []byte{64, 1, 97, 1, 98, 130, 16, 129, 7, 1, 99}
	want := append(list("a", "b", ":method", "GET"), api.Header{Name: "0", Value: "c", Never: true})
	for range 3 {
		b, unchanged := guarded(t, one, 130)
		l, err := d.Decode(b)
		unchanged("Decode")
		spoil(b, 0xEE)
		if !slices.Equal(l, want) || err != nil {
			t.Fatalf("Decode shows what was written into b: %v, %v", l, err)
		}
		other, _ := d.Decode([]byte{190, 130})
		spoil(other, api.Header{Name: "spoilt"})
		other = append(other[:cap(other)], api.Header{Name: "spoilt"})
		if !slices.Equal(l, want) {
			t.Fatal("one answer shows what was written into another:", l)
		}
		spoil(l, api.Header{Name: "spoilt"})
		decodes(t, d, []byte{190}, list("a", "b"), nil)
	}
	// What lies behind the length is not read, and a fault leaves b as it is.
	for _, cut := range [][]byte{{64, 1, 97, 1}, {255}, {126}, {130, 32}} {
		for _, behind := range []byte{0, 98, 255} {
			b, unchanged := guarded(t, cut, behind)
			if l, err := mustDecoder(t, 4096).Decode(b); len(l) != 0 || err == nil {
				t.Errorf("Decode(%v), %d behind it, = %v, %v", cut, behind, l, err)
			}
			unchanged("Decode")
		}
	}
}
