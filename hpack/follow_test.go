package hpack_test

import (
	"math/rand"
	"slices"
	"strconv"
	"strings"
	"testing"

	"parley/api"
)

func TestP4_8ThereAndBack(t *testing.T) {
	for seed := range int64(200) {
		r := rand.New(rand.NewSource(seed))
		most := anyMost(r)
		e, d, want := mustEncoder(t, most), mustDecoder(t, most), model{most: most}
		for range 40 {
			for r.Intn(4) == 0 {
				size := r.Intn(most + 1)
				if e.Resize(size) != nil {
					t.Fatal("Resize", size)
				}
				want.sizes = append(want.sizes, size)
				want.resize(size)
			}
			l := anyList(r)
			b := e.Encode(l)
			want.encode(l)
			decodes(t, d, b, l, nil)
			if d.Len() != len(want.l) {
				t.Fatalf("Len %d, not %d as of the encoder", d.Len(), len(want.l))
			}
		}
	}
}

// Every byte, in names and in values; and a list that is as large as one may be.
func TestP4_8AllBytes(t *testing.T) {
	e, d := mustEncoder(t, 4096), mustDecoder(t, 4096)
	all := make([]byte, 256)
	for i := range all {
		all[i] = byte(i)
		s := string(all[i : i+1])
		for _, l := range [][]api.Header{list(s, s), secret(list(s+s, s+s)), list(s+s+s, strings.Repeat(s, 4))} {
			decodes(t, d, e.Encode(l), l, nil)
		}
	}
	l := list(string(all), string(all), string(all), string(all))
	decodes(t, d, e.Encode(l), l, nil)
	for _, c := range []string{"0", "\"", "\x00"} {
		l := list("a", strings.Repeat(c, 16384-33))
		decodes(t, d, e.Encode(l), l, nil)
	}
	var many []api.Header
	for range 512 {
		many = append(many, api.Header{Never: len(many)%3 == 0})
	}
	decodes(t, d, e.Encode(many), many, nil)
	decodes(t, d, e.Encode(append(many, api.Header{})), nil, api.ErrList)
}

// Both tables have as many headers: what an index says is the same at both ends, up to the oldest one.
func TestP4_8BothTables(t *testing.T) {
	e, d := mustEncoder(t, 1000), mustDecoder(t, 1000)
	for i := range 300 {
		l := list("n", strconv.Itoa(i))
		decodes(t, d, e.Encode(l), l, nil)
		want := 0
		for back := 0; back <= i; back++ {
			if want += 33 + len(strconv.Itoa(i-back)); want > 1000 {
				break
			}
			one := list("n", strconv.Itoa(i-back))
			b := e.Encode(one)
			if !slices.Equal(b, refInt(128, 7, 62+back)) {
				t.Fatalf("%d headers back: %v", back, b)
			}
			decodes(t, d, b, one, nil)
		}
	}
}

func TestP4_9Short(t *testing.T) {
	e, d := mustEncoder(t, 4096), mustDecoder(t, 4096)
	standing := list(":method", "GET", ":path", "/", ":status", "404", "www-authenticate", "")
	var l []api.Header
	for i := range 100 { // of 34 or 35 bytes each: all have room
		l = append(l, api.Header{Name: strconv.Itoa(i), Value: "v"})
	}
	l = append(l, standing...)
	decodes(t, d, e.Encode(l), l, nil)
	if d.Len() != 100 {
		t.Fatal("Len", d.Len())
	}
	for range 3 {
		var want []byte
		for i := range 100 {
			if index := 62 + 99 - i; index > 126 {
				want = append(want, 255, byte(index-127))
			} else {
				want = append(want, byte(128+index))
			}
		}
		want = append(want, 130, 132, 141, 189)
		encodes(t, e, l, want)
		decodes(t, d, want, l, nil)
	}
}

func TestP4_9ShortAny(t *testing.T) {
	for seed := range int64(300) {
		r := rand.New(rand.NewSource(seed))
		e := mustEncoder(t, 4096)
		e.Encode(anyList(r))
		l := anyList(r)
		for i := range l {
			l[i].Never = false
		}
		e.Encode(l)
		if b := e.Encode(l); len(b) != len(l) { // there are less than 65 headers in the table
			t.Fatalf("%v, once more, is %v", l, b)
		}
	}
}
