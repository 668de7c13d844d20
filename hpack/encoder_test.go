package hpack_test

import (
	"math"
	"math/rand"
	"strings"
	"testing"

	"parley/api"
	"parley/hpack"
)

func TestP4_4NewEncoder(t *testing.T) {
	for _, most := range []int{0, 1, 31, 32, 4095, 4096} {
		encodes(t, mustEncoder(t, most), nil, nil) // no size stands in the first block
	}
	for _, most := range []int{-1, 4097, 1 << 32, math.MaxInt, math.MinInt} {
		if e, err := hpack.NewEncoder(most); e != nil || err != api.ErrTable {
			t.Errorf("NewEncoder(%d) = %v, %v", most, e, err)
		}
	}
}

// A header of 34 bytes fits in a table of so many, and not in one of less.
func TestP4_4TableOfTheEncoder(t *testing.T) {
	l := list("a", "b")
	fits := mustEncoder(t, 34)
	encodes(t, fits, l, []byte{64, 1, 97, 1, 98})
	encodes(t, fits, l, []byte{190})
	tight := mustEncoder(t, 33)
	for range 2 {
		encodes(t, tight, l, []byte{0, 1, 97, 1, 98})
	}
}

func TestP4_4EncodersAreApart(t *testing.T) {
	one, two := mustEncoder(t, 4096), mustEncoder(t, 4096)
	encodes(t, one, list("a", "b"), []byte{64, 1, 97, 1, 98})
	encodes(t, two, list("a", "b"), []byte{64, 1, 97, 1, 98})
	if one.Resize(0) != nil {
		t.Error("Resize(0)")
	}
	encodes(t, two, list("a", "b"), []byte{190})
}

func TestP4_4Resize(t *testing.T) {
	for _, x := range []struct {
		asked []int
		want  []byte
	}{
		{nil, nil},
		{[]int{10}, []byte{42}},
		{[]int{0}, []byte{32}},
		{[]int{30}, []byte{62}},
		{[]int{31}, []byte{63, 0}},
		{[]int{4096}, []byte{63, 225, 31}}, // what it is already is told, too
		{[]int{10, 10}, []byte{42}},
		{[]int{20, 10}, []byte{42}},     // the last is the least
		{[]int{10, 20}, []byte{42, 52}}, // the least is below the last
		{[]int{20, 10, 15}, []byte{42, 47}},
		{[]int{10, 20, 5, 15, 12}, []byte{37, 44}},
		{[]int{10, 20, 15}, []byte{42, 47}},
		{[]int{200, 40, 100}, []byte{63, 9, 63, 69}},
		{[]int{0, 4096}, []byte{32, 63, 225, 31}},
		{[]int{4096, 0}, []byte{32}},
	} {
		e := mustEncoder(t, 4096)
		for _, most := range x.asked {
			if err := e.Resize(most); err != nil {
				t.Errorf("Resize(%d): %v", most, err)
			}
		}
		encodes(t, e, list(":method", "GET"), append(x.want, 130))
		encodes(t, e, list(":method", "GET"), []byte{130}) // only in the next block
	}
}

// A block of no header has the sizes as well, and those that were asked for ahead of it are behind.
func TestP4_4SizesOfABlockOfNone(t *testing.T) {
	e := mustEncoder(t, 100)
	e.Resize(10)
	e.Resize(20)
	encodes(t, e, nil, []byte{42, 52})
	encodes(t, e, nil, nil)
	e.Resize(15)
	encodes(t, e, nil, []byte{47}) // 10 is of the last block
	e.Resize(25)
	encodes(t, e, nil, []byte{57})
}

func TestP4_4ResizeAbove(t *testing.T) {
	e := mustEncoder(t, 50)
	encodes(t, e, list("a", "b", "c", "d"), []byte{64, 1, 97, 1, 98, 64, 1, 99, 1, 100})
	if err := e.Resize(4096); err != nil {
		t.Fatal("Resize(4096):", err)
	}
	encodes(t, e, list("a", "b"), []byte{63, 225, 31, 64, 1, 97, 1, 98})
	encodes(t, e, list("a", "b", "c", "d"), []byte{190, 191})
}

func TestP4_4ResizeFault(t *testing.T) {
	e := mustEncoder(t, 4096)
	encodes(t, e, list("a", "b"), []byte{64, 1, 97, 1, 98})
	for _, most := range []int{-1, 4097, 1 << 32, math.MaxInt, math.MinInt} {
		if err := e.Resize(most); err != api.ErrTable {
			t.Errorf("Resize(%d): %v", most, err)
		}
	}
	encodes(t, e, list("a", "b"), []byte{190}) // nothing has changed
	e.Resize(40)
	e.Resize(-1)
	e.Resize(4097)
	encodes(t, e, list("a", "b"), []byte{63, 9, 190})
}

// The table is resized at once: what a size between made go does not come back.
func TestP4_4ResizedAtOnce(t *testing.T) {
	e := mustEncoder(t, 4096)
	l := list("a", "b", "c", "d")
	encodes(t, e, l, []byte{64, 1, 97, 1, 98, 64, 1, 99, 1, 100})
	e.Resize(34) // the newer one has room
	e.Resize(100)
	encodes(t, e, list("c", "d"), []byte{63, 3, 63, 69, 190})
	encodes(t, e, list("a", "b"), []byte{64, 1, 97, 1, 98})
	e.Resize(0)
	e.Resize(4096)
	encodes(t, e, l, []byte{32, 63, 225, 31, 64, 1, 97, 1, 98, 64, 1, 99, 1, 100})
}

func TestP4_5Encode(t *testing.T) {
	www := []byte{140, 241, 227, 194, 229, 242, 58, 107, 160, 171, 144, 244, 255}
	large := strings.Repeat("\"", 4096)
	largeText := append([]byte{127, 129, 31}, large...)
	for _, x := range []struct {
		l    []api.Header
		want []byte
	}{
		{nil, nil},
		{[]api.Header{}, nil},
		// Indexed.
		{list(":method", "GET", ":path", "/"), []byte{130, 132}},
		{list(":authority", ""), []byte{129}},
		{list("www-authenticate", ""), []byte{189}},
		// Added: with the index of its name, or its name.
		{list(":authority", "www.example.com"), append([]byte{65}, www...)},
		{list(":method", "PUT"), []byte{66, 3, 80, 85, 84}},
		{list(":status", "099"), []byte{72, 3, 48, 57, 57}},
		{list("www-authenticate", "\"#"), []byte{125, 2, 34, 35}},
		{list("a", "b"), []byte{64, 1, 97, 1, 98}},
		{list("", ""), []byte{64, 0, 0}},
		{list("a", "b", "a", "b", "a", "c"), []byte{64, 1, 97, 1, 98, 190, 126, 1, 99}},
		{list("a", "b", "c", "d", "a", "c"), []byte{64, 1, 97, 1, 98, 64, 1, 99, 1, 100, 127, 0, 1, 99}},
		{list("A", ""), []byte{64, 1, 65, 0}}, // names are what their bytes are
		// Not added, as it has no room by itself.
		{list(":path", large), append([]byte{4}, largeText...)},
		{list("a", large), append([]byte{0, 1, 97}, largeText...)},
		{list("via", large), append([]byte{15, 45}, largeText...)}, // 60
		{list("a", "b", "a", large, "a", "b"), append(append([]byte{64, 1, 97, 1, 98, 15, 47}, largeText...), 190)},
		// Never.
		{secret(list(":method", "GET")), []byte{18, 3, 71, 69, 84}},
		{secret(list("a", "b", "a", "b")), []byte{16, 1, 97, 1, 98, 16, 1, 97, 1, 98}},
		{secret(list("accept-encoding", "x")), []byte{31, 1, 1, 120}},
		{append(list("a", "b"), secret(list("a", "b", "a", "c"))...), []byte{64, 1, 97, 1, 98, 31, 47, 1, 98, 31, 47, 1, 99}},
		{append(secret(list("a", "b")), list("a", "b")...), []byte{16, 1, 97, 1, 98, 64, 1, 97, 1, 98}},
		{secret(list("a", large)), append([]byte{16, 1, 97}, largeText...)},
	} {
		encodes(t, mustEncoder(t, 4096), x.l, x.want)
	}
}

// Which index stands for the name of a Never header: the one that Find tells, be it of name and value.
func TestP4_5IndexOfANeverHeader(t *testing.T) {
	encodes(t, mustEncoder(t, 4096), secret(list(":method", "POST")), []byte{19, 4, 80, 79, 83, 84})
	encodes(t, mustEncoder(t, 4096), secret(list(":method", "PUT")), []byte{18, 3, 80, 85, 84})
}

// The index is that of the table ahead of what is added, though the name that it tells may go by that.
func TestP4_5NameThatGoes(t *testing.T) {
	e, d := mustEncoder(t, 40), mustDecoder(t, 40)
	for _, x := range []struct {
		l    []api.Header
		want []byte
	}{
		{list("a", "1"), []byte{64, 1, 97, 1, 49}},
		{list("a", "2"), []byte{126, 1, 50}},
		{list("a", "2"), []byte{190}},
		{list("a", "1"), []byte{126, 1, 49}},
	} {
		encodes(t, e, x.l, x.want)
		decodes(t, d, x.want, x.l, nil)
	}
}

func TestP4_5Examples(t *testing.T) {
	e := mustEncoder(t, 4096)
	l := list(":method", "GET", ":path", "/", ":authority", "www.example.com")
	encodes(t, e, l, []byte{130, 132, 65, 140, 241, 227, 194, 229, 242, 58, 107, 160, 171, 144, 244, 255})
	encodes(t, e, l, []byte{130, 132, 190})
}

func TestP4_5Model(t *testing.T) {
	for seed := range int64(200) {
		r := rand.New(rand.NewSource(seed))
		most := anyMost(r)
		e, want := mustEncoder(t, most), model{most: most}
		for range 40 {
			for r.Intn(3) == 0 {
				most := anyMost(r)
				want.sizes = append(want.sizes, most)
				want.resize(most)
				if err := e.Resize(most); err != nil {
					t.Fatalf("Resize(%d): %v", most, err)
				}
			}
			l := anyList(r)
			encodes(t, e, l, want.encode(l))
		}
	}
}
