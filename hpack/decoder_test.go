package hpack_test

import (
	"bytes"
	"math"
	"math/rand"
	"slices"
	"strings"
	"testing"

	"parley/api"
	"parley/hpack"
)

func TestP4_4NewDecoder(t *testing.T) {
	for _, limit := range []int{0, 1, 31, 32, 4095, 4096} {
		d := mustDecoder(t, limit)
		if d.Len() != 0 {
			t.Errorf("NewDecoder(%d): Len %d", limit, d.Len())
		}
		decodes(t, d, []byte{190}, nil, api.ErrIndex)
	}
	for _, limit := range []int{-1, 4097, 1 << 32, math.MaxInt, math.MinInt} {
		if d, err := hpack.NewDecoder(limit); d != nil || err != api.ErrTable {
			t.Errorf("NewDecoder(%d) = %v, %v", limit, d, err)
		}
	}
}

// The table has at most limit bytes before any size is told.
func TestP4_4TableOfTheDecoder(t *testing.T) {
	added := []byte{64, 1, 97, 1, 98}
	for limit, want := range map[int]int{0: 0, 33: 0, 34: 1, 67: 1, 68: 2, 4096: 2} {
		d := mustDecoder(t, limit)
		decodes(t, d, added, list("a", "b"), nil)
		decodes(t, d, added, list("a", "b"), nil)
		if d.Len() != want {
			t.Errorf("of %d bytes: Len %d, not %d", limit, d.Len(), want)
		}
	}
}

func TestP4_4DecodersAreApart(t *testing.T) {
	one, two := mustDecoder(t, 4096), mustDecoder(t, 4096)
	decodes(t, one, []byte{64, 1, 97, 1, 98}, list("a", "b"), nil)
	decodes(t, two, []byte{190}, nil, api.ErrIndex)
	decodes(t, one, []byte{190}, list("a", "b"), nil)
}

// block is parts, one behind the other.
func block(parts ...[]byte) []byte {
	return bytes.Join(parts, nil)
}

// Each kind of what stands in a block, and what it does to the table.
func TestP4_3Kinds(t *testing.T) {
	for _, x := range []struct {
		b    []byte
		want []api.Header
		held int // headers in the table
	}{
		{nil, nil, 0},
		{[]byte{}, nil, 0},
		{[]byte{130}, list(":method", "GET"), 0},
		{[]byte{129, 189}, list(":authority", "", "www-authenticate", ""), 0},
		{[]byte{64, 1, 97, 1, 98}, list("a", "b"), 1},
		{[]byte{64, 0, 0}, list("", ""), 1},
		{[]byte{64, 129, 7, 129, 7}, list("0", "0"), 1},
		{[]byte{66, 1, 98}, list(":method", "b"), 1},
		{[]byte{125, 1, 98}, list("www-authenticate", "b"), 1},
		{[]byte{0, 1, 97, 1, 98}, list("a", "b"), 0},
		{[]byte{2, 1, 98}, list(":method", "b"), 0},
		{[]byte{15, 46, 1, 98}, list("www-authenticate", "b"), 0},
		{[]byte{16, 1, 97, 1, 98}, secret(list("a", "b")), 0},
		{[]byte{18, 1, 98}, secret(list(":method", "b")), 0},
		{[]byte{31, 46, 1, 98}, secret(list("www-authenticate", "b")), 0},
		{[]byte{64, 1, 97, 1, 98, 190, 126, 1, 99, 190, 191}, list("a", "b", "a", "b", "a", "c", "a", "c", "a", "b"), 2},
		{[]byte{64, 1, 97, 1, 98, 31, 47, 1, 98, 190}, append(append(list("a", "b"), secret(list("a", "b"))...), list("a", "b")...), 1},
		{[]byte{64, 1, 97, 1, 98, 15, 47, 1, 99, 190}, list("a", "b", "a", "c", "a", "b"), 1},
		// What is there already is added all the same; numbers may have more bytes than needed.
		{[]byte{66, 3, 71, 69, 84, 66, 3, 71, 69, 84}, list(":method", "GET", ":method", "GET"), 2},
		{[]byte{15, 128, 0, 1, 98}, list("accept-charset", "b"), 0},
		// Sizes ahead of all headers.
		{[]byte{32}, nil, 0},
		{[]byte{32, 130}, list(":method", "GET"), 0},
		{[]byte{63, 225, 31}, nil, 0},
		{[]byte{32, 32, 63, 225, 31, 42, 130}, list(":method", "GET"), 0},
		{[]byte{63, 3, 64, 1, 97, 1, 98, 64, 1, 99, 1, 100, 190}, list("a", "b", "c", "d", "c", "d"), 1},
		{[]byte{32, 64, 1, 97, 1, 98}, list("a", "b"), 0},
	} {
		d := mustDecoder(t, 4096)
		decodes(t, d, x.b, x.want, nil)
		if d.Len() != x.held {
			t.Errorf("Decode(%v): Len %d, not %d", x.b, d.Len(), x.held)
		}
	}
}

// A size makes headers go, at once; a greater one does not bring them back.
func TestP4_3SizeOfATable(t *testing.T) {
	d := mustDecoder(t, 4096)
	decodes(t, d, []byte{64, 1, 97, 1, 98, 64, 1, 99, 1, 100}, list("a", "b", "c", "d"), nil)
	decodes(t, d, []byte{63, 37, 191}, list("a", "b"), nil) // 68: both have room
	decodes(t, d, []byte{63, 36, 63, 225, 31, 190}, list("c", "d"), nil)
	if d.Len() != 1 {
		t.Error("Len", d.Len())
	}
	decodes(t, d, []byte{191}, nil, api.ErrIndex)
}

func TestP4_6Faults(t *testing.T) {
	nine := bytes.Repeat([]byte{190}, 9)
	for _, x := range []struct {
		b   []byte
		err error
	}{
		// A size behind a header, of any kind; whatever its number is.
		{[]byte{130, 32}, api.ErrTable},
		{[]byte{64, 1, 97, 1, 98, 42}, api.ErrTable},
		{[]byte{0, 1, 97, 1, 98, 63, 225, 31}, api.ErrTable},
		{[]byte{16, 1, 97, 1, 98, 32, 130}, api.ErrTable},
		{[]byte{32, 130, 32}, api.ErrTable},
		{[]byte{130, 63}, api.ErrTable},
		{[]byte{130, 63, 128, 128, 128, 128, 128}, api.ErrTable},
		// A size above limit.
		{[]byte{63, 226, 31}, api.ErrTable},
		{[]byte{32, 63, 226, 31}, api.ErrTable},
		{[]byte{63, 224, 255, 255, 255, 7}, api.ErrTable},
		{[]byte{63, 226, 31, 128}, api.ErrTable},
		// An index of none.
		{[]byte{128}, api.ErrIndex},
		{[]byte{190}, api.ErrIndex},
		{[]byte{255, 0}, api.ErrIndex},
		{[]byte{255, 128, 0, 130}, api.ErrIndex},
		{[]byte{255, 128, 255, 255, 255, 7}, api.ErrIndex},
		{[]byte{64, 1, 97, 1, 98, 191}, api.ErrIndex},
		{[]byte{0, 1, 97, 1, 98, 190}, api.ErrIndex}, // not added
		{[]byte{16, 1, 97, 1, 98, 190}, api.ErrIndex},
		{[]byte{126, 1, 98}, api.ErrIndex},
		{[]byte{126}, api.ErrIndex}, // ahead of the value that is not there
		{[]byte{127, 0, 1, 98}, api.ErrIndex},
		{[]byte{15, 47, 1, 98}, api.ErrIndex},
		{[]byte{31, 47, 1, 98}, api.ErrIndex},
		{[]byte{31, 47, 129, 0}, api.ErrIndex},
		// A number's error.
		{[]byte{255}, api.ErrEnd},
		{[]byte{127}, api.ErrEnd},
		{[]byte{63}, api.ErrEnd},
		{[]byte{31}, api.ErrEnd},
		{[]byte{15}, api.ErrEnd},
		{[]byte{15, 128}, api.ErrEnd},
		{[]byte{255, 128, 128, 128, 128, 128}, api.ErrLong},
		{[]byte{127, 128, 128, 128, 128, 128}, api.ErrLong},
		{[]byte{63, 128, 128, 128, 128, 128}, api.ErrLong},
		{[]byte{31, 128, 128, 128, 128, 128}, api.ErrLong},
		{[]byte{15, 128, 128, 128, 128, 128}, api.ErrLong},
		{[]byte{255, 255, 255, 255, 255, 127}, api.ErrLong},
		{[]byte{63, 255, 255, 255, 255, 127}, api.ErrLong},
		// A text's error, of the name, and of the value.
		{[]byte{64}, api.ErrEnd},
		{[]byte{0}, api.ErrEnd},
		{[]byte{16}, api.ErrEnd},
		{[]byte{64, 2, 97}, api.ErrEnd},
		{[]byte{64, 1, 97}, api.ErrEnd},
		{[]byte{65}, api.ErrEnd},
		{[]byte{64, 1, 97, 1}, api.ErrEnd},
		{[]byte{64, 129, 0, 1, 98}, api.ErrHuff},
		{[]byte{64, 1, 97, 129, 0}, api.ErrHuff},
		{[]byte{65, 129, 255}, api.ErrHuff},
		{[]byte{64, 127, 130, 127}, api.ErrLong},
		{[]byte{65, 127, 130, 127}, api.ErrLong},
		// The first fault is told, whatever is behind it.
		{[]byte{128, 63, 226, 31}, api.ErrIndex},
		{[]byte{64, 129, 0, 128}, api.ErrHuff},
		{block([]byte{128}, nine), api.ErrIndex},
	} {
		d := mustDecoder(t, 4096)
		decodes(t, d, []byte{42, 0, 1, 97, 1, 98}, list("a", "b"), nil)
		decodes(t, d, x.b, nil, x.err)
		for _, b := range [][]byte{{130}, nil, {128}, {32}, x.b} {
			decodes(t, d, b, nil, api.ErrGone)
		}
	}
}

// The limit is told of, not MaxTable, and not what a size has made of it.
func TestP4_6Limit(t *testing.T) {
	for _, limit := range []int{0, 30, 31, 200, 4095, 4096} {
		d := mustDecoder(t, limit)
		decodes(t, d, refInt(32, 5, limit), nil, nil)
		decodes(t, d, block(refInt(32, 5, 0), refInt(32, 5, limit)), nil, nil)
		decodes(t, d, refInt(32, 5, limit+1), nil, api.ErrTable)
	}
}

// Beside an error nothing changes: what the block had added, or made go, is not told by Len.
func TestP4_6LenBesideAnError(t *testing.T) {
	for _, b := range [][]byte{
		{128},
		{64, 1, 97, 1, 98, 128},
		{32, 128},
		{63, 37, 64, 1, 97, 1, 98, 64, 1, 97},
	} {
		d := mustDecoder(t, 4096)
		decodes(t, d, []byte{64, 1, 97, 1, 98, 64, 1, 99, 1, 100}, list("a", "b", "c", "d"), nil)
		for range 3 {
			if l, err := d.Decode(b); len(l) != 0 || err == nil {
				t.Errorf("Decode(%v) = %v, %v", b, l, err)
			}
			if d.Len() != 2 {
				t.Errorf("Decode(%v): Len %d, not 2", b, d.Len())
			}
		}
	}
}

func TestP4_6Len(t *testing.T) {
	d := mustDecoder(t, 100)
	for i, want := range []int{1, 2, 2, 2} {
		decodes(t, d, []byte{64, 1, 97, 1, byte(i)}, list("a", string(rune(i))), nil)
		if d.Len() != want {
			t.Errorf("Len %d, not %d", d.Len(), want)
		}
	}
	decodes(t, d, []byte{63, 3}, nil, nil) // 34: a block without a header
	if d.Len() != 1 {
		t.Errorf("Len %d, not 1", d.Len())
	}
	decodes(t, d, []byte{32}, nil, nil)
	if d.Len() != 0 {
		t.Errorf("Len %d, not 0", d.Len())
	}
}

func TestP4_6List(t *testing.T) {
	// 32, and the bytes of name and value, are 4096 each.
	value := strings.Repeat("\"", 4063)
	quarter := block([]byte{0, 1, 97}, refText(value))
	want := list("a", value, "a", value, "a", value, "a", value)
	if hpack.Size(want) != 16384 {
		t.Fatal("Size", hpack.Size(want))
	}
	four := bytes.Repeat(quarter, 4)
	decodes(t, mustDecoder(t, 4096), four, want, nil)
	for _, more := range [][]byte{{129}, {0, 0, 0}, {64, 0, 0}, {16, 0, 0}} {
		decodes(t, mustDecoder(t, 4096), append(slices.Clone(four), more...), nil, api.ErrList)
	}
	// All headers up to this one count, not one by one, and by their texts, not by their bytes in the block.
	d := mustDecoder(t, 4096)
	decodes(t, d, block([]byte{64, 1, 97}, refText(value), bytes.Repeat([]byte{190}, 3)), want, nil)
	decodes(t, d, bytes.Repeat([]byte{190}, 4), want, nil) // each block anew
	decodes(t, d, block(bytes.Repeat([]byte{190}, 4), []byte{129}), nil, api.ErrList)
	decodes(t, d, []byte{130}, nil, api.ErrGone)
	if d.Len() != 1 {
		t.Error("Len:", d.Len())
	}
}

func TestP4_6ListOfOneHeader(t *testing.T) {
	for size, fault := range map[int]error{16351: nil, 16352: api.ErrList, 16384: api.ErrList, 16385: api.ErrLong} {
		value := strings.Repeat("\"", size)
		var want []api.Header
		if fault == nil {
			want = list("a", value)
		}
		decodes(t, mustDecoder(t, 4096), block([]byte{0, 1, 97}, refText(value)), want, fault)
	}
	// A code of less than MaxList bytes, a text of more.
	zeros := strings.Repeat("0", 20000)
	decodes(t, mustDecoder(t, 4096), block([]byte{0, 1, 97}, refText(zeros)), nil, api.ErrList)
	// The value's error is told ahead of a name that is too large by itself.
	decodes(t, mustDecoder(t, 4096), block([]byte{0}, refText(zeros)), nil, api.ErrEnd)
	decodes(t, mustDecoder(t, 4096), block([]byte{0}, refText(zeros), []byte{129, 0}), nil, api.ErrHuff)
	// ErrList of a header comes ahead of the faults of those behind it.
	decodes(t, mustDecoder(t, 4096), block([]byte{0}, refText(zeros), []byte{0, 128}), nil, api.ErrList)
}

func TestP4_6Size(t *testing.T) {
	for _, x := range []struct {
		l    []api.Header
		want int
	}{
		{nil, 0},
		{list("", ""), 32},
		{list("a", "bc"), 35},
		{secret(list("a", "bc", "", "")), 67},
		{list(":method", "GET", ":path", "/", ":authority", "www.example.com"), 137},
		{list(strings.Repeat("n", 5000), strings.Repeat("v", 70000), "a", ""), 75065},
	} {
		if n := hpack.Size(x.l); n != x.want {
			t.Errorf("Size(%.80v) = %d, not %d", x.l, n, x.want)
		}
	}
}

func TestP4_6AnIndexIsNotNever(t *testing.T) {
	d := mustDecoder(t, 4096)
	decodes(t, d, []byte{66, 1, 98, 31, 47, 1, 98, 190, 130}, []api.Header{
		{Name: ":method", Value: "b"}, {Name: ":method", Value: "b", Never: true}, {Name: ":method", Value: "b"}, {Name: ":method", Value: "GET"},
	}, nil)
}

func TestP4_6Examples(t *testing.T) {
	d := mustDecoder(t, 4096)
	decodes(t, d, []byte{130}, list(":method", "GET"), nil)
	decodes(t, d, []byte{128}, nil, api.ErrIndex)
	decodes(t, d, []byte{130}, nil, api.ErrGone)
	for _, x := range []struct {
		b    []byte
		want []api.Header
		err  error
	}{
		{[]byte{63, 225, 31}, nil, nil},
		{[]byte{63, 226, 31}, nil, api.ErrTable},
		{[]byte{130, 32}, nil, api.ErrTable},
		{[]byte{16, 1, 97, 1, 98}, secret(list("a", "b")), nil},
	} {
		decodes(t, mustDecoder(t, 4096), x.b, x.want, x.err)
	}
}

// anyPiece is some of a block, mostly without a fault.
func anyPiece(r *rand.Rand) []byte {
	texts := []string{"", "a", "b", "\"#", "www.example.com", strings.Repeat("\"", r.Intn(300)), strings.Repeat("0", r.Intn(300))}
	text := func() []byte { return refText(texts[r.Intn(len(texts))]) }
	first := []int{64, 0, 16}[r.Intn(3)]
	bits := 4
	if first == 64 {
		bits = 6
	}
	switch r.Intn(12) {
	case 0:
		return refInt(32, 5, anyMost(r))
	case 1, 2, 3:
		return refInt(128, 7, 1+r.Intn(64))
	case 4, 5:
		return block(refInt(first, bits, 1+r.Intn(64)), text())
	case 6:
		return []byte{byte(r.Intn(256))}
	case 7:
		return []byte{byte(32*r.Intn(8) + 31), byte(r.Intn(256)), byte(r.Intn(256)), byte(r.Intn(256))}
	}
	return block(refInt(first, bits, 0), text(), text())
}

func TestP4_6Model(t *testing.T) {
	faults, taken := map[error]int{}, 0
	for seed := range int64(6000) {
		r := rand.New(rand.NewSource(seed))
		limit := anyMost(r)
		d, want := mustDecoder(t, limit), model{most: limit, limit: limit}
		for range 6 {
			var b []byte
			for range r.Intn(6) {
				b = append(b, anyPiece(r)...)
			}
			if len(b) > 0 && r.Intn(10) == 0 {
				b = b[:r.Intn(len(b))]
			}
			l, err := want.decode(b)
			decodes(t, d, b, l, err)
			if d.Len() != len(want.l) {
				t.Fatalf("Decode(%v): Len %d, not %d", b, d.Len(), len(want.l))
			}
			faults[err]++
			taken += len(l)
		}
	}
	for _, err := range []error{nil, api.ErrTable, api.ErrEnd, api.ErrLong, api.ErrHuff, api.ErrIndex, api.ErrGone} {
		if faults[err] < 20 {
			t.Error("only", faults[err], "of", err)
		}
	}
	if taken < 10000 {
		t.Error("only", taken, "headers")
	}
}
