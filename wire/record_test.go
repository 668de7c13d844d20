package wire_test

import (
	"bytes"
	"errors"
	"math/rand"
	"testing"

	"parley/api"
	"parley/wire"
)

// nested is n groups of field 1 in one another.
func nested(n int) []byte {
	return append(bytes.Repeat([]byte{11}, n), bytes.Repeat([]byte{12}, n)...)
}

func join(parts ...[]byte) []byte {
	return bytes.Join(parts, nil)
}

func same(a, b wire.Record) bool {
	return a.Field == b.Field && a.Kind == b.Kind && a.U == b.U && bytes.Equal(a.B, b.B)
}

func TestP1_5Next(t *testing.T) {
	for _, x := range []struct {
		b    []byte
		want wire.Record
		size int
	}{
		{[]byte{8, 150, 1}, wire.Record{Field: 1, U: 150}, 3},
		{[]byte{8, 0}, wire.Record{Field: 1}, 2},
		{append([]byte{8}, runOf(9, 255, 1, 9)...), wire.Record{Field: 1, U: 1<<64 - 1}, 11},
		{[]byte{9, 1, 2, 3, 4, 5, 6, 7, 8, 9}, wire.Record{Field: 1, Kind: api.W64, U: 0x0807060504030201}, 9},
		{[]byte{13, 1, 2, 3, 4, 5}, wire.Record{Field: 1, Kind: api.W32, U: 0x04030201}, 5},
		{[]byte{13, 255, 255, 255, 255}, wire.Record{Field: 1, Kind: api.W32, U: 1<<32 - 1}, 5},
		{[]byte{18, 2, 65, 66, 9}, wire.Record{Field: 2, Kind: api.WBytes, B: []byte("AB")}, 4},
		{[]byte{18, 0, 7}, wire.Record{Field: 2, Kind: api.WBytes}, 2},
		{[]byte{18, 0}, wire.Record{Field: 2, Kind: api.WBytes}, 2},
		{[]byte{11, 8, 1, 12}, wire.Record{Field: 1, Kind: api.WGroup, B: []byte{8, 1}}, 4},
		{[]byte{11, 12, 12}, wire.Record{Field: 1, Kind: api.WGroup}, 2},
		{[]byte{11, 19, 20, 12, 0}, wire.Record{Field: 1, Kind: api.WGroup, B: []byte{19, 20}}, 4},
		{[]byte{11, 11, 12, 12, 0}, wire.Record{Field: 1, Kind: api.WGroup, B: []byte{11, 12}}, 4},
		// The byte of an end within a text of the group is none.
		{[]byte{11, 18, 1, 12, 12}, wire.Record{Field: 1, Kind: api.WGroup, B: []byte{18, 1, 12}}, 5},
		// More bytes than needed: of a tag, of a length, of an end.
		{[]byte{136, 0, 129, 0}, wire.Record{Field: 1, U: 1}, 4},
		{[]byte{18, 129, 128, 0, 65}, wire.Record{Field: 2, Kind: api.WBytes, B: []byte("A")}, 5},
		{[]byte{139, 0, 8, 1, 140, 128, 0, 5}, wire.Record{Field: 1, Kind: api.WGroup, B: []byte{8, 1}}, 7},
		{[]byte{248, 255, 255, 255, 15, 3}, wire.Record{Field: api.MaxNumber, U: 3}, 6},
		{nested(api.MaxDepth), wire.Record{Field: 1, Kind: api.WGroup, B: nested(api.MaxDepth - 1)}, 2 * api.MaxDepth},
		{join(nested(api.MaxDepth), []byte{0}), wire.Record{Field: 1, Kind: api.WGroup, B: nested(api.MaxDepth - 1)}, 2 * api.MaxDepth},
	} {
		if r, n, err := wire.Next(x.b); !same(r, x.want) || n != x.size || err != nil {
			t.Errorf("Next(%v) = %v, %d, %v, not %v, %d", x.b, r, n, err, x.want, x.size)
		}
	}
}

func TestP1_5NextErrors(t *testing.T) {
	for _, x := range []struct {
		b   []byte
		err error
	}{
		// Of the tag.
		{nil, api.ErrEnd},
		{[]byte{128}, api.ErrEnd},
		{runOf(9, 136), api.ErrEnd},
		{runOf(10, 136), api.ErrLong},
		{runOf(9, 136, 2), api.ErrLong},
		{[]byte{0}, api.ErrTag},
		{[]byte{5, 1, 2, 3, 4}, api.ErrTag},
		{[]byte{14, 1}, api.ErrTag},
		{[]byte{15, 1}, api.ErrTag},
		{[]byte{128, 128, 128, 128, 16, 1}, api.ErrTag},
		{runOf(9, 255, 1), api.ErrTag},
		// Of what the kinds say.
		{[]byte{8}, api.ErrEnd},
		{[]byte{8, 128}, api.ErrEnd},
		{append([]byte{8}, runOf(10, 128)...), api.ErrLong},
		{append([]byte{8}, runOf(9, 255, 2)...), api.ErrLong},
		{[]byte{9}, api.ErrEnd},
		{[]byte{9, 1, 2, 3, 4, 5, 6, 7}, api.ErrEnd},
		{[]byte{13}, api.ErrEnd},
		{[]byte{13, 1, 2}, api.ErrEnd},
		{[]byte{13, 1, 2, 3}, api.ErrEnd},
		{[]byte{18}, api.ErrEnd},
		{[]byte{18, 1}, api.ErrEnd},
		{[]byte{18, 3, 65}, api.ErrEnd},
		{[]byte{18, 131, 0, 65, 65}, api.ErrEnd},
		{append([]byte{18}, runOf(9, 255, 1, 65)...), api.ErrEnd},
		{append([]byte{18}, runOf(9, 128, 1, 65)...), api.ErrEnd},
		{append([]byte{18}, runOf(8, 255, 127, 65)...), api.ErrEnd},
		{append([]byte{18}, runOf(10, 128)...), api.ErrLong},
		{append([]byte{18}, runOf(9, 255, 2)...), api.ErrLong},
		// Of ends.
		{[]byte{12}, api.ErrGroup},
		{[]byte{12, 0}, api.ErrGroup},
		{[]byte{11, 20}, api.ErrGroup},
		{[]byte{11, 20, 12}, api.ErrGroup},
		{[]byte{11, 19, 12, 20}, api.ErrGroup},
		{[]byte{11}, api.ErrEnd},
		{[]byte{11, 8, 1}, api.ErrEnd},
		{[]byte{11, 19, 20}, api.ErrEnd},
		{[]byte{11, 11, 12}, api.ErrEnd},
		{[]byte{11, 140}, api.ErrEnd},
		{[]byte{11, 18, 2, 12}, api.ErrEnd},
		// Within groups, likewise.
		{[]byte{11, 6, 12}, api.ErrTag},
		{[]byte{11, 0, 12}, api.ErrTag},
		{join([]byte{11}, runOf(10, 136), []byte{12}), api.ErrLong},
		{join([]byte{11, 8}, runOf(10, 136), []byte{12}), api.ErrLong},
		{join([]byte{11, 18}, runOf(9, 255, 2), []byte{12}), api.ErrLong},
		{[]byte{11, 13, 1, 2, 12}, api.ErrEnd},
		// Of depths.
		{nested(api.MaxDepth + 1), api.ErrDeep},
		{nested(api.MaxDepth + 1)[:api.MaxDepth+1], api.ErrDeep},
		{nested(api.MaxDepth + 1)[:api.MaxDepth], api.ErrEnd},
		{nested(5000), api.ErrDeep},
		{bytes.Repeat([]byte{11}, 100000), api.ErrDeep},
		// The first that is met is told.
		{join(bytes.Repeat([]byte{11}, api.MaxDepth), []byte{20}, nested(3)), api.ErrGroup},
		{join(bytes.Repeat([]byte{11}, api.MaxDepth), []byte{6}, nested(3)), api.ErrTag},
		{[]byte{11, 20, 0}, api.ErrGroup},
		{[]byte{11, 0, 20}, api.ErrTag},
		{[]byte{11, 8, 1, 16, 2, 20}, api.ErrGroup},
	} {
		if r, n, err := wire.Next(x.b); !same(r, wire.Record{}) || n != 0 || err != x.err {
			t.Errorf("Next(%v) = %v, %d, %v, not %v", x.b, r, n, err, x.err)
		}
	}
}

func TestP1_5DepthIsNotCount(t *testing.T) {
	// Groups beside one another are not in one another.
	beside := bytes.Repeat([]byte{19, 20}, 3*api.MaxDepth)
	b := join([]byte{11}, beside, []byte{12})
	if r, n, err := wire.Next(b); !bytes.Equal(r.B, beside) || n != len(b) || err != nil {
		t.Error("Next:", r, n, err)
	}
	if err := wire.Check(beside); err != nil {
		t.Error("Check:", err)
	}
}

func TestP1_6Put(t *testing.T) {
	many := bytes.Repeat([]byte{'x'}, 300)
	for _, x := range []struct {
		r    wire.Record
		want []byte
	}{
		{wire.Record{Field: 1, U: 150}, []byte{8, 150, 1}},
		{wire.Record{Field: 1, U: 1<<64 - 1}, append([]byte{8}, runOf(9, 255, 1)...)},
		{wire.Record{Field: api.MaxNumber, U: 3}, []byte{248, 255, 255, 255, 15, 3}},
		{wire.Record{Field: 1, Kind: api.W64, U: 258}, []byte{9, 2, 1, 0, 0, 0, 0, 0, 0}},
		{wire.Record{Field: 1, Kind: api.W32, U: 258}, []byte{13, 2, 1, 0, 0}},
		{wire.Record{Field: 1, Kind: api.W32, U: 1<<40 | 5}, []byte{13, 5, 0, 0, 0}},
		{wire.Record{Field: 1, Kind: api.W32, U: 1<<64 - 1}, []byte{13, 255, 255, 255, 255}},
		{wire.Record{Field: 2, Kind: api.WBytes, B: []byte("AB")}, []byte{18, 2, 65, 66}},
		{wire.Record{Field: 2, Kind: api.WBytes}, []byte{18, 0}},
		{wire.Record{Field: 2, Kind: api.WBytes, B: many}, join([]byte{18, 172, 2}, many)},
		{wire.Record{Field: 1, Kind: api.WGroup, B: []byte{8, 1}}, []byte{11, 8, 1, 12}},
		{wire.Record{Field: 16, Kind: api.WGroup}, []byte{131, 1, 132, 1}},
		// A group's bytes stay as they are, more bytes than needed and all.
		{wire.Record{Field: 1, Kind: api.WGroup, B: []byte{136, 0, 129, 0}}, []byte{11, 136, 0, 129, 0, 12}},
		{wire.Record{Field: 1, Kind: api.WGroup, B: nested(api.MaxDepth - 1)}, nested(api.MaxDepth)},
		// What the kind does not have is not looked at.
		{wire.Record{Field: 1, U: 1, B: []byte{6}}, []byte{8, 1}},
		{wire.Record{Field: 1, Kind: api.W64, U: 1, B: []byte{6}}, []byte{9, 1, 0, 0, 0, 0, 0, 0, 0}},
		{wire.Record{Field: 1, Kind: api.W32, U: 1, B: []byte{6}}, []byte{13, 1, 0, 0, 0}},
		{wire.Record{Field: 1, Kind: api.WBytes, U: 99, B: []byte{6}}, []byte{10, 1, 6}},
		{wire.Record{Field: 1, Kind: api.WGroup, U: 99, B: []byte{8, 6}}, []byte{11, 8, 6, 12}},
	} {
		if b, err := wire.Put(nil, x.r); !bytes.Equal(b, x.want) || err != nil {
			t.Errorf("Put(none, %v) = %v, %v, not %v", x.r, b, err, x.want)
		}
		// What stands ahead need not be records.
		if b, err := wire.Put([]byte{7, 128}, x.r); !bytes.Equal(b, join([]byte{7, 128}, x.want)) || err != nil {
			t.Errorf("Put(7 128, %v) = %v, %v", x.r, b, err)
		}
	}
}

func TestP1_6PutErrors(t *testing.T) {
	for _, x := range []struct {
		r   wire.Record
		err error
	}{
		{wire.Record{}, api.ErrTag},
		{wire.Record{Field: -1}, api.ErrTag},
		{wire.Record{Field: api.MaxNumber + 1}, api.ErrTag},
		{wire.Record{Field: 1, Kind: -1}, api.ErrTag},
		{wire.Record{Field: 1, Kind: 6}, api.ErrTag},
		{wire.Record{Field: 1, Kind: 8}, api.ErrTag},
		// Tag's error is told ahead of ErrGroup.
		{wire.Record{Field: 0, Kind: api.WEnd}, api.ErrTag},
		{wire.Record{Field: api.MaxNumber + 1, Kind: api.WGroup, B: []byte{8}}, api.ErrTag},
		{wire.Record{Field: 1, Kind: api.WEnd}, api.ErrGroup},
		{wire.Record{Field: 1, Kind: api.WEnd, U: 1, B: []byte{8, 1}}, api.ErrGroup},
		{wire.Record{Field: 1, Kind: api.WGroup, B: []byte{8}}, api.ErrGroup},
		{wire.Record{Field: 1, Kind: api.WGroup, B: []byte{12}}, api.ErrGroup},
		{wire.Record{Field: 1, Kind: api.WGroup, B: []byte{8, 1, 12, 11, 8, 1}}, api.ErrGroup},
		{wire.Record{Field: 1, Kind: api.WGroup, B: []byte{0}}, api.ErrGroup},
		{wire.Record{Field: 1, Kind: api.WGroup, B: runOf(10, 128)}, api.ErrGroup},
		{wire.Record{Field: 1, Kind: api.WGroup, B: nested(api.MaxDepth)}, api.ErrGroup},
		{wire.Record{Field: 1, Kind: api.WGroup, B: join([]byte{8, 1}, nested(api.MaxDepth))}, api.ErrGroup},
		{wire.Record{Field: 1, Kind: api.WGroup, B: nested(api.MaxDepth + 1)}, api.ErrGroup},
	} {
		if b, err := wire.Put([]byte{8, 1}, x.r); len(b) != 0 || err != x.err {
			t.Errorf("Put(8 1, %v) = %v, %v, not %v", x.r, b, err, x.err)
		}
	}
}

// placed is a record and its place.
type placed struct {
	at int
	r  wire.Record
}

func all(b []byte) []placed {
	var l []placed
	for at, r := range wire.Records(b) {
		l = append(l, placed{at, r})
	}
	return l
}

func samePlaced(a, b []placed) bool {
	if len(a) != len(b) {
		return false
	}
	for i := range a {
		if a[i].at != b[i].at || !same(a[i].r, b[i].r) {
			return false
		}
	}
	return true
}

func TestP1_7Records(t *testing.T) {
	one := placed{0, wire.Record{Field: 1, U: 1}}
	for _, x := range []struct {
		b    []byte
		want []placed
	}{
		{nil, nil},
		{[]byte{6}, nil},
		{[]byte{8, 1}, []placed{one}},
		{[]byte{8, 1, 8}, []placed{one}},
		{[]byte{8, 1, 12, 8, 1}, []placed{one}},
		{[]byte{8, 1, 6, 8, 1}, []placed{one}},
		{
			[]byte{8, 1, 18, 1, 65, 13, 1, 0, 0, 0, 11, 8, 1, 12, 9, 2, 0, 0, 0, 0, 0, 0, 0},
			[]placed{
				one,
				{2, wire.Record{Field: 2, Kind: api.WBytes, B: []byte("A")}},
				{5, wire.Record{Field: 1, Kind: api.W32, U: 1}},
				{10, wire.Record{Field: 1, Kind: api.WGroup, B: []byte{8, 1}}},
				{14, wire.Record{Field: 1, Kind: api.W64, U: 2}},
			},
		},
		{join([]byte{8, 1}, nested(api.MaxDepth+1), []byte{8, 1}), []placed{one}},
		{join([]byte{8, 1}, nested(api.MaxDepth)), []placed{one, {2, wire.Record{Field: 1, Kind: api.WGroup, B: nested(api.MaxDepth - 1)}}}},
	} {
		if l := all(x.b); !samePlaced(l, x.want) {
			t.Errorf("Records(%v) = %v, not %v", x.b, l, x.want)
		}
	}
}

func TestP1_7RecordsAgain(t *testing.T) {
	b := []byte{8, 1, 18, 1, 65, 8, 3, 6}
	seq := wire.Records(b)
	want := all(b)
	if len(want) != 3 {
		t.Fatal("Records:", want)
	}
	for stop := 0; stop <= len(want); stop++ {
		var l []placed
		seq(func(at int, r wire.Record) bool {
			l = append(l, placed{at, r})
			if stop > 0 && len(l) > stop {
				t.Error("called after it was left, at", at)
			}
			return len(l) != stop
		})
		if stop > 0 && !samePlaced(l, want[:stop]) || stop == 0 && !samePlaced(l, want) {
			t.Error("left after", stop, ":", l)
		}
	}
	// A walk within a walk: each begins at the beginning.
	count := 0
	for range seq {
		for range seq {
			count++
		}
	}
	if count != 9 {
		t.Error("a walk within a walk:", count)
	}
}

func TestP1_7Check(t *testing.T) {
	for _, x := range []struct {
		b   []byte
		at  int
		err error
	}{
		{nil, 0, nil},
		{[]byte{}, 0, nil},
		{[]byte{8, 1}, 0, nil},
		{[]byte{8, 1, 11, 12}, 0, nil},
		{[]byte{8, 1, 18, 1, 65, 11, 8, 1, 12}, 0, nil},
		{nested(api.MaxDepth), 0, nil},
		{[]byte{8}, 0, api.ErrEnd},
		{[]byte{12}, 0, api.ErrGroup},
		{[]byte{8, 1, 8}, 2, api.ErrEnd},
		{[]byte{8, 1, 0, 8}, 2, api.ErrTag},
		{join([]byte{8, 1, 8, 2}, runOf(10, 128)), 4, api.ErrLong},
		{[]byte{8, 1, 18, 2, 65}, 2, api.ErrEnd},
		// The place is that of the outermost record, not of the one within.
		{[]byte{8, 1, 11, 8, 1, 6, 12}, 2, api.ErrTag},
		{[]byte{8, 1, 11, 8, 1, 20}, 2, api.ErrGroup},
		{[]byte{8, 1, 12}, 2, api.ErrGroup},
		{join([]byte{16, 1, 16, 1}, nested(api.MaxDepth+1)), 4, api.ErrDeep},
	} {
		err := wire.Check(x.b)
		if x.err == nil {
			if err != nil {
				t.Errorf("Check(%v) = %v", x.b, err)
			}
			continue
		}
		at, ok := err.(*api.At)
		if !ok || at.Pos != x.at || at.Err != x.err || !errors.Is(err, x.err) {
			t.Errorf("Check(%v) = %v, not At %d: %v", x.b, err, x.at, x.err)
		}
	}
}

// someRecord is a record that may be put, with at most depth groups in one another.
func someRecord(r *rand.Rand, depth int) wire.Record {
	fields := []int{1, 2, 15, 16, 2047, 2048, api.MaxNumber}
	x := wire.Record{Field: fields[r.Intn(len(fields))]}
	x.Kind = []int{api.WVarint, api.W64, api.WBytes, api.W32, api.WGroup}[r.Intn(5)]
	if x.Kind == api.WGroup && depth == 0 {
		x.Kind = api.WBytes
	}
	switch x.Kind {
	case api.WVarint, api.W64:
		x.U = r.Uint64() >> r.Intn(64)
	case api.W32:
		x.U = uint64(r.Uint32())
	case api.WBytes:
		x.B = make([]byte, r.Intn(5)*r.Intn(60))
		r.Read(x.B)
	case api.WGroup:
		for range r.Intn(4) {
			x.B, _ = wire.Put(x.B, someRecord(r, depth-1))
		}
	}
	return x
}

func TestP1_10RecordsThereAndBack(t *testing.T) {
	r := rand.New(rand.NewSource(2))
	for range 2000 {
		var b []byte
		var put []placed
		for range r.Intn(6) {
			x := someRecord(r, 4)
			one, err := wire.Put(nil, x)
			if err != nil {
				t.Fatalf("Put(none, %v): %v", x, err)
			}
			for _, behind := range [][]byte{nil, {0}, {12}, {255}, runOf(12, 128)} {
				if y, n, err := wire.Next(join(one, behind)); !same(x, y) || n != len(one) || err != nil {
					t.Fatalf("Next(Put(%v) %v) = %v, %d, %v", x, behind, y, n, err)
				}
			}
			put = append(put, placed{len(b), x})
			b = append(b, one...)
		}
		if err := wire.Check(b); err != nil {
			t.Fatalf("Check(%v): %v", b, err)
		}
		if l := all(b); !samePlaced(l, put) {
			t.Fatalf("Records(%v) = %v, not %v", b, l, put)
		}
	}
}

// slowNext reads a record as P1.5 says it, by a list of the groups that are open.
func slowNext(b []byte) (wire.Record, int, error) {
	none := wire.Record{}
	var open []int
	first, inner, at := none, 0, 0
	for {
		begin := at
		u, n, err := wire.Uvarint(b[at:])
		if err != nil {
			return none, 0, err
		}
		field, kind, err := wire.Untag(u)
		if err != nil {
			return none, 0, err
		}
		at += n
		x := wire.Record{Field: field, Kind: kind}
		switch kind {
		case api.WVarint:
			if x.U, n, err = wire.Uvarint(b[at:]); err != nil {
				return none, 0, err
			}
			at += n
		case api.W64, api.W32:
			size := 8
			if kind == api.W32 {
				size = 4
			}
			if x.U, n, err = wire.Unfixed(b[at:], size); err != nil {
				return none, 0, err
			}
			at += n
		case api.WBytes:
			u, n, err := wire.Uvarint(b[at:])
			if err != nil {
				return none, 0, err
			}
			at += n
			for ; u > 0; u-- {
				if at == len(b) {
					return none, 0, api.ErrEnd
				}
				x.B = append(x.B, b[at])
				at++
			}
		case api.WGroup:
			if len(open) == api.MaxDepth {
				return none, 0, api.ErrDeep
			}
			if len(open) == 0 {
				inner = at
			}
			open = append(open, field)
		case api.WEnd:
			if len(open) == 0 || open[len(open)-1] != field {
				return none, 0, api.ErrGroup
			}
			open = open[:len(open)-1]
			if len(open) == 0 {
				first.B = b[inner:begin]
			}
		}
		if begin == 0 {
			first = x
		}
		if len(open) == 0 {
			return first, at, nil
		}
	}
}

// someBytes tries every short list of telling bytes, and long ones by a fixed rule.
func someBytes(try func(b []byte)) {
	telling := []byte{0, 1, 2, 8, 10, 11, 12, 13, 19, 20, 128}
	var b [5]byte
	var extend func(n int)
	extend = func(n int) {
		try(b[:n])
		if n == len(b) {
			return
		}
		for _, c := range telling {
			b[n] = c
			extend(n + 1)
		}
	}
	extend(0)
	r := rand.New(rand.NewSource(3))
	for range 50000 {
		long := make([]byte, r.Intn(90))
		for i := range long {
			long[i] = telling[r.Intn(len(telling))]
			if r.Intn(8) == 0 {
				long[i] = byte(r.Intn(256))
			}
		}
		try(long)
	}
}

func TestP1_5NextOfAnyBytes(t *testing.T) {
	someBytes(func(b []byte) {
		want, size, fault := slowNext(b)
		if r, n, err := wire.Next(b); !same(r, want) || n != size || err != fault {
			t.Fatalf("Next(%v) = %v, %d, %v, not %v, %d, %v", b, r, n, err, want, size, fault)
		}
	})
}

func TestP1_7RecordsOfAnyBytes(t *testing.T) {
	someBytes(func(b []byte) {
		var want []placed
		var fault error
		at := 0
		for at < len(b) && fault == nil {
			r, n, err := slowNext(b[at:])
			if fault = err; err == nil {
				want = append(want, placed{at, r})
				at += n
			}
		}
		if l := all(b); !samePlaced(l, want) {
			t.Fatalf("Records(%v) = %v, not %v", b, l, want)
		}
		err := wire.Check(b)
		if fault == nil && err == nil {
			return
		}
		if e, ok := err.(*api.At); !ok || fault == nil || *e != (api.At{Pos: at, Err: fault}) {
			t.Fatalf("Check(%v) = %v, not %v at %d", b, err, fault, at)
		}
	})
}

func TestP1_11PutAgain(t *testing.T) {
	var taken [][]byte
	shorter := 0
	someBytes(func(b []byte) {
		r, n, err := wire.Next(b)
		if err == nil {
			again, err := wire.Put(nil, r)
			if err != nil || len(again) > n {
				t.Fatalf("Put(none, %v) = %v, %v, of %d bytes", r, again, err, n)
			}
			if x, m, err := wire.Next(again); !same(x, r) || m != len(again) || err != nil {
				t.Fatalf("Next(%v) = %v, %d, %v, not %v", again, x, m, err, r)
			}
			if len(again) < n {
				shorter++
			}
		}
		if len(taken) < 400 && len(b) > 1 && wire.Check(b) == nil {
			taken = append(taken, bytes.Clone(b))
		}
	})
	if shorter == 0 || len(taken) < 400 {
		t.Error("too few were tried:", shorter, len(taken))
	}
	for _, a := range taken {
		for _, b := range taken {
			if err := wire.Check(join(a, b)); err != nil {
				t.Fatalf("Check(%v %v): %v", a, b, err)
			}
		}
	}
}
