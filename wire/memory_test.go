package wire_test

import (
	"bytes"
	"testing"

	"parley/api"
	"parley/wire"
)

// guarded is a copy of b with bytes behind its length, in the same memory, and a call that tells whether anything there was changed.
func guarded(t *testing.T, b []byte) ([]byte, func(what string)) {
	t.Helper()
	memory := append(bytes.Clone(b), bytes.Repeat([]byte{1}, 40)...)
	want := bytes.Clone(memory)
	return memory[:len(b)], func(what string) {
		t.Helper()
		if !bytes.Equal(memory, want) {
			t.Errorf("%s changed what was handed in: %v, not %v", what, memory, want)
		}
	}
}

// spoil writes over b, its spare room too.
func spoil(b []byte) {
	b = b[:cap(b)]
	for i := range b {
		b[i] = 0xEE
	}
}

// writers is every call that answers b with something behind it.
func writers(group []byte) map[string]func(b []byte) []byte {
	put := func(r wire.Record) func(b []byte) []byte {
		return func(b []byte) []byte {
			b, _ = wire.Put(b, r)
			return b
		}
	}
	return map[string]func(b []byte) []byte{
		"Varint":         func(b []byte) []byte { return wire.Varint(b, 300) },
		"Fixed of 4":     func(b []byte) []byte { return wire.Fixed(b, 258, 4) },
		"Fixed of 8":     func(b []byte) []byte { return wire.Fixed(b, 258, 8) },
		"Fixed of 3":     func(b []byte) []byte { return wire.Fixed(b, 258, 3) },
		"Put of WVarint": put(wire.Record{Field: 1, U: 5}),
		"Put of W64":     put(wire.Record{Field: 1, Kind: api.W64, U: 5}),
		"Put of W32":     put(wire.Record{Field: 1, Kind: api.W32, U: 5}),
		"Put of WBytes":  put(wire.Record{Field: 1, Kind: api.WBytes, B: group}),
		"Put of WGroup":  put(wire.Record{Field: 1, Kind: api.WGroup, B: group}),
	}
}

func TestP1_9WritersAnswerNewMemory(t *testing.T) {
	group, groupUnchanged := guarded(t, []byte{8, 1})
	for name, write := range writers(group) {
		for _, given := range [][]byte{nil, {9}, {9, 8, 7}} {
			b, unchanged := guarded(t, given)
			one := write(b)
			want := bytes.Clone(one)
			unchanged(name)
			groupUnchanged(name)
			two := write(b)
			spoil(two)
			unchanged(name + ", its answer written over,")
			groupUnchanged(name + ", its answer written over,")
			if !bytes.Equal(one, want) {
				t.Errorf("%s: one answer shows what was written into another: %v, not %v", name, one, want)
			}
			spoil(b)
			if !bytes.Equal(one, want) {
				t.Errorf("%s: the answer shows what was written into b: %v, not %v", name, one, want)
			}
		}
	}
	kept, _ := wire.Put(nil, wire.Record{Field: 1, Kind: api.WGroup, B: group})
	spoil(group)
	if !bytes.Equal(kept, []byte{11, 8, 1, 12}) {
		t.Error("Put keeps the record's B:", kept)
	}
}

func TestP1_9PutOfItself(t *testing.T) {
	b := []byte{8, 1}
	if got, err := wire.Put(b, wire.Record{Field: 1, Kind: api.WGroup, B: b}); !bytes.Equal(got, []byte{8, 1, 11, 8, 1, 12}) || err != nil {
		t.Error("Put:", got, err)
	}
}

// sample is records of each kind, with lists in the lists.
func sample() []byte {
	return []byte{8, 1, 18, 2, 65, 66, 11, 18, 1, 67, 12, 18, 0, 13, 1, 2, 3, 4, 18, 1, 68, 9, 1, 2, 3, 4, 5, 6, 7, 8}
}

func TestP1_9NextAnswersNewMemory(t *testing.T) {
	for _, given := range [][]byte{{18, 2, 65, 66, 9}, {11, 8, 1, 12, 9}} {
		b, unchanged := guarded(t, given)
		one, _, _ := wire.Next(b)
		want := bytes.Clone(one.B)
		two, _, _ := wire.Next(b)
		spoil(two.B)
		unchanged("Next")
		if !bytes.Equal(one.B, want) {
			t.Error("Next: one B shows what was written into another:", one.B)
		}
		spoil(b)
		if !bytes.Equal(one.B, want) {
			t.Error("Next: B shows what was written into b:", one.B)
		}
	}
}

func TestP1_9RecordsAnswersNewMemory(t *testing.T) {
	want := all(sample())
	if len(want) != 7 {
		t.Fatal("Records:", want)
	}
	b, unchanged := guarded(t, sample())
	seq := wire.Records(b)
	for range 2 {
		i := 0
		for at, r := range seq {
			if at != want[i].at || !same(r, want[i].r) {
				t.Error("Records shows what was written into an answer:", at, r)
			}
			spoil(r.B)
			i++
		}
		unchanged("Records")
		if i != len(want) {
			t.Error("Records:", i)
		}
	}
	// What is written into b later, between walks or within one, is not seen: b is not kept.
	spoil(b)
	i := 0
	for at, r := range seq {
		if i < len(want) && (at != want[i].at || !same(r, want[i].r)) {
			t.Error("Records shows what was written into b:", at, r)
		}
		i++
	}
	if i != len(want) {
		t.Error("Records keeps b:", i)
	}
}

func TestP1_9RecordsSideBySide(t *testing.T) {
	want := all(sample())
	for spoiled := range want {
		l := all(sample())
		spoil(l[spoiled].r.B)
		l[spoiled].r.B = want[spoiled].r.B
		if !samePlaced(l, want) {
			t.Error("Records: what was written into record", spoiled, "is seen in another:", l)
		}
	}
}

func TestP1_9ReadersChangeNothing(t *testing.T) {
	for _, given := range [][]byte{nil, {128}, {8, 128}, {18, 2, 65}, {11, 8}, {13, 1, 2, 3}, {0xC3}, sample()} {
		b, unchanged := guarded(t, given)
		wire.Uvarint(b)
		wire.Unfixed(b, 4)
		wire.Unfixed(b, 8)
		wire.Next(b)
		wire.Check(b)
		wire.Text(b)
		for range wire.Records(b) {
		}
		unchanged("a reader")
	}
}

func TestP1_9NothingBehindIsRead(t *testing.T) {
	// Behind each length stands what would make it whole.
	behind := func(b ...byte) []byte { return b[:len(b)-1] }
	if _, _, err := wire.Uvarint(behind(128, 1)); err != api.ErrEnd {
		t.Error("Uvarint:", err)
	}
	if _, _, err := wire.Unfixed(behind(1, 2, 3, 4), 4); err != api.ErrEnd {
		t.Error("Unfixed:", err)
	}
	for _, b := range [][]byte{behind(8, 1), behind(13, 1, 2, 3, 4), behind(18, 1, 65), behind(11, 8, 1, 12), behind(9, 1, 2, 3, 4, 5, 6, 7, 8)} {
		if r, n, err := wire.Next(b); n != 0 || err != api.ErrEnd {
			t.Error("Next:", b, r, n, err)
		}
		if l := all(b); len(l) != 0 {
			t.Error("Records:", l)
		}
		if e, ok := wire.Check(b).(*api.At); !ok || *e != (api.At{Err: api.ErrEnd}) {
			t.Error("Check:", e)
		}
	}
	if wire.Text(behind(0xC3, 0xA9)) {
		t.Error("Text")
	}
	if b, err := wire.Put(nil, wire.Record{Field: 1, Kind: api.WGroup, B: behind(8, 1)}); len(b) != 0 || err != api.ErrGroup {
		t.Error("Put:", b, err)
	}
}
