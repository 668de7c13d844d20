package wire

import (
	"iter"

	"parley/api"
)

// Record is a field's number, its kind, and what the kind says: U of WVarint, W64 and W32, B of WBytes and WGroup.
type Record struct {
	Field, Kind int
	U           uint64
	B           []byte
}

// body is what stands behind a record's tag. Its b lies in the bytes that were read: it is copied only where it is handed out, so that groups in one another are not copied once a depth.
type body struct {
	u    uint64
	b    []byte
	size int
}

// A reader reads the body of a record of field that b begins with; depth is how many groups stand around it.
type reader func(b []byte, field, depth int) (body, error)

// readers tells of each kind how its records are read.
func readers() map[int]reader {
	var by map[int]reader
	by = map[int]reader{
		api.WVarint: readVarint,
		api.W64:     fixedReader(8),
		api.WBytes:  readBytes,
		api.WGroup: func(b []byte, field, depth int) (body, error) {
			return readGroup(by, b, field, depth)
		},
		api.WEnd: readEnd,
		api.W32:  fixedReader(4),
	}
	return by
}

func readVarint(b []byte, _, _ int) (body, error) {
	u, size, err := Uvarint(b)
	return body{u: u, size: size}, err
}

func fixedReader(bytes int) reader {
	return func(b []byte, _, _ int) (body, error) {
		u, size, err := Unfixed(b, bytes)
		return body{u: u, size: size}, err
	}
}

func readBytes(b []byte, _, _ int) (body, error) {
	length, size, err := Uvarint(b)
	if err != nil {
		return body{}, err
	}
	rest := b[size:]
	// Held against each other as uint64: a length may be greater than any int.
	if length > uint64(len(rest)) {
		return body{}, api.ErrEnd
	}
	return body{b: rest[:length], size: size + int(length)}, nil
}

// readEnd finds fault with every end that readGroup has not taken as its own.
func readEnd([]byte, int, int) (body, error) {
	return body{}, api.ErrGroup
}

func readGroup(by map[int]reader, b []byte, field, depth int) (body, error) {
	if depth >= api.MaxDepth {
		return body{}, api.ErrDeep
	}
	for at := 0; ; {
		inner, kind, size, err := readTag(b[at:])
		if err != nil {
			return body{}, err
		}
		if kind == api.WEnd && inner == field {
			return body{b: b[:at], size: at + size}, nil
		}
		part, err := by[kind](b[at+size:], inner, depth+1)
		if err != nil {
			return body{}, err
		}
		at += size + part.size
	}
}

// readTag is field and kind of the tag that b begins with, and how many bytes it has.
func readTag(b []byte) (int, int, int, error) {
	u, size, err := Uvarint(b)
	if err != nil {
		return 0, 0, 0, err
	}
	field, kind, err := Untag(u)
	if err != nil {
		return 0, 0, 0, err
	}
	return field, kind, size, nil
}

// next is the record that b begins with, its B still a part of b, and how many bytes it has.
func next(by map[int]reader, b []byte, depth int) (Record, int, error) {
	field, kind, size, err := readTag(b)
	if err != nil {
		return Record{}, 0, err
	}
	part, err := by[kind](b[size:], field, depth)
	if err != nil {
		return Record{}, 0, err
	}
	return Record{Field: field, Kind: kind, U: part.u, B: part.b}, size + part.size, nil
}

// Next is the record that b begins with, and how many bytes it has.
func Next(b []byte) (Record, int, error) {
	r, size, err := next(readers(), b, 0)
	if err != nil {
		return Record{}, 0, err
	}
	r.B = fresh(r.B, 0)
	return r, size, nil
}

// Put is b, and behind it r as bytes.
func Put(b []byte, r Record) ([]byte, error) {
	tag, err := Tag(r.Field, r.Kind)
	if err != nil {
		return nil, err
	}
	switch r.Kind {
	case api.WVarint:
		b = fresh(b, Size(tag)+Size(r.U))
		return appendVarint(appendVarint(b, tag), r.U), nil
	case api.W64:
		b = fresh(b, Size(tag)+8)
		return appendFixed(appendVarint(b, tag), r.U, 8), nil
	case api.W32:
		b = fresh(b, Size(tag)+4)
		return appendFixed(appendVarint(b, tag), r.U, 4), nil
	case api.WBytes:
		length := uint64(len(r.B))
		b = fresh(b, Size(tag)+Size(length)+len(r.B))
		return append(appendVarint(appendVarint(b, tag), length), r.B...), nil
	case api.WGroup:
		return putGroup(b, tag, r)
	}
	return nil, api.ErrGroup
}

func putGroup(b []byte, tag uint64, r Record) ([]byte, error) {
	// At depth 1, as inside the group that is to stand around them.
	if _, err := faultOf(r.B, 1); err != nil {
		return nil, api.ErrGroup
	}
	end, err := Tag(r.Field, api.WEnd)
	if err != nil {
		return nil, err
	}
	b = fresh(b, Size(tag)+len(r.B)+Size(end))
	b = append(appendVarint(b, tag), r.B...)
	return appendVarint(b, end), nil
}

// faultOf is the place of the first record of b that has an error, and the error; depth is how many groups stand around b.
func faultOf(b []byte, depth int) (int, error) {
	by := readers()
	for at := 0; at < len(b); {
		_, size, err := next(by, b[at:], depth)
		if err != nil {
			return at, err
		}
		at += size
	}
	return 0, nil
}

// Records yields the records of b with their places, up to the first that has an error.
func Records(b []byte) iter.Seq2[int, Record] {
	// The caller may write into b between the call and a walk, or between two walks: all of them are to show the same.
	kept := fresh(b, 0)
	return func(yield func(int, Record) bool) {
		by := readers()
		for at := 0; at < len(kept); {
			r, size, err := next(by, kept[at:], 0)
			if err != nil {
				return
			}
			r.B = fresh(r.B, 0)
			if !yield(at, r) {
				return
			}
			at += size
		}
	}
}

// Check is nil if b is records and nothing else; else the error of the first record that has one, with its place.
func Check(b []byte) error {
	if at, err := faultOf(b, 0); err != nil {
		return &api.At{Pos: at, Err: err}
	}
	return nil
}
