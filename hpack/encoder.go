package hpack

import (
	"parley/api"
	"parley/table"
)

// Encoder writes lists as blocks, for a decoder that is told all of them in order.
type Encoder struct {
	moving *table.Table
	asked  bool // for a size, since the last block
	least  int  // of the sizes that were asked for since then
}

// NewEncoder is an encoder whose table has at most most bytes.
func NewEncoder(most int) (*Encoder, error) {
	t, err := table.New(most)
	if err != nil {
		return nil, err
	}
	return &Encoder{moving: t}, nil
}

// Resize makes the table one of at most most bytes; the next block tells it.
func (e *Encoder) Resize(most int) error {
	if err := e.moving.Resize(most); err != nil {
		return err
	}
	if !e.asked || most < e.least {
		e.least = most
	}
	e.asked = true
	return nil
}

// Encode is the block of l.
func (e *Encoder) Encode(l []api.Header) []byte {
	b := e.appendSizes(nil)
	for _, h := range l {
		b = e.appendHeader(b, h)
	}
	return b
}

// appendSizes tells what Resize asked for. The least size stands there for what it made the table let go.
func (e *Encoder) appendSizes(b []byte) []byte {
	if !e.asked {
		return b
	}
	e.asked = false
	last := e.moving.Most()
	if e.least < last {
		b = appendInt(b, resized, resizedBits, e.least)
	}
	return appendInt(b, resized, resizedBits, last)
}

func (e *Encoder) appendHeader(b []byte, h api.Header) []byte {
	i, ok := e.moving.Find(h.Name, h.Value)
	switch {
	case h.Never:
		return appendNamed(b, never, neverBits, i, h)
	case ok:
		return appendInt(b, indexed, indexedBits, i)
	case table.Size(h) > e.moving.Most():
		return appendNamed(b, plain, plainBits, i, h)
	}
	e.moving.Add(h)
	return appendNamed(b, added, addedBits, i, h)
}

// appendNamed writes h by name and value, its name by index i if that is not 0.
func appendNamed(b []byte, first, bits, i int, h api.Header) []byte {
	b = appendInt(b, first, bits, i)
	if i == 0 {
		b = appendText(b, h.Name)
	}
	return appendText(b, h.Value)
}
