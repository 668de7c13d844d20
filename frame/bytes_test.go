package frame_test

import (
	"bytes"
	"slices"
	"testing"

	"parley/api"
	"parley/frame"
)

// placed is a frame and the place of its first byte.
type placed struct {
	at int
	f  api.Frame
}

func all(b []byte, most int) []placed {
	var l []placed
	for at, f := range frame.Frames(b, most) {
		l = append(l, placed{at, f})
	}
	return l
}

func sameFrame(a, b api.Frame) bool {
	return a.Type == b.Type && a.Flags == b.Flags && a.Stream == b.Stream && bytes.Equal(a.Payload, b.Payload)
}

func samePlaced(a, b []placed) bool {
	return slices.EqualFunc(a, b, func(x, y placed) bool { return x.at == y.at && sameFrame(x.f, y.f) })
}

func join(parts ...[]byte) []byte {
	return bytes.Join(parts, nil)
}

func TestP5_1Put(t *testing.T) {
	for _, x := range []struct {
		f    api.Frame
		want []byte
	}{
		{api.Frame{Type: api.FPing, Flags: api.FlagAck, Payload: []byte{1, 2, 3, 4, 5, 6, 7, 8}}, []byte{0, 0, 8, 6, 1, 0, 0, 0, 0, 1, 2, 3, 4, 5, 6, 7, 8}},
		{api.Frame{}, make([]byte, 9)},
		{api.Frame{Payload: []byte{}}, make([]byte, 9)},
		{api.Frame{Type: 255, Flags: 255, Stream: api.MaxStream}, []byte{0, 0, 0, 255, 255, 127, 255, 255, 255}},
		{api.Frame{Type: 1, Flags: 2, Stream: 0x03040506, Payload: []byte{7}}, []byte{0, 0, 1, 1, 2, 3, 4, 5, 6, 7}},
		{api.Frame{Stream: 1, Payload: make([]byte, 0x0102)}, join([]byte{0, 1, 2, 0, 0, 0, 0, 0, 1}, make([]byte, 0x0102))},
		{api.Frame{Stream: 1, Payload: make([]byte, 0x010203)}, join([]byte{1, 2, 3, 0, 0, 0, 0, 0, 1}, make([]byte, 0x010203))},
		{api.Frame{Stream: 1, Payload: make([]byte, 1<<24-1)}, join([]byte{255, 255, 255, 0, 0, 0, 0, 0, 1}, make([]byte, 1<<24-1))},
		// What it says is not looked at.
		{api.Frame{Type: api.FReset, Payload: []byte{1}}, []byte{0, 0, 1, 3, 0, 0, 0, 0, 0, 1}},
	} {
		for _, ahead := range [][]byte{nil, {9}, {0, 0, 1}} {
			if b, err := frame.Put(ahead, x.f); !bytes.Equal(b, join(ahead, x.want)) || err != nil {
				t.Errorf("Put(%v, %.100v) = %.100v, %v", ahead, x.f, b, err)
			}
		}
	}
}

func TestP5_1PutErrors(t *testing.T) {
	for _, f := range []api.Frame{
		{Type: -1},
		{Type: 256},
		{Type: -1 << 63},
		{Flags: -1},
		{Flags: 256},
		{Flags: 1 << 40},
		{Stream: -1},
		{Stream: api.MaxStream + 1},
		{Stream: 1 << 32},
		{Stream: -1 << 63},
		{Payload: make([]byte, 1<<24)},
		{Payload: make([]byte, 1<<24+1)},
	} {
		if b, err := frame.Put([]byte{9}, f); len(b) != 0 || err != api.ErrFrame {
			t.Errorf("Put(9, %.100v) = %.100v, %v", f, b, err)
		}
	}
}

func TestP5_1Get(t *testing.T) {
	for _, x := range []struct {
		b    []byte
		most int
		want api.Frame
		size int
	}{
		{[]byte{0, 0, 1, 0, 1, 128, 0, 0, 3, 65}, 16384, api.Frame{Flags: 1, Stream: 3, Payload: []byte("A")}, 10},
		{[]byte{0, 0, 1, 0, 1, 128, 0, 0, 3, 65}, 1, api.Frame{Flags: 1, Stream: 3, Payload: []byte("A")}, 10},
		{[]byte{0, 0, 1, 0, 1, 0, 0, 0, 3, 65, 66}, 1, api.Frame{Flags: 1, Stream: 3, Payload: []byte("A")}, 10},
		{make([]byte, 9), 0, api.Frame{}, 9},
		{make([]byte, 30), 0, api.Frame{}, 9},
		{[]byte{0, 0, 0, 255, 255, 255, 255, 255, 255}, 0, api.Frame{Type: 255, Flags: 255, Stream: api.MaxStream}, 9},
		{[]byte{0, 0, 0, 1, 2, 3, 4, 5, 6}, 5, api.Frame{Type: 1, Flags: 2, Stream: 0x03040506}, 9},
		{join([]byte{1, 2, 3, 0, 0, 0, 0, 0, 1}, make([]byte, 0x010203)), 0x010203, api.Frame{Stream: 1, Payload: make([]byte, 0x010203)}, 9 + 0x010203},
		{join([]byte{255, 255, 255, 0, 0, 0, 0, 0, 1}, make([]byte, 1<<24)), 1 << 62, api.Frame{Stream: 1, Payload: make([]byte, 1<<24-1)}, 9 + 1<<24 - 1},
		// What it says is not looked at.
		{[]byte{0, 0, 1, 3, 0, 0, 0, 0, 0, 1}, 1, api.Frame{Type: api.FReset, Payload: []byte{1}}, 10},
	} {
		if f, n, err := frame.Get(x.b, x.most); !sameFrame(f, x.want) || n != x.size || err != nil {
			t.Errorf("Get(%.100v, %d) = %.100v, %d, %v", x.b, x.most, f, n, err)
		}
	}
}

func TestP5_1GetErrors(t *testing.T) {
	for _, x := range []struct {
		b    []byte
		most int
		err  error
	}{
		{nil, 16384, api.ErrEnd},
		{nil, -1, api.ErrEnd},
		{[]byte{0, 0}, 16384, api.ErrEnd},
		// Less than nine bytes come first, however long the payload is to be.
		{[]byte{255, 255, 255, 0, 0, 0, 0, 0}, 0, api.ErrEnd},
		{[]byte{0, 64, 1, 0, 0, 0, 0, 0, 3}, 16384, api.ErrLong},
		{[]byte{0, 64, 0, 0, 0, 0, 0, 0, 3}, 16384, api.ErrEnd},
		{join([]byte{0, 64, 1, 0, 0, 0, 0, 0, 3}, make([]byte, 16385)), 16384, api.ErrLong},
		{[]byte{0, 0, 1, 0, 1, 0, 0, 0, 3}, 16384, api.ErrEnd},
		{[]byte{0, 0, 1, 0, 1, 0, 0, 0, 3}, 0, api.ErrLong},
		{[]byte{0, 0, 2, 0, 1, 0, 0, 0, 3, 65}, 2, api.ErrEnd},
		{[]byte{0, 0, 2, 0, 1, 0, 0, 0, 3, 65}, 1, api.ErrLong},
		{[]byte{0, 0, 1, 0, 1, 0, 0, 0, 3, 65}, -1, api.ErrLong},
		{[]byte{255, 255, 255, 0, 1, 0, 0, 0, 3, 65}, 1<<24 - 1, api.ErrEnd},
		{[]byte{255, 255, 255, 0, 1, 0, 0, 0, 3, 65}, 1<<24 - 2, api.ErrLong},
		{[]byte{255, 255, 255, 0, 1, 0, 0, 0, 3, 65}, 1<<63 - 1, api.ErrEnd},
		{[]byte{255, 255, 255, 0, 1, 0, 0, 0, 3, 65}, -1 << 63, api.ErrLong},
		// No payload is more than a most below 0.
		{make([]byte, 9), -1, api.ErrLong},
	} {
		if f, n, err := frame.Get(x.b, x.most); !sameFrame(f, api.Frame{}) || n != 0 || err != x.err {
			t.Errorf("Get(%.100v, %d) = %.100v, %d, %v, not %v", x.b, x.most, f, n, err, x.err)
		}
	}
}

// three is three frames: of 10, 9 and 11 bytes.
func three() []byte {
	return []byte{
		0, 0, 1, 0, 1, 128, 0, 0, 3, 65,
		0, 0, 0, 4, 1, 0, 0, 0, 0,
		0, 0, 2, 77, 5, 0, 0, 0, 9, 66, 67,
	}
}

func threePlaced() []placed {
	return []placed{
		{0, api.Frame{Flags: 1, Stream: 3, Payload: []byte("A")}},
		{10, api.Frame{Type: 4, Flags: 1}},
		{19, api.Frame{Type: 77, Flags: 5, Stream: 9, Payload: []byte("BC")}},
	}
}

func TestP5_1Frames(t *testing.T) {
	want := threePlaced()
	for _, x := range []struct {
		b    []byte
		most int
		want []placed
	}{
		{three(), 16384, want},
		{three(), 2, want},
		{three(), 1, want[:2]},
		{three(), 0, nil},
		{three(), -1, nil},
		{nil, 16384, nil},
		{three()[:29], 16384, want[:2]},
		{three()[:19], 16384, want[:2]},
		{three()[:18], 16384, want[:1]},
		{three()[:10], 16384, want[:1]},
		{three()[:9], 16384, nil},
		{three()[:8], 16384, nil},
		{join(three(), []byte{0, 0, 0}), 16384, want},
		// Nothing behind a frame that is too long is told, even if it were one.
		{join(three()[:10], []byte{0, 0, 3, 0, 0, 0, 0, 0, 1, 1, 2, 3}, three()), 2, want[:1]},
	} {
		if l := all(x.b, x.most); !samePlaced(l, x.want) {
			t.Errorf("Frames(%v, %d) = %v, not %v", x.b, x.most, l, x.want)
		}
	}
}

func TestP5_1FramesAgainAndLeftEarly(t *testing.T) {
	want := threePlaced()
	seq := frame.Frames(three(), 16384)
	for range 3 {
		for stop := range want {
			var l []placed
			for at, f := range seq {
				l = append(l, placed{at, f})
				if len(l) > stop {
					break
				}
			}
			if !samePlaced(l, want[:stop+1]) {
				t.Errorf("Frames, left behind %d: %v", stop+1, l)
			}
		}
	}
	// One within another.
	n := 0
	for range seq {
		for range seq {
			n++
		}
	}
	if n != 9 {
		t.Error("Frames within Frames:", n)
	}
}

func TestP5_4Preface(t *testing.T) {
	want := []byte{80, 82, 73, 32, 42, 32, 72, 84, 84, 80, 47, 50, 46, 48, 13, 10, 13, 10, 83, 77, 13, 10, 13, 10}
	if b := frame.Preface(); !bytes.Equal(b, want) || len(b) != 24 {
		t.Errorf("Preface() = %q", b)
	}
}
