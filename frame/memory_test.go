package frame_test

import (
	"bytes"
	"slices"
	"testing"

	"parley/api"
	"parley/frame"
)

// guarded is a copy of b with bytes behind its length, in the same memory, and a call that tells whether anything there was changed.
func guarded(t *testing.T, b []byte) ([]byte, func(what string)) {
	t.Helper()
	memory := append(bytes.Clone(b), bytes.Repeat([]byte{1}, 300)...)
	want := bytes.Clone(memory)
	return memory[:len(b)], func(what string) {
		t.Helper()
		if !bytes.Equal(memory, want) {
			t.Errorf("%s changed what was handed in: %v, not %v", what, memory, want)
		}
	}
}

// spoil writes over l, its spare room too.
func spoil[E any](l []E, with E) {
	l = l[:cap(l)]
	for i := range l {
		l[i] = with
	}
}

func TestP5_5PutAnswersNewMemory(t *testing.T) {
	for _, given := range [][]byte{nil, {9}, {9, 8, 7}} {
		for _, payload := range [][]byte{nil, {5, 6}} {
			b, unchanged := guarded(t, given)
			p, payloadUnchanged := guarded(t, payload)
			f := api.Frame{Type: 77, Stream: 1, Payload: p}
			one, _ := frame.Put(b, f)
			want := bytes.Clone(one)
			two, _ := frame.Put(b, f)
			spoil(two, 0xEE)
			unchanged("Put")
			payloadUnchanged("Put")
			spoil(b, 0xDD)
			spoil(p, 0xDD)
			if !bytes.Equal(one, want) {
				t.Error("Put:", one, "not", want)
			}
		}
	}
	b, unchanged := guarded(t, []byte{9})
	frame.Put(b, api.Frame{Type: 256})
	unchanged("Put")
	whole := []byte{1, 2}
	if got, err := frame.Put(whole, api.Frame{Payload: whole}); !bytes.Equal(got, []byte{1, 2, 0, 0, 2, 0, 0, 0, 0, 0, 0, 1, 2}) || err != nil {
		t.Error("Put of itself:", got, err)
	}
}

func TestP5_5GetAnswersNewMemory(t *testing.T) {
	b, unchanged := guarded(t, three())
	one, _, _ := frame.Get(b, 16384)
	two, _, _ := frame.Get(b, 16384)
	spoil(two.Payload, 0xEE)
	unchanged("Get")
	spoil(b, 0xEE)
	if string(one.Payload) != "A" {
		t.Error("Get shows what was written elsewhere:", one)
	}
	// What lies behind the length would make it whole.
	for n := range 10 {
		b, unchanged := guarded(t, three())
		if f, size, err := frame.Get(b[:n], 16384); !sameFrame(f, api.Frame{}) || size != 0 || err != api.ErrEnd {
			t.Error("Get of the first", n, "bytes:", f, size, err)
		}
		if l := all(b[:n], 16384); len(l) != 0 {
			t.Error("Frames of the first", n, "bytes:", l)
		}
		unchanged("a reader")
	}
}

func TestP5_5FramesAnswersNewMemory(t *testing.T) {
	b, unchanged := guarded(t, three())
	seq := frame.Frames(b, 16384)
	for range 2 {
		var l []placed
		for at, f := range seq {
			l = append(l, placed{at, api.Frame{Type: f.Type, Flags: f.Flags, Stream: f.Stream, Payload: bytes.Clone(f.Payload)}})
			spoil(f.Payload, 0xEE)
		}
		unchanged("Frames")
		if !samePlaced(l, threePlaced()) {
			t.Error("Frames shows what was written into an answer:", l)
		}
	}
	// One frame of a walk, written over, is not seen in another.
	for spoiled := range 3 {
		l := all(b, 16384)
		spoil(l[spoiled].f.Payload, 0xEE)
		l[spoiled] = threePlaced()[spoiled]
		if !samePlaced(l, threePlaced()) {
			t.Error("Frames: frame", spoiled, "is seen in another:", l)
		}
	}
	// b is not kept: what is written into it, between walks or within one, is not seen.
	var l []placed
	for at, f := range seq {
		l = append(l, placed{at, f})
		spoil(b, 0xEE)
	}
	if !samePlaced(l, threePlaced()) || !samePlaced(slices.Collect(func(yield func(placed) bool) {
		for at, f := range seq {
			if !yield(placed{at, f}) {
				return
			}
		}
	}), threePlaced()) {
		t.Error("Frames keeps b:", l)
	}
}

func TestP5_5OpenAnswersNewMemory(t *testing.T) {
	for _, x := range sayings() {
		p, unchanged := guarded(t, x.f.Payload)
		f := x.f
		f.Payload = p
		one, _ := frame.Open(f)
		two, _ := frame.Open(f)
		spoil(two.Data, 0xEE)
		spoil(two.Settings, api.Setting{ID: -1})
		unchanged("Open")
		spoil(p, 0xEE)
		if !sameInfo(one, x.i) {
			t.Errorf("Open(%v) shows what was written elsewhere: %+v", x.f, one)
		}
	}
	// What lies behind the length would make it whole.
	for kind, i := range plain() {
		f, err := frame.Build(i)
		if err != nil || len(f.Payload) == 0 || kind == 10 {
			continue
		}
		p, unchanged := guarded(t, f.Payload)
		f.Payload = p[:len(p)-1]
		if i, err := frame.Open(f); !sameInfo(i, frame.Info{}) || err == nil {
			t.Errorf("Open(%v) = %+v, %v", f, i, err)
		}
		unchanged("Open")
	}
}

func TestP5_5BuildAnswersNewMemory(t *testing.T) {
	for _, x := range sayings() {
		i := x.i
		data, unchanged := guarded(t, x.i.Data)
		i.Data = data
		i.Settings = append(slices.Clone(x.i.Settings), make([]api.Setting, 9)...)[:len(x.i.Settings)]
		one, _ := frame.Build(i)
		want := bytes.Clone(one.Payload)
		two, _ := frame.Build(i)
		spoil(two.Payload, 0xEE)
		unchanged("Build")
		if !sameInfo(i, x.i) || slices.ContainsFunc(i.Settings[len(i.Settings):cap(i.Settings)], func(s api.Setting) bool { return s != api.Setting{} }) {
			t.Errorf("Build changed what was handed in: %+v, not %+v", i, x.i)
		}
		spoil(data, 0xEE)
		spoil(i.Settings, api.Setting{ID: -1})
		if !bytes.Equal(one.Payload, want) {
			t.Errorf("Build(%+v) shows what was written elsewhere: %v", x.i, one)
		}
	}
}

func TestP5_5PrefaceAnswersNewMemory(t *testing.T) {
	spoil(frame.Preface(), 0xEE)
	if b := frame.Preface(); string(b) != "PRI * HTTP/2.0\r\n\r\nSM\r\n\r\n" {
		t.Errorf("Preface() = %q", b)
	}
}
