package frame_test

import (
	"bytes"
	"slices"
	"testing"

	"parley/api"
	"parley/frame"
)

func sameInfo(a, b frame.Info) bool {
	return a.Type == b.Type && a.Flags == b.Flags && a.Stream == b.Stream &&
		a.End == b.End && a.EndHeads == b.EndHeads && a.Ack == b.Ack &&
		a.Padded == b.Padded && a.Priority == b.Priority && a.Alone == b.Alone &&
		a.Pad == b.Pad && a.Dep == b.Dep && a.Weight == b.Weight &&
		a.Code == b.Code && a.Last == b.Last && a.Inc == b.Inc && a.Promise == b.Promise &&
		slices.Equal(a.Settings, b.Settings) && bytes.Equal(a.Data, b.Data)
}

func sameFault(err error, want api.H2) bool {
	h, ok := err.(*api.H2)
	return ok && *h == want
}

// said is a frame and what it says; built is whether it is what Build makes of that.
type said struct {
	f     api.Frame
	i     frame.Info
	built bool
}

func makeFrame(kind, flags, stream int, payload ...byte) api.Frame {
	return api.Frame{Type: kind, Flags: flags, Stream: stream, Payload: payload}
}

// sayings has each type with each of its flags, and the edges of its numbers.
func sayings() []said {
	const h = api.FHeaders
	return []said{
		{makeFrame(api.FData, 0, 3), frame.Info{Stream: 3}, true},
		{makeFrame(api.FData, 0, 3, 65, 66), frame.Info{Stream: 3, Data: []byte("AB")}, true},
		{makeFrame(api.FData, 1, api.MaxStream, 65), frame.Info{Stream: api.MaxStream, End: true, Data: []byte("A")}, true},
		{makeFrame(api.FData, 9, 3, 2, 65, 0, 0), frame.Info{Stream: 3, End: true, Padded: true, Pad: 2, Data: []byte("A")}, true},
		{makeFrame(api.FData, 8, 3, 2, 0, 0), frame.Info{Stream: 3, Padded: true, Pad: 2}, true},
		{makeFrame(api.FData, 8, 3, 0), frame.Info{Stream: 3, Padded: true}, true},
		{makeFrame(api.FData, 8, 3, 0, 65), frame.Info{Stream: 3, Padded: true, Data: []byte("A")}, true},
		{makeFrame(api.FData, 8, 3, join([]byte{255, 7}, make([]byte, 255))...), frame.Info{Stream: 3, Padded: true, Pad: 255, Data: []byte{7}}, true},
		{makeFrame(api.FData, 8, 3, 1, 65, 9), frame.Info{Stream: 3, Padded: true, Pad: 1, Data: []byte("A")}, false},
		{makeFrame(api.FData, 2+4+16+32+64+128, 3, 2, 65), frame.Info{Stream: 3, Data: []byte{2, 65}}, false},
		{makeFrame(h, 0, 3), frame.Info{Type: h, Stream: 3}, true},
		{makeFrame(h, 5, 3, 130), frame.Info{Type: h, Stream: 3, End: true, EndHeads: true, Data: []byte{130}}, true},
		{makeFrame(h, 4, 3, 130), frame.Info{Type: h, Stream: 3, EndHeads: true, Data: []byte{130}}, true},
		{makeFrame(h, 8, 3, 1, 130, 0), frame.Info{Type: h, Stream: 3, Padded: true, Pad: 1, Data: []byte{130}}, true},
		{makeFrame(h, 32, 3, 128, 0, 0, 1, 15, 9), frame.Info{Type: h, Stream: 3, Priority: true, Alone: true, Dep: 1, Weight: 16, Data: []byte{9}}, true},
		{makeFrame(h, 32, 3, 0, 0, 0, 0, 0), frame.Info{Type: h, Stream: 3, Priority: true, Weight: 1}, true},
		{makeFrame(h, 32, 3, 255, 255, 255, 255, 255), frame.Info{Type: h, Stream: 3, Priority: true, Alone: true, Dep: api.MaxStream, Weight: 256}, true},
		{makeFrame(h, 45, 5, 1, 0, 0, 0, 7, 255, 8, 0), frame.Info{Type: h, Stream: 5, End: true, EndHeads: true, Padded: true, Priority: true, Pad: 1, Dep: 7, Weight: 256, Data: []byte{8}}, true},
		{makeFrame(h, 40, 5, 2, 0, 0, 0, 7, 255, 0, 0), frame.Info{Type: h, Stream: 5, Padded: true, Priority: true, Pad: 2, Dep: 7, Weight: 256}, true},
		{makeFrame(h, 2+16+64+128, 3, 1), frame.Info{Type: h, Stream: 3, Data: []byte{1}}, false},
		{makeFrame(api.FPriority, 0, 3, 0, 0, 0, 5, 0), frame.Info{Type: 2, Stream: 3, Dep: 5, Weight: 1}, true},
		{makeFrame(api.FPriority, 0, 3, 128, 0, 0, 0, 255), frame.Info{Type: 2, Stream: 3, Alone: true, Weight: 256}, true},
		{makeFrame(api.FPriority, 255, 3, 0, 0, 0, 5, 0), frame.Info{Type: 2, Stream: 3, Dep: 5, Weight: 1}, false},
		{makeFrame(api.FReset, 0, 3, 255, 255, 255, 255), frame.Info{Type: 3, Stream: 3, Code: 1<<32 - 1}, true},
		{makeFrame(api.FReset, 0, 3, 0, 0, 0, 0), frame.Info{Type: 3, Stream: 3}, true},
		{makeFrame(api.FReset, 255, 3, 1, 2, 3, 4), frame.Info{Type: 3, Stream: 3, Code: 0x01020304}, false},
		{makeFrame(api.FSettings, 0, 0), frame.Info{Type: 4}, true},
		{makeFrame(api.FSettings, 1, 0), frame.Info{Type: 4, Ack: true}, true},
		{makeFrame(api.FSettings, 254, 0), frame.Info{Type: 4}, false},
		{makeFrame(api.FSettings, 0, 0, 0, 4, 0, 0, 1, 0, 0, 9, 255, 255, 255, 255), frame.Info{Type: 4, Settings: []api.Setting{{ID: 4, Value: 256}, {ID: 9, Value: 1<<32 - 1}}}, true},
		// Whatever is twice is told twice; numbers that are no settings are told, too.
		{makeFrame(api.FSettings, 0, 0, 0, 4, 0, 0, 0, 1, 0, 4, 0, 0, 0, 1), frame.Info{Type: 4, Settings: []api.Setting{{ID: 4, Value: 1}, {ID: 4, Value: 1}}}, true},
		{makeFrame(api.FSettings, 0, 0, 255, 255, 1, 2, 3, 4, 0, 0, 0, 0, 0, 0), frame.Info{Type: 4, Settings: []api.Setting{{ID: 65535, Value: 0x01020304}, {}}}, true},
		// The edges of values.
		{makeFrame(api.FSettings, 0, 0, 0, 2, 0, 0, 0, 1, 0, 2, 0, 0, 0, 0), frame.Info{Type: 4, Settings: []api.Setting{{ID: 2, Value: 1}, {ID: 2}}}, true},
		{makeFrame(api.FSettings, 0, 0, 0, 4, 127, 255, 255, 255), frame.Info{Type: 4, Settings: []api.Setting{{ID: 4, Value: api.MaxWindow}}}, true},
		{makeFrame(api.FSettings, 0, 0, 0, 5, 0, 0, 64, 0, 0, 5, 0, 255, 255, 255), frame.Info{Type: 4, Settings: []api.Setting{{ID: 5, Value: 16384}, {ID: 5, Value: 1<<24 - 1}}}, true},
		{makeFrame(api.FSettings, 0, 0, 0, 1, 255, 255, 255, 255, 0, 3, 255, 255, 255, 255, 0, 6, 255, 255, 255, 255), frame.Info{Type: 4, Settings: []api.Setting{{ID: 1, Value: 1<<32 - 1}, {ID: 3, Value: 1<<32 - 1}, {ID: 6, Value: 1<<32 - 1}}}, true},
		{makeFrame(api.FPush, 0, 1, 0, 0, 0, 2), frame.Info{Type: 5, Stream: 1, Promise: 2}, true},
		{makeFrame(api.FPush, 12, 1, 0, 0, 0, 0, 2, 7), frame.Info{Type: 5, Stream: 1, EndHeads: true, Padded: true, Promise: 2, Data: []byte{7}}, true},
		{makeFrame(api.FPush, 8, 1, 3, 127, 255, 255, 255, 0, 0, 0), frame.Info{Type: 5, Stream: 1, Padded: true, Pad: 3, Promise: api.MaxStream}, true},
		{makeFrame(api.FPush, 0, 1, 128, 0, 0, 1, 7), frame.Info{Type: 5, Stream: 1, Promise: 1, Data: []byte{7}}, false},
		{makeFrame(api.FPush, 1+2+16+32+64+128, 1, 0, 0, 0, 2, 7), frame.Info{Type: 5, Stream: 1, Promise: 2, Data: []byte{7}}, false},
		{makeFrame(api.FPing, 0, 0, 1, 2, 3, 4, 5, 6, 7, 8), frame.Info{Type: 6, Data: []byte{1, 2, 3, 4, 5, 6, 7, 8}}, true},
		{makeFrame(api.FPing, 1, 0, 1, 2, 3, 4, 5, 6, 7, 8), frame.Info{Type: 6, Ack: true, Data: []byte{1, 2, 3, 4, 5, 6, 7, 8}}, true},
		{makeFrame(api.FPing, 254, 0, 1, 2, 3, 4, 5, 6, 7, 8), frame.Info{Type: 6, Data: []byte{1, 2, 3, 4, 5, 6, 7, 8}}, false},
		{makeFrame(api.FGoAway, 0, 0, 0, 0, 0, 3, 0, 0, 0, 1, 88), frame.Info{Type: 7, Last: 3, Code: 1, Data: []byte("X")}, true},
		{makeFrame(api.FGoAway, 0, 0, 127, 255, 255, 255, 255, 255, 255, 255), frame.Info{Type: 7, Last: api.MaxStream, Code: 1<<32 - 1}, true},
		{makeFrame(api.FGoAway, 0, 0, 0, 0, 0, 0, 0, 0, 0, 0), frame.Info{Type: 7}, true},
		{makeFrame(api.FGoAway, 255, 0, 128, 0, 0, 3, 0, 0, 0, 1), frame.Info{Type: 7, Last: 3, Code: 1}, false},
		{makeFrame(api.FWindow, 0, 5, 0, 0, 0, 9), frame.Info{Type: 8, Stream: 5, Inc: 9}, true},
		{makeFrame(api.FWindow, 0, 0, 127, 255, 255, 255), frame.Info{Type: 8, Inc: api.MaxWindow}, true},
		{makeFrame(api.FWindow, 255, 5, 128, 0, 0, 1), frame.Info{Type: 8, Stream: 5, Inc: 1}, false},
		{makeFrame(api.FContinue, 0, 5), frame.Info{Type: 9, Stream: 5}, true},
		{makeFrame(api.FContinue, 4, 5, 1), frame.Info{Type: 9, Stream: 5, EndHeads: true, Data: []byte{1}}, true},
		{makeFrame(api.FContinue, 251, 5, 1), frame.Info{Type: 9, Stream: 5, Data: []byte{1}}, false},
		{makeFrame(10, 0, 0), frame.Info{Type: 10}, true},
		{makeFrame(77, 200, 4, 1), frame.Info{Type: 77, Flags: 200, Stream: 4, Data: []byte{1}}, true},
		{makeFrame(255, 255, api.MaxStream, 0, 1), frame.Info{Type: 255, Flags: 255, Stream: api.MaxStream, Data: []byte{0, 1}}, true},
	}
}

func TestP5_2Open(t *testing.T) {
	for _, x := range sayings() {
		if i, err := frame.Open(x.f); !sameInfo(i, x.i) || err != nil {
			t.Errorf("Open(%v) = %+v, %v, not %+v", x.f, i, err, x.i)
		}
	}
}

func TestP5_2Faults(t *testing.T) {
	ofConnection := func(code int) api.H2 { return api.H2{Code: code} }
	for _, x := range []struct {
		f    api.Frame
		want api.H2
	}{
		// 1: streams. They come ahead of every other fault.
		{makeFrame(api.FData, 0, 0, 1), ofConnection(api.CProtocol)},
		{makeFrame(api.FData, 8, 0), ofConnection(api.CProtocol)},
		{makeFrame(api.FHeaders, 32, 0, 1), ofConnection(api.CProtocol)},
		{makeFrame(api.FPriority, 0, 0, 1), ofConnection(api.CProtocol)},
		{makeFrame(api.FReset, 0, 0, 1), ofConnection(api.CProtocol)},
		{makeFrame(api.FSettings, 0, 1), ofConnection(api.CProtocol)},
		{makeFrame(api.FSettings, 1, 1, 1), ofConnection(api.CProtocol)},
		{makeFrame(api.FPush, 0, 0, 1), ofConnection(api.CProtocol)},
		{makeFrame(api.FPing, 0, 1, 1), ofConnection(api.CProtocol)},
		{makeFrame(api.FGoAway, 0, api.MaxStream, 1), ofConnection(api.CProtocol)},
		{makeFrame(api.FContinue, 0, 0, 1), ofConnection(api.CProtocol)},
		// 2: sizes.
		{makeFrame(api.FReset, 0, 3), ofConnection(api.CSize)},
		{makeFrame(api.FReset, 0, 3, 1, 2, 3), ofConnection(api.CSize)},
		{makeFrame(api.FReset, 0, 3, 1, 2, 3, 4, 5), ofConnection(api.CSize)},
		{makeFrame(api.FWindow, 0, 3), ofConnection(api.CSize)},
		{makeFrame(api.FWindow, 0, 3, 0, 0, 0), ofConnection(api.CSize)},
		{makeFrame(api.FWindow, 0, 0, 0, 0, 0, 0, 0), ofConnection(api.CSize)},
		{makeFrame(api.FPing, 0, 0), ofConnection(api.CSize)},
		{makeFrame(api.FPing, 0, 0, make([]byte, 7)...), ofConnection(api.CSize)},
		{makeFrame(api.FPing, 1, 0, make([]byte, 9)...), ofConnection(api.CSize)},
		{makeFrame(api.FSettings, 1, 0, 0), ofConnection(api.CSize)},
		{makeFrame(api.FSettings, 1, 0, 0, 1, 0, 0, 0, 0), ofConnection(api.CSize)},
		{makeFrame(api.FSettings, 0, 0, 0), ofConnection(api.CSize)},
		{makeFrame(api.FSettings, 0, 0, make([]byte, 5)...), ofConnection(api.CSize)},
		{makeFrame(api.FSettings, 0, 0, make([]byte, 7)...), ofConnection(api.CSize)},
		{makeFrame(api.FGoAway, 0, 0), ofConnection(api.CSize)},
		{makeFrame(api.FGoAway, 0, 0, make([]byte, 7)...), ofConnection(api.CSize)},
		{makeFrame(api.FPriority, 0, 3), api.H2{Code: api.CSize, Stream: 3}},
		{makeFrame(api.FPriority, 0, 3, 1, 2, 3, 4), api.H2{Code: api.CSize, Stream: 3}},
		{makeFrame(api.FPriority, 0, 3, 0, 0, 0, 3, 0, 0), api.H2{Code: api.CSize, Stream: 3}},
		// 3: padding.
		{makeFrame(api.FData, 8, 1), ofConnection(api.CSize)},
		{makeFrame(api.FHeaders, 8, 1), ofConnection(api.CSize)},
		{makeFrame(api.FHeaders, 40, 1), ofConnection(api.CSize)},
		{makeFrame(api.FPush, 8, 1), ofConnection(api.CSize)},
		{makeFrame(api.FData, 8, 1, 1), ofConnection(api.CProtocol)},
		{makeFrame(api.FData, 8, 1, 255), ofConnection(api.CProtocol)},
		{makeFrame(api.FData, 9, 1, 3, 0, 0), ofConnection(api.CProtocol)},
		{makeFrame(api.FData, 8, 1, join([]byte{255}, make([]byte, 254))...), ofConnection(api.CProtocol)},
		{makeFrame(api.FHeaders, 40, 1, 1), ofConnection(api.CProtocol)},
		{makeFrame(api.FHeaders, 40, 1, 5, 0, 0, 0, 1), ofConnection(api.CProtocol)},
		{makeFrame(api.FPush, 8, 1, 4, 0, 0, 0), ofConnection(api.CProtocol)},
		// 4: what stands between.
		{makeFrame(api.FHeaders, 32, 1), ofConnection(api.CSize)},
		{makeFrame(api.FHeaders, 32, 1, 0, 0, 0, 1), ofConnection(api.CSize)},
		{makeFrame(api.FHeaders, 40, 1, 1, 0, 0, 0, 2, 1), ofConnection(api.CSize)},
		{makeFrame(api.FHeaders, 40, 1, 5, 0, 0, 0, 0, 0), ofConnection(api.CSize)},
		{makeFrame(api.FPush, 0, 1), ofConnection(api.CSize)},
		{makeFrame(api.FPush, 0, 1, 0, 0, 0), ofConnection(api.CSize)},
		{makeFrame(api.FPush, 8, 1, 1, 0, 0, 0, 2), ofConnection(api.CSize)},
		// 5: what depends on itself.
		{makeFrame(api.FHeaders, 32, 3, 0, 0, 0, 3, 1), api.H2{Code: api.CProtocol, Stream: 3}},
		{makeFrame(api.FHeaders, 45, 3, 1, 128, 0, 0, 3, 1, 9, 0), api.H2{Code: api.CProtocol, Stream: 3}},
		{makeFrame(api.FPriority, 0, 3, 0, 0, 0, 3, 1), api.H2{Code: api.CProtocol, Stream: 3}},
		{makeFrame(api.FPriority, 0, 3, 128, 0, 0, 3, 1), api.H2{Code: api.CProtocol, Stream: 3}},
		{makeFrame(api.FPriority, 0, api.MaxStream, 255, 255, 255, 255, 1), api.H2{Code: api.CProtocol, Stream: api.MaxStream}},
		// 6: what may not be 0, whatever its greatest bit is.
		{makeFrame(api.FPush, 0, 1, 0, 0, 0, 0), ofConnection(api.CProtocol)},
		{makeFrame(api.FPush, 12, 1, 1, 128, 0, 0, 0, 7, 0), ofConnection(api.CProtocol)},
		{makeFrame(api.FWindow, 0, 5, 0, 0, 0, 0), api.H2{Code: api.CProtocol, Stream: 5}},
		{makeFrame(api.FWindow, 0, 5, 128, 0, 0, 0), api.H2{Code: api.CProtocol, Stream: 5}},
		{makeFrame(api.FWindow, 0, 0, 128, 0, 0, 0), ofConnection(api.CProtocol)},
		// 7: settings, the first that is none.
		{makeFrame(api.FSettings, 0, 0, 0, 2, 0, 0, 0, 2), ofConnection(api.CProtocol)},
		{makeFrame(api.FSettings, 0, 0, 0, 2, 1, 0, 0, 1), ofConnection(api.CProtocol)},
		{makeFrame(api.FSettings, 0, 0, 0, 4, 128, 0, 0, 0), ofConnection(api.CFlow)},
		{makeFrame(api.FSettings, 0, 0, 0, 4, 255, 255, 255, 255), ofConnection(api.CFlow)},
		{makeFrame(api.FSettings, 0, 0, 0, 5, 0, 0, 63, 255), ofConnection(api.CProtocol)},
		{makeFrame(api.FSettings, 0, 0, 0, 5, 0, 0, 0, 0), ofConnection(api.CProtocol)},
		{makeFrame(api.FSettings, 0, 0, 0, 5, 1, 0, 0, 0), ofConnection(api.CProtocol)},
		{makeFrame(api.FSettings, 0, 0, 0, 9, 0, 0, 0, 2, 0, 4, 128, 0, 0, 0, 0, 2, 0, 0, 0, 2), ofConnection(api.CFlow)},
		{makeFrame(api.FSettings, 0, 0, 0, 2, 0, 0, 0, 2, 0, 4, 128, 0, 0, 0), ofConnection(api.CProtocol)},
		{makeFrame(api.FSettings, 0, 0, 0, 4, 128, 0, 0, 0, 0), ofConnection(api.CSize)},
	} {
		if i, err := frame.Open(x.f); !sameInfo(i, frame.Info{}) || !sameFault(err, x.want) {
			t.Errorf("Open(%v) = %+v, %v, not %v", x.f, i, err, x.want)
		}
	}
}

// Numbers that no bytes of a frame could be are told as they stand, and nothing panics.
func TestP5_2FramesWithoutBytes(t *testing.T) {
	for _, x := range []struct {
		f    api.Frame
		want frame.Info
	}{
		{makeFrame(256, 0, 0, 1), frame.Info{Type: 256, Data: []byte{1}}},
		{makeFrame(-1, -1, -1, 1), frame.Info{Type: -1, Flags: -1, Stream: -1, Data: []byte{1}}},
		{makeFrame(-1<<63, 1<<40, 1<<40), frame.Info{Type: -1 << 63, Flags: 1 << 40, Stream: 1 << 40}},
		{makeFrame(api.FData, 256, -5, 1), frame.Info{Stream: -5, Data: []byte{1}}},
		{makeFrame(api.FData, 257, 1<<31, 1), frame.Info{Stream: 1 << 31, End: true, Data: []byte{1}}},
	} {
		if i, err := frame.Open(x.f); !sameInfo(i, x.want) || err != nil {
			t.Errorf("Open(%v) = %+v, %v, not %+v", x.f, i, err, x.want)
		}
	}
	long := bytes.Repeat([]byte{0}, 1<<24)
	if i, err := frame.Open(api.Frame{Stream: 1, Payload: long}); !bytes.Equal(i.Data, long) || err != nil {
		t.Error("Open of 2^24 bytes:", len(i.Data), err)
	}
}
