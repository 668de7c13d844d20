package frame_test

import (
	"bytes"
	"testing"

	"parley/api"
	"parley/frame"
)

func TestP5_3Build(t *testing.T) {
	for _, x := range sayings() {
		f, err := frame.Build(x.i)
		if err != nil {
			t.Errorf("Build(%+v): %v", x.i, err)
		}
		if sameFrame(f, x.f) != x.built {
			t.Errorf("Build(%+v) = %v, of %v", x.i, f, x.f)
		}
	}
	// The bits that are not looked at are 0, and so is the padding.
	for _, x := range []struct {
		i    frame.Info
		want api.Frame
	}{
		{frame.Info{Stream: 3, Padded: true, Pad: 1, Data: []byte("A")}, makeFrame(api.FData, 8, 3, 1, 65, 0)},
		{frame.Info{Type: 5, Stream: 1, Promise: 1, Data: []byte{7}}, makeFrame(api.FPush, 0, 1, 0, 0, 0, 1, 7)},
		{frame.Info{Type: 7, Last: 3, Code: 1}, makeFrame(api.FGoAway, 0, 0, 0, 0, 0, 3, 0, 0, 0, 1)},
		{frame.Info{Type: 8, Stream: 5, Inc: 1}, makeFrame(api.FWindow, 0, 5, 0, 0, 0, 1)},
		// The empty list is as none.
		{frame.Info{Type: 3, Stream: 5, Data: []byte{}, Settings: []api.Setting{}}, makeFrame(api.FReset, 0, 5, 0, 0, 0, 0)},
		{frame.Info{Type: 4, Ack: true, Settings: []api.Setting{}}, makeFrame(api.FSettings, 1, 0)},
	} {
		if f, err := frame.Build(x.i); !sameFrame(f, x.want) || err != nil {
			t.Errorf("Build(%+v) = %v, %v, not %v", x.i, f, err, x.want)
		}
	}
	// That a payload is too long for Put is none of Build's errors.
	long := make([]byte, 1<<24)
	if f, err := frame.Build(frame.Info{Stream: 1, Data: long}); !bytes.Equal(f.Payload, long) || err != nil {
		t.Error("Build of 2^24 bytes:", len(f.Payload), err)
	}
}

// refuses holds Build's answer of i against ErrFrame.
func refuses(t *testing.T, i frame.Info) {
	t.Helper()
	if f, err := frame.Build(i); !sameFrame(f, api.Frame{}) || err != api.ErrFrame {
		t.Errorf("Build(%+v) = %.100v, %v", i, f, err)
	}
}

// plain is for each type an Info that Build takes, as short as it may be.
func plain() map[int]frame.Info {
	return map[int]frame.Info{
		api.FData:     {Stream: 1},
		api.FHeaders:  {Type: 1, Stream: 1},
		api.FPriority: {Type: 2, Stream: 1, Weight: 1},
		api.FReset:    {Type: 3, Stream: 1},
		api.FSettings: {Type: 4},
		api.FPush:     {Type: 5, Stream: 1, Promise: 2},
		api.FPing:     {Type: 6, Data: make([]byte, 8)},
		api.FGoAway:   {Type: 7},
		api.FWindow:   {Type: 8, Inc: 1},
		api.FContinue: {Type: 9, Stream: 1},
		10:            {Type: 10},
	}
}

// What a type does not say is its zero value; what it says may be another one.
func TestP5_3NotSaid(t *testing.T) {
	none := func(types ...int) []int { return types }
	for name, x := range map[string]struct {
		set  func(i *frame.Info)
		said []int // the types that say it
	}{
		"Flags":    {func(i *frame.Info) { i.Flags = 1 }, none(10)},
		"Stream":   {func(i *frame.Info) { i.Stream = 3 }, none(0, 1, 2, 3, 5, 8, 9, 10)},
		"End":      {func(i *frame.Info) { i.End = true }, none(0, 1)},
		"EndHeads": {func(i *frame.Info) { i.EndHeads = true }, none(1, 5, 9)},
		"Ack":      {func(i *frame.Info) { i.Ack = true }, none(4, 6)},
		"Padded":   {func(i *frame.Info) { i.Padded = true }, none(0, 1, 5)},
		"Pad":      {func(i *frame.Info) { i.Pad = 1 }, none()},
		"Padding":  {func(i *frame.Info) { i.Padded, i.Pad = true, 1 }, none(0, 1, 5)},
		"Priority": {func(i *frame.Info) { i.Priority = true }, none()}, // without a Weight
		"Alone":    {func(i *frame.Info) { i.Alone = true }, none(2)},
		"Dep":      {func(i *frame.Info) { i.Dep = 7 }, none(2)},
		"Weight":   {func(i *frame.Info) { i.Weight = 7 }, none(2)},
		"All":      {func(i *frame.Info) { i.Priority, i.Alone, i.Dep, i.Weight = true, true, 7, 7 }, none(1)},
		"Code":     {func(i *frame.Info) { i.Code = 7 }, none(3, 7)},
		"Last":     {func(i *frame.Info) { i.Last = 7 }, none(7)},
		"Inc":      {func(i *frame.Info) { i.Inc = 7 }, none(8)},
		"Promise":  {func(i *frame.Info) { i.Promise = 7 }, none(5)},
		"Settings": {func(i *frame.Info) { i.Settings = []api.Setting{{}} }, none(4)},
		"Data":     {func(i *frame.Info) { i.Data = []byte("12345678") }, none(0, 1, 5, 6, 7, 9, 10)},
		"NoBytes":  {func(i *frame.Info) { i.Data = []byte{} }, none(0, 1, 2, 3, 4, 5, 7, 8, 9, 10)},
	} {
		says := map[int]int{}
		for _, kind := range x.said {
			says[kind]++
		}
		for kind, i := range plain() {
			x.set(&i)
			if says[kind] == 0 {
				refuses(t, i)
				continue
			}
			f, err := frame.Build(i)
			if err != nil {
				t.Errorf("%s of %d: Build(%+v): %v", name, kind, i, err)
				continue
			}
			if back, err := frame.Open(f); !sameInfo(back, i) || err != nil {
				t.Errorf("%s of %d: Open(%v) = %+v, %v, not %+v", name, kind, f, back, err, i)
			}
		}
	}
}

func TestP5_3Numbers(t *testing.T) {
	const least, greatest = -1 << 63, 1<<63 - 1
	for name, x := range map[string]struct {
		kinds []int
		set   func(i *frame.Info, n int)
		taken []int
		wrong []int
	}{
		"Type":    {[]int{10}, func(i *frame.Info, n int) { i.Type = n }, []int{10, 11, 255}, []int{-1, 256, 256 + 10, 1 << 32, least, greatest}},
		"Flags":   {[]int{10}, func(i *frame.Info, n int) { i.Flags = n }, []int{0, 1, 255}, []int{-1, 256, 257, 1 << 32, least, greatest}},
		"Stream":  {[]int{0, 1, 2, 3, 5, 8, 9, 10}, func(i *frame.Info, n int) { i.Stream = n }, []int{1, 2, 3, api.MaxStream}, []int{-1, 1 << 31, 1<<31 + 1, 1<<32 + 1, least, greatest}},
		"Stream0": {[]int{4, 6, 7}, func(i *frame.Info, n int) { i.Stream = n }, []int{0}, []int{-1, 1, api.MaxStream, 1 << 31, 1 << 32, least, greatest}},
		"No0":     {[]int{0, 1, 2, 3, 5, 9}, func(i *frame.Info, n int) { i.Stream = n }, nil, []int{0}},
		"Pad":     {[]int{0, 1, 5}, func(i *frame.Info, n int) { i.Padded, i.Pad = true, n }, []int{0, 1, 255}, []int{-1, 256, 257, 1 << 32, least, greatest}},
		"PadNone": {[]int{0, 1, 5}, func(i *frame.Info, n int) { i.Pad = n }, []int{0}, []int{-1, 1, 255, 256, least, greatest}},
		"Dep":     {[]int{1, 2}, func(i *frame.Info, n int) { i.Priority, i.Weight, i.Dep = i.Type == 1, 5, n }, []int{0, 2, api.MaxStream}, []int{-1, 1, 1 << 31, 1<<31 + 2, 1 << 32, least, greatest}},
		"DepLone": {[]int{1, 2}, func(i *frame.Info, n int) { i.Priority, i.Alone, i.Weight, i.Dep = i.Type == 1, true, 5, n }, []int{0, 2, api.MaxStream}, []int{-1, 1, 1 << 31, 1<<31 + 2, 1 << 32, least, greatest}},
		"Weight":  {[]int{1, 2}, func(i *frame.Info, n int) { i.Priority, i.Weight = i.Type == 1, n }, []int{1, 2, 256}, []int{-1, 0, 257, 512, 1<<32 + 1, least, greatest}},
		"Code":    {[]int{3, 7}, func(i *frame.Info, n int) { i.Code = n }, []int{0, 13, 1<<32 - 1}, []int{-1, 1 << 32, 1<<32 + 1, least, greatest}},
		"Last":    {[]int{7}, func(i *frame.Info, n int) { i.Last = n }, []int{0, 1, api.MaxStream}, []int{-1, 1 << 31, 1<<31 + 1, 1 << 32, least, greatest}},
		"Inc":     {[]int{8}, func(i *frame.Info, n int) { i.Inc = n }, []int{1, api.MaxStream}, []int{-1, 0, 1 << 31, 1<<31 + 1, 1<<32 + 1, least, greatest}},
		"Promise": {[]int{5}, func(i *frame.Info, n int) { i.Promise = n }, []int{1, 2, api.MaxStream}, []int{-1, 0, 1 << 31, 1<<31 + 1, 1<<32 + 1, least, greatest}},
		"ID":      {[]int{4}, func(i *frame.Info, n int) { i.Settings = []api.Setting{{ID: n}} }, []int{0, 1, 2, 3, 4, 6, 65535}, []int{-1, 5, 65536, 65537, 1 << 32, least, greatest}},
		"Value":   {[]int{4}, func(i *frame.Info, n int) { i.Settings = []api.Setting{{}, {ID: 3, Value: n}} }, []int{0, 1, 1<<32 - 1}, []int{-1, 1 << 32, 1<<32 + 1, least, greatest}},
		"SPush":   {[]int{4}, func(i *frame.Info, n int) { i.Settings = []api.Setting{{}, {ID: 2, Value: n}} }, []int{0, 1}, []int{-1, 2, 1 << 32, greatest}},
		"SWindow": {[]int{4}, func(i *frame.Info, n int) { i.Settings = []api.Setting{{}, {ID: 4, Value: n}} }, []int{0, 1, api.MaxWindow}, []int{-1, 1 << 31, 1 << 32, greatest}},
		"SFrame":  {[]int{4}, func(i *frame.Info, n int) { i.Settings = []api.Setting{{}, {ID: 5, Value: n}} }, []int{16384, 1<<24 - 1}, []int{-1, 16383, 1 << 24, 1<<32 + 16384, greatest}},
		"Data":    {[]int{6}, func(i *frame.Info, n int) { i.Data = make([]byte, n) }, []int{8}, []int{0, 7, 9, 16}},
	} {
		for _, kind := range x.kinds {
			for _, n := range x.taken {
				i := plain()[kind]
				x.set(&i, n)
				f, err := frame.Build(i)
				if back, fault := frame.Open(f); !sameInfo(back, i) || err != nil || fault != nil {
					t.Errorf("%s %d: Build(%+v) = %v, %v; Open of it %+v, %v", name, n, i, f, err, back, fault)
				}
			}
			for _, n := range x.wrong {
				i := plain()[kind]
				x.set(&i, n)
				refuses(t, i)
			}
		}
	}
	refuses(t, frame.Info{Type: 4, Ack: true, Settings: []api.Setting{{ID: 9}}})
	refuses(t, frame.Info{})
}
