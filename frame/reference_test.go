package frame_test

import (
	"encoding/binary"
	"math/rand"
	"testing"

	"parley/api"
	"parley/frame"
)

// The reference shares nothing with the package: it goes fault by fault, as P5.2 has them, and field by field, as P5.3 has them.

func among(n int, l ...int) bool {
	for _, x := range l {
		if n == x {
			return true
		}
	}
	return false
}

func between(n, least, most int) bool {
	return least <= n && n <= most
}

// refOpen is what f says, or its fault.
func refOpen(f api.Frame) (frame.Info, *api.H2) {
	p, n := f.Payload, len(f.Payload)
	on := func(bit int) bool { return f.Flags&bit == bit }
	u31 := func(at int) int { return int(binary.BigEndian.Uint32(p[at:]) % (1 << 31)) }
	u32 := func(at int) int { return int(binary.BigEndian.Uint32(p[at:])) }
	fault := func(code, stream int) (frame.Info, *api.H2) {
		return frame.Info{}, &api.H2{Code: code, Stream: stream}
	}
	i := frame.Info{Type: f.Type, Stream: f.Stream}
	i.End = on(1) && among(f.Type, 0, 1)
	i.Ack = on(1) && among(f.Type, 4, 6)
	i.EndHeads = on(4) && among(f.Type, 1, 5, 9)
	i.Padded = on(8) && among(f.Type, 0, 1, 5)
	i.Priority = on(32) && f.Type == 1
	if f.Stream == 0 && among(f.Type, 0, 1, 2, 3, 5, 9) || f.Stream != 0 && among(f.Type, 4, 6, 7) {
		return fault(1, 0)
	}
	if among(f.Type, 3, 8) && n != 4 || f.Type == 6 && n != 8 || i.Ack && f.Type == 4 && n > 0 || f.Type == 4 && n%6 > 0 || f.Type == 7 && n < 8 {
		return fault(6, 0)
	}
	if f.Type == 2 && n != 5 {
		return fault(6, f.Stream)
	}
	begin, end := 0, n
	if i.Padded {
		if n == 0 {
			return fault(6, 0)
		}
		if i.Pad = int(p[0]); i.Pad >= n {
			return fault(1, 0)
		}
		begin, end = 1, n-i.Pad
	}
	if i.Priority && end-begin < 5 || f.Type == 5 && end-begin < 4 {
		return fault(6, 0)
	}
	if i.Priority || f.Type == 2 {
		i.Dep, i.Alone, i.Weight = u31(begin), p[begin] >= 128, 1+int(p[begin+4])
		if i.Dep == f.Stream {
			return fault(1, f.Stream)
		}
	}
	switch f.Type {
	case 0, 6, 9:
		i.Data = p[begin:end]
	case 1:
		if i.Priority {
			begin += 5
		}
		i.Data = p[begin:end]
	case 3:
		i.Code = u32(0)
	case 4:
		for at := 0; at < n; at += 6 {
			s := api.Setting{ID: int(p[at])*256 + int(p[at+1]), Value: u32(at + 2)}
			if s.ID == 2 && s.Value > 1 || s.ID == 5 && !between(s.Value, 16384, 16777215) {
				return fault(1, 0)
			}
			if s.ID == 4 && s.Value > 2147483647 {
				return fault(3, 0)
			}
			i.Settings = append(i.Settings, s)
		}
	case 5:
		i.Promise, i.Data = u31(begin), p[begin+4:end]
		if i.Promise == 0 {
			return fault(1, 0)
		}
	case 7:
		i.Last, i.Code, i.Data = u31(0), u32(4), p[8:]
	case 8:
		i.Inc = u31(0)
		if i.Inc == 0 {
			return fault(1, f.Stream)
		}
	case 2:
	default:
		i.Flags, i.Data = f.Flags, p
	}
	return i, nil
}

// refTakes is whether Build has a frame for i.
func refTakes(i frame.Info) bool {
	k := i.Type
	other, dep := k > 9, k == 2 || i.Priority
	for _, x := range []struct{ ok, said, zero bool }{
		{between(k, 0, 255), true, true},
		{between(i.Stream, 0, api.MaxStream), true, true},
		{between(i.Flags, 0, 255), other, i.Flags == 0},
		{between(i.Pad, 0, 255), i.Padded, i.Pad == 0},
		{between(i.Dep, 0, api.MaxStream) && i.Dep != i.Stream, dep, i.Dep == 0},
		{between(i.Weight, 1, 256), dep, i.Weight == 0},
		{true, dep, !i.Alone},
		{between(i.Code, 0, 1<<32-1), among(k, 3, 7), i.Code == 0},
		{between(i.Last, 0, api.MaxStream), k == 7, i.Last == 0},
		{between(i.Inc, 1, api.MaxStream), k == 8, i.Inc == 0},
		{between(i.Promise, 1, api.MaxStream), k == 5, i.Promise == 0},
		{true, among(k, 0, 1), !i.End},
		{true, among(k, 1, 5, 9), !i.EndHeads},
		{true, among(k, 4, 6), !i.Ack},
		{true, among(k, 0, 1, 5), !i.Padded},
		{true, k == 1, !i.Priority},
		{k != 6 || len(i.Data) == 8, other || among(k, 0, 1, 5, 6, 7, 9), len(i.Data) == 0},
		{i.Stream == 0, among(k, 4, 6, 7), true},
		{i.Stream != 0, among(k, 0, 1, 2, 3, 5, 9), true},
		{true, k == 4 && !i.Ack, len(i.Settings) == 0},
	} {
		if x.said && !x.ok || !x.said && !x.zero {
			return false
		}
	}
	for _, s := range i.Settings {
		if !between(s.ID, 0, 65535) || !between(s.Value, 0, 1<<32-1) || s.ID == 2 && s.Value > 1 || s.ID == 4 && s.Value > api.MaxWindow || s.ID == 5 && !between(s.Value, 16384, 1<<24-1) {
			return false
		}
	}
	return true
}

// someFrame is a frame whose payload is as long as its type wants it, or nearly.
func someFrame(r *rand.Rand) api.Frame {
	f := api.Frame{Type: r.Intn(12), Flags: r.Intn(256), Stream: []int{0, 1, 3, 3, 7, api.MaxStream}[r.Intn(6)]}
	if among(f.Type, 4, 6, 7) && r.Intn(8) > 0 {
		f.Stream = 0
	}
	size := map[int]int{2: 5, 3: 4, 4: 6 * r.Intn(3), 6: 8, 7: 8, 8: 4}[f.Type]
	if among(f.Type, 0, 1, 5, 7, 9, 10, 11) {
		size += r.Intn(14)
	}
	if r.Intn(8) == 0 {
		size = max(0, size+r.Intn(3)-1)
	}
	f.Payload = make([]byte, size)
	telling := []byte{0, 0, 0, 1, 2, 3, 4, 5, 7, 64, 127, 128, 255}
	for i := range f.Payload {
		f.Payload[i] = telling[r.Intn(len(telling))]
	}
	if f.Type == api.FSettings && size >= 6 && r.Intn(2) == 0 {
		copy(f.Payload, []byte{0, byte(r.Intn(7))})
	}
	if among(f.Type, 1, 2) && size >= 4 && r.Intn(4) == 0 { // what may depend on itself
		binary.BigEndian.PutUint32(f.Payload, uint32(f.Stream))
	}
	return f
}

func TestP5_2OpenOfAnyFrame(t *testing.T) {
	r := rand.New(rand.NewSource(1))
	taken, refused := map[int]int{}, map[api.H2]int{}
	for range 400000 {
		f := someFrame(r)
		want, fault := refOpen(f)
		i, err := frame.Open(f)
		if fault == nil {
			taken[f.Type]++
			if !sameInfo(i, want) || err != nil {
				t.Fatalf("Open(%v) = %+v, %v, not %+v", f, i, err, want)
			}
			continue
		}
		refused[*fault]++
		if !sameInfo(i, frame.Info{}) || !sameFault(err, *fault) {
			t.Fatalf("Open(%v) = %+v, %v, not %v", f, i, err, fault)
		}
	}
	for kind := range 12 {
		if taken[kind] < 100 {
			t.Error("too few of type", kind, "were taken:", taken[kind])
		}
	}
	for _, x := range []api.H2{{Code: 1}, {Code: 6}, {Code: 3}, {Code: 6, Stream: 3}, {Code: 1, Stream: 3}} {
		if refused[x] < 100 {
			t.Error("too few were refused by", x, ":", refused[x])
		}
	}
}

// someInfo is an Info that a frame says, with perhaps a field or two changed.
func someInfo(r *rand.Rand) frame.Info {
	i, fault := refOpen(someFrame(r))
	for fault != nil {
		i, fault = refOpen(someFrame(r))
	}
	numbers := []*int{&i.Type, &i.Flags, &i.Stream, &i.Pad, &i.Dep, &i.Weight, &i.Code, &i.Last, &i.Inc, &i.Promise}
	for k := range i.Settings {
		numbers = append(numbers, &i.Settings[k].ID, &i.Settings[k].Value)
	}
	marks := []*bool{&i.End, &i.EndHeads, &i.Ack, &i.Padded, &i.Priority, &i.Alone}
	edges := []int{-1, 0, 1, 2, 3, 7, 255, 256, 257, 16383, 16384, 65535, 65536, 1<<24 - 1, 1 << 24, 1<<31 - 1, 1 << 31, 1<<32 - 1, 1 << 32, 1<<32 + 1, -1 << 63, 1<<63 - 1}
	for range r.Intn(3) {
		switch r.Intn(4) {
		case 0, 1:
			*numbers[r.Intn(len(numbers))] = edges[r.Intn(len(edges))]
		case 2:
			x := marks[r.Intn(len(marks))]
			*x = !*x
		case 3:
			i.Data = make([]byte, r.Intn(10))
		}
	}
	return i
}

func TestP5_3BuildOfAnyInfo(t *testing.T) {
	r := rand.New(rand.NewSource(2))
	taken := map[bool]int{}
	for range 400000 {
		i := someInfo(r)
		f, err := frame.Build(i)
		takes := refTakes(i)
		taken[takes]++
		if !takes {
			if !sameFrame(f, api.Frame{}) || err != api.ErrFrame {
				t.Fatalf("Build(%+v) = %v, %v", i, f, err)
			}
			continue
		}
		if back, fault := refOpen(f); err != nil || fault != nil || !sameInfo(back, i) {
			t.Fatalf("Build(%+v) = %v, %v, which says %+v, %v", i, f, err, back, fault)
		}
	}
	if taken[true] < 10000 || taken[false] < 10000 {
		t.Error("too few were tried:", taken)
	}
}
