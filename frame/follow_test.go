package frame_test

import (
	"bytes"
	"math/rand"
	"testing"

	"parley/api"
	"parley/frame"
)

func TestP5_6GetOfPut(t *testing.T) {
	r := rand.New(rand.NewSource(3))
	for range 3000 {
		f := api.Frame{Type: r.Intn(256), Flags: r.Intn(256), Stream: r.Intn(1 << 31), Payload: make([]byte, r.Intn(600)*r.Intn(2)*r.Intn(60))}
		r.Read(f.Payload)
		b, err := frame.Put(nil, f)
		if err != nil {
			t.Fatalf("Put(%v): %v", f, err)
		}
		for _, behind := range [][]byte{nil, {0}, {255, 255, 255}, b} {
			if g, n, err := frame.Get(join(b, behind), len(f.Payload)); !sameFrame(g, f) || n != len(b) || err != nil {
				t.Fatalf("Get(Put(%v) %v) = %v, %d, %v", f, behind, g, n, err)
			}
		}
	}
}

func TestP5_6FramesOfPuts(t *testing.T) {
	r := rand.New(rand.NewSource(4))
	for range 300 {
		var b []byte
		var put []placed
		for range r.Intn(8) {
			f := someFrame(r)
			put = append(put, placed{len(b), f})
			b, _ = frame.Put(b, f)
		}
		if l := all(b, 16384); !samePlaced(l, put) {
			t.Fatalf("Frames(%v) = %v, not %v", b, l, put)
		}
		for cut := range b {
			whole := 0
			for whole < len(put) && put[whole].at+9+len(put[whole].f.Payload) <= cut {
				whole++
			}
			if l := all(b[:cut], 16384); !samePlaced(l, put[:whole]) {
				t.Fatalf("Frames(%v) = %v, not %v", b[:cut], l, put[:whole])
			}
		}
	}
}

func TestP5_6PutOfGet(t *testing.T) {
	r := rand.New(rand.NewSource(5))
	taken := 0
	for range 20000 {
		b := make([]byte, r.Intn(40))
		r.Read(b)
		for i := range min(len(b), 3) {
			b[i] = byte(r.Intn(3) / 2 * r.Intn(30) * (i / 2))
		}
		f, n, err := frame.Get(b, 16384)
		if err != nil {
			continue
		}
		taken++
		want := bytes.Clone(b[:n])
		want[5] &= 127
		if again, err := frame.Put(nil, f); !bytes.Equal(again, want) || err != nil {
			t.Fatalf("Put(Get(%v)) = %v, %v", b, again, err)
		}
	}
	if taken < 1000 {
		t.Error("too few were taken:", taken)
	}
}

func TestP5_6OpenOfBuild(t *testing.T) {
	for _, x := range sayings() {
		f, err := frame.Build(x.i)
		if i, fault := frame.Open(f); !sameInfo(i, x.i) || err != nil || fault != nil {
			t.Errorf("Open(Build(%+v)) = %+v, %v, %v", x.i, i, err, fault)
		}
	}
	r := rand.New(rand.NewSource(6))
	built := 0
	for range 100000 {
		i := someInfo(r)
		f, err := frame.Build(i)
		if err != nil {
			continue
		}
		built++
		if back, fault := frame.Open(f); !sameInfo(back, i) || fault != nil {
			t.Fatalf("Open(Build(%+v)) = %+v, %v", i, back, fault)
		}
		// What Build makes goes through bytes, too.
		b, err := frame.Put(nil, f)
		if g, _, fault := frame.Get(b, 16384); !sameFrame(g, f) || err != nil || fault != nil {
			t.Fatalf("Get(Put(%v)) = %v, %v, %v", f, g, err, fault)
		}
	}
	if built < 10000 {
		t.Error("too few were built:", built)
	}
}

func TestP5_7OpenBuildOpen(t *testing.T) {
	r := rand.New(rand.NewSource(7))
	opened, others := 0, 0
	for range 200000 {
		f := someFrame(r)
		i, err := frame.Open(f)
		if err != nil {
			continue
		}
		opened++
		g, err := frame.Build(i)
		if err != nil {
			t.Fatalf("Build(Open(%v)): %v", f, err)
		}
		if again, err := frame.Open(g); !sameInfo(again, i) || err != nil {
			t.Fatalf("Open(Build(Open(%v))) = %+v, %v, not %+v", f, again, err, i)
		}
		if !sameFrame(f, g) {
			others++
		}
		if len(f.Payload) != len(g.Payload) {
			t.Fatalf("Build(Open(%v)) = %v, of another length", f, g)
		}
	}
	if opened < 10000 || others < 1000 {
		t.Error("too few were tried:", opened, others)
	}
}
