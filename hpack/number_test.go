package hpack_test

import (
	"bytes"
	"math"
	"math/rand"
	"testing"

	"parley/api"
	"parley/hpack"
)

func TestP4_1PutInt(t *testing.T) {
	for _, x := range []struct {
		first, bits, n int
		want           []byte
	}{
		{0, 5, 10, []byte{10}},
		{0, 5, 1337, []byte{31, 154, 10}},
		{0, 8, 42, []byte{42}},
		{0, 5, 0, []byte{0}},
		{0, 5, 30, []byte{30}},
		{0, 5, 31, []byte{31, 0}},
		{0, 5, 31 + 127, []byte{31, 127}},
		{0, 5, 31 + 128, []byte{31, 128, 1}},
		{0, 1, 0, []byte{0}},
		{0, 1, 1, []byte{1, 0}},
		{254, 1, 2, []byte{255, 1}},
		{0, 8, 254, []byte{254}},
		{0, 8, 255, []byte{255, 0}},
		{128, 7, 62, []byte{190}},
		{64, 6, 1, []byte{65}},
		{192, 6, 63, []byte{255, 0}},
		{128, 7, 1<<31 - 1, []byte{255, 128, 255, 255, 255, 7}},
		{0, 8, 1<<31 - 1, []byte{255, 128, 254, 255, 255, 7}},
		{254, 1, 1<<31 - 1, []byte{255, 254, 255, 255, 255, 7}},
		// What is no number, no prefix, or no byte beside it.
		{1, 5, 3, nil}, {16, 5, 3, nil}, {31, 5, 3, nil}, {1, 8, 3, nil}, {128, 8, 3, nil}, {1, 1, 0, nil}, {33, 5, 1337, nil},
		{256, 5, 1, nil}, {512, 8, 1, nil}, {-32, 5, 1, nil}, {-256, 8, 1, nil}, {math.MinInt, 5, 1, nil}, {math.MaxInt, 5, 1, nil}, {1 << 32, 5, 1, nil},
		{0, 0, 1, nil}, {0, 9, 1, nil}, {0, -1, 1, nil}, {0, 64, 1, nil}, {0, math.MinInt, 1, nil}, {0, math.MaxInt, 1, nil}, {0, 0, 0, nil},
		{0, 5, -1, nil}, {0, 5, 1 << 31, nil}, {0, 5, 1 << 32, nil}, {0, 5, math.MaxInt, nil}, {0, 5, math.MinInt, nil},
	} {
		if b := hpack.PutInt(nil, x.first, x.bits, x.n); !bytes.Equal(b, x.want) {
			t.Errorf("PutInt(none, %d, %d, %d) = %v, not %v", x.first, x.bits, x.n, b, x.want)
		}
		if b := hpack.PutInt([]byte{7, 200}, x.first, x.bits, x.n); !bytes.Equal(b, append([]byte{7, 200}, x.want...)) {
			t.Errorf("PutInt(7 200, %d, %d, %d) = %v, not 7 200 and %v", x.first, x.bits, x.n, b, x.want)
		}
	}
}

func TestP4_1Int(t *testing.T) {
	for _, x := range []struct {
		b       []byte
		bits    int
		n, size int
		err     error
	}{
		{[]byte{31, 154, 10}, 5, 1337, 3, nil},
		{[]byte{31, 154, 10, 9}, 5, 1337, 3, nil},
		{[]byte{10}, 5, 10, 1, nil},
		{[]byte{10, 255}, 5, 10, 1, nil},
		{[]byte{42}, 8, 42, 1, nil},
		{[]byte{254}, 8, 254, 1, nil},
		{[]byte{255, 0}, 8, 255, 2, nil},
		{[]byte{0}, 1, 0, 1, nil},
		{[]byte{1, 0}, 1, 1, 2, nil},
		// The bits above the prefix are not looked at.
		{[]byte{234}, 5, 10, 1, nil},
		{[]byte{255, 154, 10}, 5, 1337, 3, nil},
		{[]byte{254}, 1, 0, 1, nil},
		// More bytes than needed.
		{[]byte{31, 128, 0}, 5, 31, 3, nil},
		{[]byte{31, 129, 128, 128, 128, 0}, 5, 32, 6, nil},
		{[]byte{31, 128, 128, 128, 128, 0}, 5, 31, 6, nil},
		// The greatest number, and the next one.
		{[]byte{31, 224, 255, 255, 255, 7}, 5, 1<<31 - 1, 6, nil},
		{[]byte{31, 225, 255, 255, 255, 7}, 5, 0, 0, api.ErrLong},
		{[]byte{127, 128, 255, 255, 255, 7}, 7, 1<<31 - 1, 6, nil},
		{[]byte{127, 129, 255, 255, 255, 7}, 7, 0, 0, api.ErrLong},
		{[]byte{255, 128, 254, 255, 255, 7}, 8, 1<<31 - 1, 6, nil},
		{[]byte{255, 129, 254, 255, 255, 7}, 8, 0, 0, api.ErrLong},
		{[]byte{31, 128, 128, 128, 128, 8}, 5, 0, 0, api.ErrLong},
		{[]byte{31, 128, 128, 128, 128, 16}, 5, 0, 0, api.ErrLong}, // 2 to the 32nd more
		{[]byte{31, 255, 255, 255, 255, 127}, 5, 0, 0, api.ErrLong},
		// Five bytes with the bit 128: as soon as they are there.
		{[]byte{31, 128, 128, 128, 128, 128, 0}, 5, 0, 0, api.ErrLong},
		{[]byte{31, 128, 128, 128, 128, 128}, 5, 0, 0, api.ErrLong},
		{[]byte{31, 255, 255, 255, 255, 255}, 5, 0, 0, api.ErrLong},
		{[]byte{31, 255, 255, 255, 255, 255, 255, 1}, 5, 0, 0, api.ErrLong},
		// Too few bytes.
		{nil, 5, 0, 0, api.ErrEnd},
		{[]byte{}, 8, 0, 0, api.ErrEnd},
		{[]byte{31}, 5, 0, 0, api.ErrEnd},
		{[]byte{255}, 8, 0, 0, api.ErrEnd},
		{[]byte{31, 128}, 5, 0, 0, api.ErrEnd},
		{[]byte{31, 255, 255, 255, 255}, 5, 0, 0, api.ErrEnd},
		// No prefix: told ahead of what the bytes are.
		{nil, 0, 0, 0, api.ErrLong},
		{nil, 9, 0, 0, api.ErrLong},
		{[]byte{1}, 0, 0, 0, api.ErrLong},
		{[]byte{1}, 9, 0, 0, api.ErrLong},
		{[]byte{1}, -1, 0, 0, api.ErrLong},
		{[]byte{1}, 64, 0, 0, api.ErrLong},
		{[]byte{1}, math.MinInt, 0, 0, api.ErrLong},
		{[]byte{1}, math.MaxInt, 0, 0, api.ErrLong},
	} {
		if n, size, err := hpack.Int(x.b, x.bits); n != x.n || size != x.size || err != x.err {
			t.Errorf("Int(%v, %d) = %d, %d, %v, not %d, %d, %v", x.b, x.bits, n, size, err, x.n, x.size, x.err)
		}
	}
}

func TestP4_1IntOfPutInt(t *testing.T) {
	numbers := []int{0, 1, 2, 1<<31 - 1, 1<<31 - 2, 1 << 30, 1000000}
	for shift := 1; shift < 31; shift++ {
		for bits := 1; bits <= 8; bits++ {
			for by := -2; by <= 1; by++ {
				numbers = append(numbers, min(1<<31-1, max(0, 1<<shift+1<<bits+by)))
			}
		}
	}
	for bits := 1; bits <= 8; bits++ {
		for first := 0; first < 256; first += 1 << bits {
			for _, n := range numbers {
				want := refInt(first, bits, n)
				b := hpack.PutInt(nil, first, bits, n)
				if !bytes.Equal(b, want) {
					t.Fatalf("PutInt(none, %d, %d, %d) = %v, not %v", first, bits, n, b, want)
				}
				if back, size, err := hpack.Int(append(b, 255), bits); back != n || size != len(want) || err != nil {
					t.Fatalf("Int(%v, %d) = %d, %d, %v, not %d", b, bits, back, size, err, n)
				}
				for cut := range want {
					if back, size, err := hpack.Int(want[:cut], bits); back != 0 || size != 0 || err != api.ErrEnd {
						t.Fatalf("Int(%v, %d) = %d, %d, %v", want[:cut], bits, back, size, err)
					}
				}
			}
		}
	}
}

func TestP4_1IntOfAnyBytes(t *testing.T) {
	r := rand.New(rand.NewSource(1))
	for range 50000 {
		b := make([]byte, r.Intn(9))
		for i := range b {
			b[i] = byte(r.Intn(256))
			if r.Intn(2) == 0 {
				b[i] |= 159
			}
		}
		bits := 1 + r.Intn(8)
		want, rest, fault := takeInt(b, bits)
		size := len(b) - len(rest)
		if fault != nil {
			size = 0
		}
		if n, got, err := hpack.Int(b, bits); n != want || got != size || err != fault {
			t.Fatalf("Int(%v, %d) = %d, %d, %v, not %d, %d, %v", b, bits, n, got, err, want, size, fault)
		}
	}
}
