package huff_test

import (
	"math"
	"slices"
	"testing"

	"parley/huff"
)

// beside is numbers that are no symbol.
func beside() []int {
	return []int{-1, -2, -256, -257, 257, 258, 511, 512, 1 << 16, 1 << 32, 1<<32 + 48, -1 << 32, math.MaxInt64, math.MinInt64}
}

func TestP2_1Bits(t *testing.T) {
	for symbol, want := range table() {
		if n, ok := huff.Bits(symbol); n != want || !ok {
			t.Errorf("Bits(%d) = %d, %t, not %d", symbol, n, ok, want)
		}
	}
	for _, symbol := range beside() {
		if n, ok := huff.Bits(symbol); n != 0 || ok {
			t.Errorf("Bits(%d) = %d, %t", symbol, n, ok)
		}
	}
}

func TestP2_1Code(t *testing.T) {
	for symbol, want := range numbers() {
		if c, ok := huff.Code(symbol); c != want || !ok {
			t.Errorf("Code(%d) = %d, %t, not %d", symbol, c, ok, want)
		}
	}
	for _, symbol := range beside() {
		if c, ok := huff.Code(symbol); c != 0 || ok {
			t.Errorf("Code(%d) = %d, %t", symbol, c, ok)
		}
	}
}

func TestP2_1Examples(t *testing.T) {
	for symbol, want := range map[int]int{48: 5} {
		if n, ok := huff.Bits(symbol); n != want || !ok {
			t.Errorf("Bits(%d) = %d, %t, not %d", symbol, n, ok, want)
		}
	}
	for symbol, want := range map[int]uint32{48: 0, 97: 3, 32: 20, 255: 67108846, 256: 1073741823} {
		if c, ok := huff.Code(symbol); c != want || !ok {
			t.Errorf("Code(%d) = %d, %t, not %d", symbol, c, ok, want)
		}
	}
	if n, ok := huff.Bits(257); n != 0 || ok {
		t.Errorf("Bits(257) = %d, %t", n, ok)
	}
}

// The codes are handed out by rising bits, then by rising symbols, each one the one ahead and 1.
func TestP2_1CodesFollowOneAnother(t *testing.T) {
	order := make([]int, 0, 257)
	for symbol := range 257 {
		order = append(order, symbol)
	}
	slices.SortStableFunc(order, func(x, y int) int {
		a, _ := huff.Bits(x)
		b, _ := huff.Bits(y)
		return a - b
	})
	if c, _ := huff.Code(order[0]); c != 0 || order[0] != 48 {
		t.Errorf("the first code, of %d, is %d", order[0], c)
	}
	for i := 1; i < len(order); i++ {
		ahead, _ := huff.Code(order[i-1])
		was, _ := huff.Bits(order[i-1])
		c, _ := huff.Code(order[i])
		n, _ := huff.Bits(order[i])
		if c != (ahead+1)<<(n-was) {
			t.Errorf("Code(%d) = %d, behind %d", order[i], c, ahead)
		}
	}
}

func TestP2_6NoCodeBeginsAnotherOnes(t *testing.T) {
	for x := range 257 {
		a, n := mustCode(t, x)
		for y := range 257 {
			b, m := mustCode(t, y)
			if x != y && n <= m && b>>(m-n) == a {
				t.Errorf("the code of %d begins that of %d", x, y)
			}
		}
	}
}

func mustCode(t *testing.T, symbol int) (uint32, int) {
	t.Helper()
	c, ok := huff.Code(symbol)
	n, is := huff.Bits(symbol)
	if !ok || !is || uint64(c)>>n != 0 {
		t.Fatalf("the code of %d is %d of %d bits", symbol, c, n)
	}
	return c, n
}

func TestP2_6Sum(t *testing.T) {
	sum := 0
	for symbol := range 257 {
		n, ok := huff.Bits(symbol)
		if !ok || n > 30 {
			t.Fatalf("Bits(%d) = %d, %t", symbol, n, ok)
		}
		sum += 1 << (30 - n)
	}
	if sum != 1<<30 {
		t.Errorf("the sum is %d, not 2^30", sum)
	}
}
