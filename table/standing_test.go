package table_test

import (
	"math"
	"strconv"
	"strings"
	"testing"

	"parley/api"
	"parley/table"
)

func TestP3_1Static(t *testing.T) {
	l := standing()
	if len(l) != 61 || !strings.HasSuffix(chapter, "61 www-authenticate") {
		t.Fatal("the reference has", len(l))
	}
	for i, s := range strings.Split(chapter, "; ") {
		if !strings.HasPrefix(s, strconv.Itoa(i+1)+" ") {
			t.Fatal("the reference:", i+1, s)
		}
	}
	for i, want := range l {
		if h, ok := table.Static(i + 1); h != want || !ok {
			t.Errorf("Static(%d) = %v, %t, not %v", i+1, h, ok, want)
		}
	}
	for _, i := range []int{0, -1, -61, 62, 63, 122, 256 + 2, 1 << 32, 1<<32 + 2, math.MaxInt, math.MinInt} {
		if h, ok := table.Static(i); h != (api.Header{}) || ok {
			t.Errorf("Static(%d) = %v, %t", i, h, ok)
		}
	}
}

func TestP3_1Size(t *testing.T) {
	for _, x := range []struct {
		h    api.Header
		want int
	}{
		{api.Header{}, 32},
		{api.Header{Name: "a", Value: "bc"}, 35},
		{api.Header{Name: "abc"}, 35},
		{api.Header{Value: "abc"}, 35},
		{api.Header{Name: "a", Value: "bc", Never: true}, 35},
		{api.Header{Name: "\u00e4", Value: "\u20ac\x00\xff"}, 39}, // bytes, not characters
		{api.Header{Name: strings.Repeat("n", 5000), Value: strings.Repeat("v", 70000)}, 75032},
	} {
		if n := table.Size(x.h); n != x.want {
			t.Errorf("Size(%.20q, %.20q) = %d, not %d", x.h.Name, x.h.Value, n, x.want)
		}
	}
}

func TestP3_1Examples(t *testing.T) {
	for i, want := range map[int]api.Header{2: {Name: ":method", Value: "GET"}, 61: {Name: "www-authenticate"}} {
		if h, ok := table.Static(i); h != want || !ok {
			t.Errorf("Static(%d) = %v, %t", i, h, ok)
		}
	}
}
