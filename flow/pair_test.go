package flow_test

import (
	"math"
	"testing"

	"parley/api"
	"parley/flow"
)

func TestP7_4Room(t *testing.T) {
	for _, x := range []struct{ a, b, n, want int }{
		{5, 3, 9, 3}, {3, 5, 9, 3}, {5, 3, 2, 2}, {5, 3, 3, 3}, {5, 3, 4, 3}, {5, 3, 0, 0}, {5, 3, -1, 0},
		{5, 0, 9, 0}, {0, 5, 9, 0}, {5, -2, 9, 0}, {-2, 5, 9, 0}, {-2, -3, 9, 0}, {-2, -3, -4, 0}, {-2, -3, 0, 0},
		{most, most, most, most}, {most, most, math.MaxInt, most}, {most, most - 1, math.MaxInt, most - 1}, {most, most, math.MinInt, 0}, {-most, most, most, 0},
		{4, 4, 9, 4},
	} {
		a, b := window(t, x.a), window(t, x.b)
		if got := flow.Both(a, b).Room(x.n); got != x.want {
			t.Errorf("Both(%d, %d).Room(%d) = %d, not %d", x.a, x.b, x.n, got, x.want)
		}
		left(t, a, x.a)
		left(t, b, x.b)
	}
}

func TestP7_4Take(t *testing.T) {
	for _, x := range []struct {
		a, b, n int
		want    error
	}{
		{5, 3, 2, nil}, {5, 3, 3, nil}, {3, 5, 3, nil}, {5, 3, 0, nil}, {4, 4, 4, nil}, {most, most, most, nil},
		{5, 3, 4, api.ErrWindow}, {3, 5, 4, api.ErrWindow}, {5, 3, 6, api.ErrWindow}, {5, 0, 1, api.ErrWindow}, {0, 5, 1, api.ErrWindow},
		{5, -2, 1, api.ErrWindow}, {-2, 5, 1, api.ErrWindow}, {most, most - 1, most, api.ErrWindow}, {most, most, most + 1, api.ErrWindow}, {most, most, math.MaxInt, api.ErrWindow},
		{0, 0, 0, nil}, {5, -2, 0, nil}, {-2, 5, 0, nil}, {-2, -3, 0, nil}, {-most, -most, 0, nil},
		{5, 3, -1, api.ErrNumber}, {-2, -3, -1, api.ErrNumber}, {-2, -3, -9, api.ErrNumber}, {0, 0, -1, api.ErrNumber}, {5, 3, math.MinInt, api.ErrNumber},
	} {
		a, b := window(t, x.a), window(t, x.b)
		if err := flow.Both(a, b).Take(x.n); err != x.want {
			t.Errorf("Both(%d, %d).Take(%d): %v, not %v", x.a, x.b, x.n, err, x.want)
		}
		n := x.n
		if x.want != nil {
			n = 0
		}
		left(t, a, x.a-n)
		left(t, b, x.b-n)
	}
}

// The row of the chapter's examples.
func TestP7_4Example(t *testing.T) {
	a, b := window(t, 5), window(t, 3)
	p := flow.Both(a, b)
	if n := p.Room(9); n != 3 {
		t.Error("Room(9) =", n)
	}
	asked(t, "Take", 4, p.Take(4), api.ErrWindow)
	asked(t, "Take", 3, p.Take(3), nil)
	left(t, a, 2)
	left(t, b, 0)
}

func TestP7_4SameWindow(t *testing.T) {
	w := window(t, 5)
	p := flow.Both(w, w)
	if n := p.Room(9); n != 5 {
		t.Error("Room(9) =", n)
	}
	asked(t, "Take", 2, p.Take(2), nil)
	left(t, w, 3)
	asked(t, "Take", 3, p.Take(3), nil)
	left(t, w, 0)
	asked(t, "Take", 1, p.Take(1), api.ErrWindow)
	asked(t, "Take", -1, p.Take(-1), api.ErrNumber)
	asked(t, "Shift", -1, w.Shift(-1), nil)
	asked(t, "Take", 0, p.Take(0), nil)
	left(t, w, -1)
}

// Two windows with as much left are not the same one.
func TestP7_4AlikeNotSame(t *testing.T) {
	a, b := window(t, 4), window(t, 4)
	asked(t, "Take", 3, flow.Both(a, b).Take(3), nil)
	left(t, a, 1)
	left(t, b, 1)
}

// A pair has no count of its own: it asks the windows each time.
func TestP7_4GoesByItsWindows(t *testing.T) {
	a, b := window(t, 5), window(t, 3)
	p := flow.Both(a, b)
	asked(t, "Give", 4, b.Give(4), nil)
	if n := p.Room(9); n != 5 {
		t.Error("behind Give: Room(9) =", n)
	}
	asked(t, "Take", 3, a.Take(3), nil)
	if n := p.Room(9); n != 2 {
		t.Error("behind Take: Room(9) =", n)
	}
	asked(t, "Shift", -9, b.Shift(-9), nil)
	if n := p.Room(9); n != 0 {
		t.Error("behind Shift: Room(9) =", n)
	}
	asked(t, "Take", 1, p.Take(1), api.ErrWindow)
	asked(t, "Give", 4, b.Give(4), nil)
	asked(t, "Take", 2, p.Take(2), nil)
	left(t, a, 0)
	left(t, b, 0)
}

// The streams of a connection share its window.
func TestP7_4SharedWindow(t *testing.T) {
	whole, one, two := window(t, 10), window(t, 7), window(t, 8)
	p, q := flow.Both(whole, one), flow.Both(two, whole)
	asked(t, "Take", 6, p.Take(6), nil)
	if n := q.Room(9); n != 4 {
		t.Error("Room(9) =", n)
	}
	asked(t, "Take", 5, q.Take(5), api.ErrWindow)
	asked(t, "Take", 4, q.Take(4), nil)
	asked(t, "Take", 1, p.Take(1), api.ErrWindow)
	left(t, whole, 0)
	left(t, one, 1)
	left(t, two, 4)
}
