package flow_test

import (
	"math"
	"testing"

	"parley/api"
	"parley/flow"
)

// window makes one of n bytes; n below 0 is reached by a shift, for no window begins there.
func window(t *testing.T, n int) *flow.Window {
	t.Helper()
	w, err := flow.New(max(n, 0))
	if err != nil || w == nil {
		t.Fatalf("New(%d) = %v, %v", max(n, 0), w, err)
	}
	if n < 0 {
		asked(t, "Shift", n, w.Shift(n), nil)
	}
	left(t, w, n)
	return w
}

func left(t *testing.T, w *flow.Window, want int) {
	t.Helper()
	if got := w.Left(); got != want {
		t.Errorf("Left() = %d, not %d", got, want)
	}
}

func asked(t *testing.T, call string, n int, got, want error) {
	t.Helper()
	if got != want {
		t.Errorf("%s(%d): %v, not %v", call, n, got, want)
	}
}

func TestP7_1New(t *testing.T) {
	for _, n := range []int{0, 1, 2, 65535, 65536, 1 << 30, api.MaxWindow - 1, api.MaxWindow} {
		w, err := flow.New(n)
		if err != nil || w == nil {
			t.Errorf("New(%d) = %v, %v", n, w, err)
			continue
		}
		left(t, w, n)
		left(t, w, n)
	}
}

func TestP7_1NewRefuses(t *testing.T) {
	for _, n := range []int{-1, -2, -api.MaxWindow, -api.MaxWindow - 1, math.MinInt, api.MaxWindow + 1, api.MaxWindow + 2, 1 << 32, 1<<32 + 5, 1 << 40, math.MaxInt} {
		if w, err := flow.New(n); w != nil || err != api.ErrNumber {
			t.Errorf("New(%d) = %v, %v", n, w, err)
		}
	}
}

// Windows are apart from each other.
func TestP7_1Apart(t *testing.T) {
	a, b := window(t, 7), window(t, 7)
	asked(t, "Take", 5, a.Take(5), nil)
	left(t, a, 2)
	left(t, b, 7)
}

func TestP7_1LeftBelowNone(t *testing.T) {
	w := window(t, 0)
	asked(t, "Shift", -1, w.Shift(-1), nil)
	left(t, w, -1)
	asked(t, "Shift", 1-api.MaxWindow, w.Shift(1-api.MaxWindow), nil)
	left(t, w, -api.MaxWindow)
}

// step: what a call answers on a window, and what is left then.
type step struct {
	from, n int
	want    error
	left    int
}

func steps(t *testing.T, call string, do func(*flow.Window, int) error, of []step) {
	t.Helper()
	for _, s := range of {
		w := window(t, s.from)
		if err := do(w, s.n); err != s.want || w.Left() != s.left {
			t.Errorf("%s(%d) of %d left: %v and %d left, not %v and %d", call, s.n, s.from, err, w.Left(), s.want, s.left)
		}
	}
}

const most = api.MaxWindow

func TestP7_2Take(t *testing.T) {
	steps(t, "Take", (*flow.Window).Take, []step{
		{10, 4, nil, 6},
		{10, 10, nil, 0},
		{10, 11, api.ErrWindow, 10},
		{10, 0, nil, 10},
		{0, 0, nil, 0},
		{0, 1, api.ErrWindow, 0},
		{-1, 0, nil, -1},
		{-1, 1, api.ErrWindow, -1},
		{-most, 0, nil, -most},
		{-most, most, api.ErrWindow, -most},
		{-most, math.MaxInt, api.ErrWindow, -most},
		{most, most, nil, 0},
		{most, most + 1, api.ErrWindow, most},
		{most, 1<<32 + 1, api.ErrWindow, most},
		{most, math.MaxInt, api.ErrWindow, most},
		{10, -1, api.ErrNumber, 10},
		{0, -1, api.ErrNumber, 0},
		{-5, -1, api.ErrNumber, -5},
		{-5, -5, api.ErrNumber, -5},
		{-5, -6, api.ErrNumber, -5},
		{10, math.MinInt, api.ErrNumber, 10},
		{-most, math.MinInt, api.ErrNumber, -most},
	})
}

func TestP7_2Give(t *testing.T) {
	steps(t, "Give", (*flow.Window).Give, []step{
		{10, 1, nil, 11},
		{0, 1, nil, 1},
		{0, most, nil, most},
		{1, most, api.ErrWindow, 1},
		{1, most - 1, nil, most},
		{most, 1, api.ErrWindow, most},
		{most - 1, 1, nil, most},
		{most - 1, 2, api.ErrWindow, most - 1},
		{most, most, api.ErrWindow, most},
		{-1, 1, nil, 0},
		{-1, most, nil, most - 1},
		{-most, most, nil, 0},
		{10, 0, api.ErrNumber, 10},
		{10, -1, api.ErrNumber, 10},
		{-10, 0, api.ErrNumber, -10},
		{most, 0, api.ErrNumber, most},
		{most, most + 1, api.ErrNumber, most},
		{0, most + 1, api.ErrNumber, 0},
		{-5, most + 1, api.ErrNumber, -5},
		{-most, 1 << 32, api.ErrNumber, -most},
		{10, math.MaxInt, api.ErrNumber, 10},
		{10, math.MinInt, api.ErrNumber, 10},
	})
}

func TestP7_2Shift(t *testing.T) {
	steps(t, "Shift", (*flow.Window).Shift, []step{
		{10, 5, nil, 15},
		{10, 0, nil, 10},
		{10, -5, nil, 5},
		{10, -10, nil, 0},
		{10, -20, nil, -10},
		{-10, 5, nil, -5},
		{-10, 0, nil, -10},
		{0, most, nil, most},
		{1, most, api.ErrWindow, 1},
		{most, 1, api.ErrWindow, most},
		{most, 0, nil, most},
		{most, most, api.ErrWindow, most},
		{most, -most, nil, 0},
		{0, -most, nil, -most},
		{-1, -most, api.ErrWindow, -1},
		{1, -most, nil, 1 - most},
		{-most, -1, api.ErrWindow, -most},
		{-most, 0, nil, -most},
		{-most, -most, api.ErrWindow, -most},
		{-most, most, nil, 0},
		{1 - most, -1, nil, -most},
		{1 - most, -2, api.ErrWindow, 1 - most},
		{0, most + 1, api.ErrNumber, 0},
		{0, -most - 1, api.ErrNumber, 0},
		{-5, most + 1, api.ErrNumber, -5},
		{5, -most - 1, api.ErrNumber, 5},
		{most, most + 1, api.ErrNumber, most},
		{-most, -most - 1, api.ErrNumber, -most},
		{0, 1 << 32, api.ErrNumber, 0},
		{0, -1 << 32, api.ErrNumber, 0},
		{10, math.MaxInt, api.ErrNumber, 10},
		{10, math.MinInt, api.ErrNumber, 10},
	})
}

// The row of the chapter's examples.
func TestP7_2Example(t *testing.T) {
	w := window(t, 10)
	asked(t, "Take", 4, w.Take(4), nil)
	left(t, w, 6)
	asked(t, "Take", 7, w.Take(7), api.ErrWindow)
	asked(t, "Give", most, w.Give(most), api.ErrWindow)
	asked(t, "Shift", -20, w.Shift(-20), nil)
	left(t, w, -14)
	asked(t, "Take", 0, w.Take(0), nil)
	if n := w.Room(5); n != 0 {
		t.Error("Room(5) =", n)
	}
	asked(t, "Give", 0, w.Give(0), api.ErrNumber)
	asked(t, "Take", -1, w.Take(-1), api.ErrNumber)
	left(t, w, -14)
}

// A fault is no end: the window goes on as if it had not been asked.
func TestP7_2GoesOn(t *testing.T) {
	w := window(t, 3)
	asked(t, "Take", 4, w.Take(4), api.ErrWindow)
	asked(t, "Take", 3, w.Take(3), nil)
	asked(t, "Take", 1, w.Take(1), api.ErrWindow)
	asked(t, "Give", 1, w.Give(1), nil)
	asked(t, "Take", 1, w.Take(1), nil)
	left(t, w, 0)
}

func TestP7_3Room(t *testing.T) {
	for _, x := range []struct{ left, n, want int }{
		{10, 0, 0}, {10, 1, 1}, {10, 9, 9}, {10, 10, 10}, {10, 11, 10}, {10, -1, 0}, {10, math.MaxInt, 10}, {10, math.MinInt, 0},
		{0, 0, 0}, {0, 1, 0}, {0, -1, 0}, {0, math.MaxInt, 0},
		{-1, 0, 0}, {-1, 1, 0}, {-1, -1, 0}, {-1, -2, 0}, {-14, 5, 0}, {-14, -20, 0},
		{-most, most, 0}, {-most, -most, 0}, {-most, math.MinInt, 0}, {-most, math.MaxInt, 0},
		{most, most, most}, {most, most - 1, most - 1}, {most, most + 1, most}, {most, 1 << 32, most}, {most, 1<<32 + 7, most}, {most, -1 << 32, 0}, {most, 7 - 1<<32, 0},
	} {
		w := window(t, x.left)
		if got := w.Room(x.n); got != x.want {
			t.Errorf("Room(%d) of %d left = %d, not %d", x.n, x.left, got, x.want)
		}
		left(t, w, x.left)
	}
}
