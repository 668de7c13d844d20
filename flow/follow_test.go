package flow_test

import (
	"math"
	"math/big"
	"math/rand"
	"testing"

	"parley/api"
	"parley/flow"
)

// count is a window as the chapter tells it, in numbers without bounds: what it began with, and each change since.
type count []int

func (c count) left() *big.Int {
	sum := new(big.Int)
	for _, n := range c {
		sum.Add(sum, big.NewInt(int64(n)))
	}
	return sum
}

func (c count) behind(n int) *big.Int {
	return append(c[:len(c):len(c)], n).left()
}

func above(a *big.Int, n int) bool {
	return a.Cmp(big.NewInt(int64(n))) > 0
}

func below(a *big.Int, n int) bool {
	return a.Cmp(big.NewInt(int64(n))) < 0
}

func (c count) takeFault(n int) error {
	switch {
	case n < 0:
		return api.ErrNumber
	case n > 0 && below(c.left(), n):
		return api.ErrWindow
	}
	return nil
}

func (c count) giveFault(n int) error {
	switch {
	case n < 1 || n > api.MaxWindow:
		return api.ErrNumber
	case above(c.behind(n), api.MaxWindow):
		return api.ErrWindow
	}
	return nil
}

func (c count) shiftFault(by int) error {
	switch {
	case by < -api.MaxWindow || by > api.MaxWindow:
		return api.ErrNumber
	case above(c.behind(by), api.MaxWindow) || below(c.behind(by), -api.MaxWindow):
		return api.ErrWindow
	}
	return nil
}

func (c count) room(n int) int {
	switch {
	case n < 0 || below(c.left(), 0):
		return 0
	case below(c.left(), n):
		return int(c.left().Int64())
	}
	return n
}

// begin is the count of a window of n bytes.
func begin(n int) *count {
	return &count{n}
}

// log keeps a change that had no fault; those that are old go into one, or the sums would grow long.
func (c *count) log(n int, fault error) {
	if fault == nil {
		*c = append(*c, n)
	}
	if len(*c) > 20 {
		*c = count{int(c.left().Int64())}
	}
}

// some number: small ones, those about the bounds and about what is left, and those that pass 32 bits.
func some(r *rand.Rand, w *flow.Window) int {
	near := r.Intn(5) - 2
	switch r.Intn(12) {
	case 0:
		return w.Left() + near
	case 1:
		return api.MaxWindow - w.Left() + near
	case 2:
		return -api.MaxWindow - w.Left() + near
	case 3:
		return api.MaxWindow + near
	case 4:
		return -api.MaxWindow + near
	case 5:
		return 1<<32 + near
	case 6:
		return r.Intn(api.MaxWindow)
	case 7:
		return -r.Intn(api.MaxWindow)
	case 8:
		return []int{math.MinInt, math.MaxInt, math.MinInt + 1, math.MaxInt - 1}[r.Intn(4)]
	}
	return r.Intn(41) - 20
}

// TestP7_5Follow steps windows and pairs over them by chance, each held against its count.
func TestP7_5Follow(t *testing.T) {
	r := rand.New(rand.NewSource(7))
	passed := map[string]int{}
	for range 800 {
		var ws []*flow.Window
		var cs []*count
		for range 3 {
			n := []int{0, 10, 65535, api.MaxWindow, r.Intn(api.MaxWindow)}[r.Intn(5)]
			ws, cs = append(ws, window(t, n)), append(cs, begin(n))
		}
		for range 200 {
			i, j := r.Intn(3), r.Intn(3)
			n := some(r, ws[i])
			passed[stepOne(t, r, ws, cs, i, j, n)]++
			for k := range ws {
				if want := cs[k].left(); want.Cmp(big.NewInt(int64(ws[k].Left()))) != 0 {
					t.Fatalf("Left() = %d, not %v", ws[k].Left(), want)
				}
			}
		}
	}
	for _, call := range []string{"Take", "Give", "Shift", "Both"} {
		if passed[call] < 2000 {
			t.Error("too few went well:", call, passed[call])
		}
	}
}

// stepOne tells which call went well.
func stepOne(t *testing.T, r *rand.Rand, ws []*flow.Window, cs []*count, i, j, n int) string {
	t.Helper()
	w, c, before := ws[i], cs[i], ws[i].Left()
	call, by, got, want := "", n, error(nil), error(nil)
	switch r.Intn(6) {
	case 0:
		call, by, got, want = "Take", -n, w.Take(n), c.takeFault(n)
	case 1:
		call, got, want = "Give", w.Give(n), c.giveFault(n)
	case 2:
		call, got, want = "Shift", w.Shift(n), c.shiftFault(n)
	case 3:
		if room := w.Room(n); room != c.room(n) {
			t.Fatalf("Room(%d) of %d left = %d, not %d", n, before, room, c.room(n))
		}
		return "Room"
	case 4:
		if room := flow.Both(w, ws[j]).Room(n); room != min(c.room(n), cs[j].room(n)) {
			t.Fatalf("Both(%d, %d).Room(%d) = %d", before, ws[j].Left(), n, room)
		}
		return "Room"
	case 5:
		call, by, want = "Both", -n, c.takeFault(n)
		if want == nil {
			want = cs[j].takeFault(n)
		}
		got = flow.Both(w, ws[j]).Take(n)
		if i != j {
			cs[j].log(by, want)
		}
	}
	if got != want {
		t.Fatalf("%s(%d) of %d left: %v, not %v", call, n, before, got, want)
	}
	c.log(by, want)
	if want != nil {
		return "fault"
	}
	return call
}

// What Room lets be taken is taken without fault, from a window and from a pair, and one more is refused.
func TestP7_5TakeOfRoom(t *testing.T) {
	for _, a := range []int{-most, -5, -1, 0, 1, 5, 6, 16384, most - 1, most} {
		for _, n := range []int{math.MinInt, -most, -1, 0, 1, 5, 6, 7, 16384, 16385, most, most + 1, math.MaxInt} {
			w := window(t, a)
			room := w.Room(n)
			asked(t, "Take", room, w.Take(room), nil)
			left(t, w, a-room)
			if n > room {
				asked(t, "Take", 1, w.Take(1), api.ErrWindow)
			}
			for _, b := range []int{-most, -1, 0, 4, 5, 20000, most} {
				takeOfPairRoom(t, a, b, n)
			}
		}
	}
}

func takeOfPairRoom(t *testing.T, a, b, n int) {
	t.Helper()
	v, w := window(t, a), window(t, b)
	p := flow.Both(v, w)
	room := p.Room(n)
	asked(t, "Take", room, p.Take(room), nil)
	left(t, v, a-room)
	left(t, w, b-room)
	if n > room {
		asked(t, "Take", 1, p.Take(1), api.ErrWindow)
	}
}

// Every small history: what is left is the sum.
func TestP7_5SmallHistories(t *testing.T) {
	calls := []struct {
		do func(*flow.Window) error
		by int
	}{
		{func(w *flow.Window) error { return w.Take(3) }, -3},
		{func(w *flow.Window) error { return w.Take(0) }, 0},
		{func(w *flow.Window) error { return w.Give(2) }, 2},
		{func(w *flow.Window) error { return w.Shift(-4) }, -4},
		{func(w *flow.Window) error { return w.Shift(5) }, 5},
		{func(w *flow.Window) error { return w.Give(0) }, 0},
		{func(w *flow.Window) error { return flow.Both(w, w).Take(1) }, -1},
	}
	for path := range 7 * 7 * 7 * 7 * 7 {
		w, sum := window(t, 4), 4
		for range 5 {
			c := calls[path%7]
			path /= 7
			if c.do(w) == nil {
				sum += c.by
			}
		}
		left(t, w, sum)
	}
}
