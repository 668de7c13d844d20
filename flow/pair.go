package flow

import "parley/api"

// Pair is two windows that the same bytes go through, as those of a stream and of its connection. It knows of them only what it asks of them.
type Pair struct {
	rooms []func(n int) int
	drops []func(n int)
}

// Both makes the pair of a and b. Where they are the same window, it is in the pair once, or the bytes would be taken from it twice.
func Both(a, b *Window) *Pair {
	p := &Pair{}
	p.add(a)
	if b != a {
		p.add(b)
	}
	return p
}

func (p *Pair) add(w *Window) {
	p.rooms = append(p.rooms, w.Room)
	p.drops = append(p.drops, w.drop)
}

// Room is how many of n bytes may be taken from both.
func (p *Pair) Room(n int) int {
	n = max(0, n)
	for _, room := range p.rooms {
		n = min(n, room(n))
	}
	return n
}

// Take takes n bytes from both, or from neither.
func (p *Pair) Take(n int) error {
	if n < 0 {
		return api.ErrNumber
	}
	// Both are asked ahead: the first must not have taken what the second one then refuses.
	if p.Room(n) < n {
		return api.ErrWindow
	}
	for _, drop := range p.drops {
		drop(n)
	}
	return nil
}
