package hpack_test

import (
	"bytes"
	"math/rand"
	"slices"
	"strings"
	"testing"

	"parley/api"
	"parley/hpack"
	"parley/huff"
	"parley/table"
)

// The reference shares nothing with the package: its table is a list, its blocks are made and taken apart piece by piece.

// model is what an encoder or a decoder is to be.
type model struct {
	most, limit int
	l           []api.Header // the newest first
	gone        bool
	sizes       []int // that were asked for since the last block
}

func sizeOf(l []api.Header) int {
	n := 0
	for _, h := range l {
		n += len(h.Name) + len(h.Value) + 32
	}
	return n
}

func (m *model) add(h api.Header) {
	h.Never = false
	m.l = slices.Insert(slices.Clone(m.l), 0, h)
	m.cut()
}

func (m *model) resize(most int) {
	m.most = most
	m.cut()
}

func (m *model) cut() {
	for sizeOf(m.l) > m.most {
		m.l = m.l[:len(m.l)-1]
	}
}

// all is the headers by their indexes, less 1.
func (m *model) all() []api.Header {
	var l []api.Header
	for i := 1; i <= 61; i++ {
		h, _ := table.Static(i)
		l = append(l, h)
	}
	return append(l, m.l...)
}

func refInt(first, bits, n int) []byte {
	most := 1<<bits - 1
	if n < most {
		return []byte{byte(first + n)}
	}
	b := []byte{byte(first + most)}
	for n -= most; ; n /= 128 {
		if n/128 == 0 {
			return append(b, byte(n))
		}
		b = append(b, byte(n%128+128))
	}
}

func refText(s string) []byte {
	code := huff.Encode(s)
	if len(code) < len(s) {
		return append(refInt(128, 7, len(code)), code...)
	}
	return append(refInt(0, 7, len(s)), s...)
}

func (m *model) encode(l []api.Header) []byte {
	var b []byte
	if len(m.sizes) > 0 {
		last := m.sizes[len(m.sizes)-1]
		if least := slices.Min(m.sizes); least < last {
			b = append(b, refInt(32, 5, least)...)
		}
		b = append(b, refInt(32, 5, last)...)
		m.sizes = nil
	}
	for _, h := range l {
		b = append(b, m.header(h)...)
	}
	return b
}

func (m *model) header(h api.Header) []byte {
	all := m.all()
	i := 1 + slices.IndexFunc(all, func(x api.Header) bool { return x.Name == h.Name && x.Value == h.Value })
	if i > 0 && !h.Never {
		return refInt(128, 7, i)
	}
	if i == 0 {
		i = 1 + slices.IndexFunc(all, func(x api.Header) bool { return x.Name == h.Name })
	}
	first, bits := 64, 6
	if h.Never {
		first, bits = 16, 4
	} else if sizeOf([]api.Header{h}) > m.most {
		first, bits = 0, 4
	} else {
		m.add(h)
	}
	b := refInt(first, bits, i)
	if i == 0 {
		b = append(b, refText(h.Name)...)
	}
	return append(b, refText(h.Value)...)
}

// takeInt is the number that b begins with, and what is behind it.
func takeInt(b []byte, bits int) (int, []byte, error) {
	if len(b) == 0 {
		return 0, nil, api.ErrEnd
	}
	most := 1<<bits - 1
	n := int(b[0]) % (most + 1)
	if n < most {
		return n, b[1:], nil
	}
	behind := b[1:]
	end := slices.IndexFunc(behind, func(c byte) bool { return c < 128 })
	if end < 0 && len(behind) < 5 {
		return 0, nil, api.ErrEnd
	}
	if end < 0 || end >= 5 {
		return 0, nil, api.ErrLong
	}
	more := 0
	for i := end; i >= 0; i-- {
		more = more*128 + int(behind[i])%128
	}
	if n+more > 2147483647 {
		return 0, nil, api.ErrLong
	}
	return n + more, behind[end+1:], nil
}

func takeText(b []byte) (string, []byte, error) {
	n, rest, err := takeInt(b, 7)
	if err != nil {
		return "", nil, err
	}
	if n > 16384 {
		return "", nil, api.ErrLong
	}
	if n > len(rest) {
		return "", nil, api.ErrEnd
	}
	if b[0] < 128 {
		return string(rest[:n]), rest[n:], nil
	}
	s, err := huff.Decode(rest[:n])
	return s, rest[n:], err
}

func (m *model) decode(b []byte) ([]api.Header, error) {
	if m.gone {
		return nil, api.ErrGone
	}
	was := *m
	var l []api.Header
	for len(b) > 0 {
		var err error
		l, b, err = m.take(l, b)
		if err == nil && sizeOf(l) > 16384 {
			err = api.ErrList
		}
		if err != nil {
			*m = was
			m.gone = true
			return nil, err
		}
	}
	return l, nil
}

// take is l with what b begins with, and what is behind that.
func (m *model) take(l []api.Header, b []byte) ([]api.Header, []byte, error) {
	if b[0]>>5 == 1 {
		if len(l) > 0 {
			return nil, nil, api.ErrTable
		}
		n, b, err := takeInt(b, 5)
		if err != nil {
			return nil, nil, err
		}
		if n > m.limit {
			return nil, nil, api.ErrTable
		}
		m.resize(n)
		return l, b, nil
	}
	bits := 4
	if b[0] >= 128 {
		bits = 7
	} else if b[0] >= 64 {
		bits = 6
	}
	first := b[0]
	i, b, err := takeInt(b, bits)
	if err != nil {
		return nil, nil, err
	}
	var h api.Header
	if i > 0 || bits == 7 {
		if i < 1 || i > 61+len(m.l) {
			return nil, nil, api.ErrIndex
		}
		h = m.all()[i-1]
	}
	if bits == 7 {
		return append(l, h), b, nil
	}
	if i == 0 {
		if h.Name, b, err = takeText(b); err != nil {
			return nil, nil, err
		}
	}
	if h.Value, b, err = takeText(b); err != nil {
		return nil, nil, err
	}
	h.Never = first>>4 == 1
	if bits == 6 {
		m.add(h)
	}
	return append(l, h), b, nil
}

func mustEncoder(t *testing.T, most int) *hpack.Encoder {
	t.Helper()
	e, err := hpack.NewEncoder(most)
	if e == nil || err != nil {
		t.Fatalf("NewEncoder(%d): %v, %v", most, e, err)
	}
	return e
}

func mustDecoder(t *testing.T, limit int) *hpack.Decoder {
	t.Helper()
	d, err := hpack.NewDecoder(limit)
	if d == nil || err != nil {
		t.Fatalf("NewDecoder(%d): %v, %v", limit, d, err)
	}
	return d
}

// encodes holds the block of l against want.
func encodes(t *testing.T, e *hpack.Encoder, l []api.Header, want []byte) {
	t.Helper()
	if b := e.Encode(l); !bytes.Equal(b, want) {
		t.Fatalf("Encode(%.300v) = %.300v, not %.300v", l, b, want)
	}
}

// decodes holds what d says of b against want and fault.
func decodes(t *testing.T, d *hpack.Decoder, b []byte, want []api.Header, fault error) {
	t.Helper()
	if l, err := d.Decode(b); !slices.Equal(l, want) || err != fault {
		t.Fatalf("Decode(%.300v) = %.300v, %v, not %.300v, %v", b, l, err, want, fault)
	}
}

// list is headers of names and values, in turn.
func list(l ...string) []api.Header {
	var out []api.Header
	for i := 0; i+1 < len(l); i += 2 {
		out = append(out, api.Header{Name: l[i], Value: l[i+1]})
	}
	return out
}

// secret is l, each of its headers Never.
func secret(l []api.Header) []api.Header {
	l = slices.Clone(l)
	for i := range l {
		l[i].Never = true
	}
	return l
}

// anyList is headers of few names and values, so that they come again.
func anyList(r *rand.Rand) []api.Header {
	names := []string{"", "a", "b", ":method", ":path", "cookie", "www-authenticate", "x-trace", "\x00\xff", strings.Repeat("n", r.Intn(90))}
	values := []string{"", "1", "2", "GET", "/", "\"#", "\xfe\xff\x80", "www.example.com", strings.Repeat("v", r.Intn(200)), strings.Repeat("\"", r.Intn(200))}
	l := make([]api.Header, r.Intn(8))
	for i := range l {
		l[i] = api.Header{Name: names[r.Intn(len(names))], Value: values[r.Intn(len(values))], Never: r.Intn(6) == 0}
	}
	return l
}

func anyMost(r *rand.Rand) int {
	return []int{0, 31, 32, 33, 64, 100, 200, 500, 4096, r.Intn(4097)}[r.Intn(10)]
}
