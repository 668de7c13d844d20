package table_test

import (
	"math/rand"
	"slices"
	"strings"
	"sync"
	"testing"

	"parley/api"
	"parley/table"
)

// chapter is the table that stands, as the chapter writes it, with = ahead of a value.
const chapter = "1 :authority; 2 :method=GET; 3 :method=POST; 4 :path=/; 5 :path=/index.html; 6 :scheme=http; 7 :scheme=https; 8 :status=200; 9 :status=204; 10 :status=206; 11 :status=304; 12 :status=400; 13 :status=404; 14 :status=500; 15 accept-charset; 16 accept-encoding=gzip, deflate; 17 accept-language; 18 accept-ranges; 19 accept; 20 access-control-allow-origin; 21 age; 22 allow; 23 authorization; 24 cache-control; 25 content-disposition; 26 content-encoding; 27 content-language; 28 content-length; 29 content-location; 30 content-range; 31 content-type; 32 cookie; 33 date; 34 etag; 35 expect; 36 expires; 37 from; 38 host; 39 if-match; 40 if-modified-since; 41 if-none-match; 42 if-range; 43 if-unmodified-since; 44 last-modified; 45 link; 46 location; 47 max-forwards; 48 proxy-authenticate; 49 proxy-authorization; 50 range; 51 referer; 52 refresh; 53 retry-after; 54 server; 55 set-cookie; 56 strict-transport-security; 57 transfer-encoding; 58 user-agent; 59 vary; 60 via; 61 www-authenticate"

// standing is the table that stands, the header of index 1 first.
var standing = sync.OnceValue(func() []api.Header {
	var l []api.Header
	for _, s := range strings.Split(chapter, "; ") {
		_, s, _ = strings.Cut(s, " ")
		name, value, _ := strings.Cut(s, "=")
		l = append(l, api.Header{Name: name, Value: value})
	}
	return l
})

// model is what a table is to be: its headers, the newest first.
type model struct {
	most int
	l    []api.Header
}

func sizeOf(l []api.Header) int {
	n := 0
	for _, h := range l {
		n += len(h.Name) + len(h.Value) + 32
	}
	return n
}

func (m *model) add(h api.Header) {
	h.Never = false
	m.l = slices.Insert(m.l, 0, h)
	m.cut()
}

func (m *model) resize(most int) {
	m.most = most
	m.cut()
}

func (m *model) cut() {
	for sizeOf(m.l) > m.most {
		m.l = m.l[:len(m.l)-1]
	}
}

func (m *model) find(name, value string) (int, bool) {
	all := slices.Concat(standing(), m.l)
	if i := slices.Index(all, api.Header{Name: name, Value: value}); i >= 0 {
		return i + 1, true
	}
	return slices.IndexFunc(all, func(h api.Header) bool { return h.Name == name }) + 1, false
}

// asks is names and values to be found: of both tables, of one each, of none.
func (m *model) asks() []api.Header {
	l := []api.Header{{}, {Name: "z"}, {Name: "z", Value: "9"}, {Name: ":method", Value: "PUT"}, {Name: ":Method", Value: "GET"}, {Value: "GET"}}
	for _, h := range m.l {
		l = append(l, h, api.Header{Name: h.Name}, api.Header{Name: h.Name, Value: "9"}, api.Header{Name: h.Value, Value: h.Name})
	}
	return l
}

// check holds all that t tells against the model.
func (m *model) check(tt *testing.T, t *table.Table) {
	tt.Helper()
	if t.Len() != len(m.l) || t.Size() != sizeOf(m.l) || t.Most() != m.most {
		tt.Fatalf("Len %d, Size %d, Most %d, not %d, %d, %d", t.Len(), t.Size(), t.Most(), len(m.l), sizeOf(m.l), m.most)
	}
	for i, want := range m.l {
		if h, ok := t.Get(62 + i); h != want || !ok {
			tt.Fatalf("Get(%d) = %v, %t, not %v", 62+i, h, ok, want)
		}
	}
	for _, i := range []int{62 + len(m.l), 63 + len(m.l), 62 + 128, 62 + 129, 62 + 256, 0} {
		if h, ok := t.Get(i); i-62 >= len(m.l) && (h != (api.Header{}) || ok) {
			tt.Fatalf("Get(%d) = %v, %t", i, h, ok)
		}
	}
	if l := told(tt, t); !slices.Equal(l, m.l) {
		tt.Fatalf("Each: %v, not %v", l, m.l)
	}
	for _, h := range m.asks() {
		want, is := m.find(h.Name, h.Value)
		if i, ok := t.Find(h.Name, h.Value); i != want || ok != is {
			tt.Fatalf("Find(%q, %q) = %d, %t, not %d, %t", h.Name, h.Value, i, ok, want, is)
		}
	}
}

// told is what Each tells.
func told(tt *testing.T, t *table.Table) []api.Header {
	tt.Helper()
	var l []api.Header
	for i, h := range t.Each() {
		if i != 62+len(l) {
			tt.Fatalf("Each tells index %d behind %d headers", i, len(l))
		}
		l = append(l, h)
	}
	return l
}

func mustNew(tt *testing.T, most int) *table.Table {
	tt.Helper()
	t, err := table.New(most)
	if t == nil || err != nil {
		tt.Fatalf("New(%d): %v, %v", most, t, err)
	}
	return t
}

// step is one call that changes a table.
type step struct {
	resize bool
	most   int
	h      api.Header
}

func (s step) on(t *table.Table) {
	if s.resize {
		t.Resize(s.most)
		return
	}
	t.Add(s.h)
}

func (s step) onModel(m *model) {
	if s.resize {
		m.resize(s.most)
		return
	}
	m.add(s.h)
}

// anyStep is an Add, of few names so that they come again, or now and then a Resize.
func anyStep(r *rand.Rand) step {
	if r.Intn(12) == 0 {
		return step{resize: true, most: []int{0, 31, 32, 33, 64, 70, 100, 500, 4096, r.Intn(4097)}[r.Intn(10)]}
	}
	names := []string{"", "a", "b", "c", ":method", "cookie", "z", strings.Repeat("n", r.Intn(80))}
	values := []string{"", "", "1", "2", "GET", strings.Repeat("v", r.Intn(120))}
	if r.Intn(60) == 0 {
		values = append(values, strings.Repeat("w", 4000+r.Intn(200)))
	}
	return step{h: api.Header{Name: names[r.Intn(len(names))], Value: values[r.Intn(len(values))], Never: r.Intn(2) == 0}}
}
