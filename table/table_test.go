package table_test

import (
	"math"
	"math/rand"
	"slices"
	"strings"
	"testing"

	"parley/api"
	"parley/table"
)

func TestP3_2New(t *testing.T) {
	for _, most := range []int{0, 1, 31, 32, 70, 4095, 4096} {
		m := mustNew(t, most)
		if m.Len() != 0 || m.Size() != 0 || m.Most() != most {
			t.Errorf("New(%d): Len %d, Size %d, Most %d", most, m.Len(), m.Size(), m.Most())
		}
		(&model{most: most}).check(t, m)
	}
	for _, most := range []int{-1, 4097, 8192, 1 << 32, math.MaxInt, math.MinInt} {
		if m, err := table.New(most); m != nil || err != api.ErrTable {
			t.Errorf("New(%d) = %v, %v", most, m, err)
		}
	}
}

func TestP3_2TablesAreApart(t *testing.T) {
	one, two := mustNew(t, 100), mustNew(t, 100)
	one.Add(api.Header{Name: "a"})
	if one.Len() != 1 || two.Len() != 0 || two.Size() != 0 {
		t.Error("Len:", one.Len(), two.Len())
	}
}

func TestP3_2LenAndSize(t *testing.T) {
	m := mustNew(t, 200)
	for i, want := range []int{32, 66, 101} {
		m.Add(api.Header{Name: strings.Repeat("n", i), Value: strings.Repeat("v", min(i, 1))})
		if m.Len() != i+1 || m.Size() != want || m.Most() != 200 {
			t.Error("Len, Size, Most:", m.Len(), m.Size(), m.Most())
		}
	}
}

func TestP3_3Add(t *testing.T) {
	for _, x := range []struct {
		most  int
		names []string
		want  string // the names that stay, the newest first
	}{
		{33, []string{"a"}, "a"},
		{32, []string{"a"}, ""},
		{0, []string{"a", ""}, ""},
		{31, []string{""}, ""},
		{66, []string{"a", "b"}, "b a"}, // there is just room
		{65, []string{"a", "b"}, "b"},
		{66, []string{"a", "b", "c"}, "c b"},
		{100, []string{"a", "b", "cc"}, "cc b a"},
		{99, []string{"a", "b", "cc"}, "cc b"},
		{100, []string{"a", "b", strings.Repeat("c", 35)}, strings.Repeat("c", 35) + " b"},
		{100, []string{"a", "b", strings.Repeat("c", 36)}, strings.Repeat("c", 36)},
		{100, []string{"a", "b", strings.Repeat("c", 68)}, strings.Repeat("c", 68)}, // all of the room
		{100, []string{"a", "b", strings.Repeat("c", 69)}, ""},
		{100, []string{"a", "b", strings.Repeat("c", 69), "d"}, "d"},
		{100, []string{"a", "b", strings.Repeat("c", 9000)}, ""},
		{100, []string{strings.Repeat("c", 9000), "a"}, "a"},
		{100, []string{"a", "a", "a"}, "a a a"}, // one that is there is added all the same
	} {
		m := mustNew(t, x.most)
		for _, name := range x.names {
			m.Add(api.Header{Name: name})
		}
		var got []string
		for _, h := range told(t, m) {
			got = append(got, h.Name)
		}
		if strings.Join(got, " ") != x.want {
			t.Errorf("of %d bytes, after %.80q: %.80q, not %.80q", x.most, x.names, got, x.want)
		}
	}
}

func TestP3_3NeverIsNotKept(t *testing.T) {
	m := mustNew(t, 100)
	m.Add(api.Header{Name: "a", Value: "1", Never: true})
	if h, ok := m.Get(62); h != (api.Header{Name: "a", Value: "1"}) || !ok {
		t.Error("Get(62):", h, ok)
	}
	for i, h := range m.Each() {
		if h.Never {
			t.Error("Each:", i, h)
		}
	}
}

func TestP3_3Resize(t *testing.T) {
	for _, x := range []struct {
		most int
		want int // headers that stay, of five of 33 bytes
	}{{4096, 5}, {166, 5}, {165, 5}, {164, 4}, {132, 4}, {131, 3}, {66, 2}, {65, 1}, {33, 1}, {32, 0}, {0, 0}} {
		m, want := mustNew(t, 200), model{most: 200}
		for _, name := range []string{"a", "b", "c", "d", "e"} {
			m.Add(api.Header{Name: name})
			want.add(api.Header{Name: name})
		}
		if err := m.Resize(x.most); err != nil || m.Most() != x.most || m.Len() != x.want {
			t.Errorf("Resize(%d): %v, Most %d, Len %d, not %d", x.most, err, m.Most(), m.Len(), x.want)
		}
		want.resize(x.most)
		want.check(t, m)
		for _, most := range []int{-1, 4097, math.MaxInt, math.MinInt, 1 << 32} {
			if err := m.Resize(most); err != api.ErrTable {
				t.Errorf("Resize(%d): %v", most, err)
			}
			want.check(t, m) // nothing has changed
		}
	}
}

func TestP3_3ResizeMakesRoom(t *testing.T) {
	m := mustNew(t, 0)
	m.Add(api.Header{Name: "a"})
	if err := m.Resize(4096); err != nil || m.Len() != 0 {
		t.Error("Resize:", err, m.Len())
	}
	for range 200 {
		m.Add(api.Header{})
	}
	if m.Len() != 128 || m.Size() != 4096 {
		t.Error("a full table:", m.Len(), m.Size())
	}
	if h, ok := m.Get(62 + 127); h != (api.Header{}) || !ok {
		t.Error("Get of the oldest:", h, ok)
	}
	if h, ok := m.Get(62 + 128); h != (api.Header{}) || ok {
		t.Error("Get behind the oldest:", h, ok)
	}
}

func TestP3_4Get(t *testing.T) {
	m := mustNew(t, 100)
	for range 3 {
		for i, want := range standing() {
			if h, ok := m.Get(i + 1); h != want || !ok {
				t.Errorf("Get(%d) = %v, %t, not %v", i+1, h, ok, want)
			}
		}
		for _, i := range []int{0, -1, -62, 62 + m.Len(), 65, 62 + 128, 1 << 32, 1<<32 + 62, math.MaxInt, math.MinInt, math.MinInt + 61, math.MinInt + 62} {
			if h, ok := m.Get(i); h != (api.Header{}) || ok {
				t.Errorf("Get(%d) = %v, %t", i, h, ok)
			}
		}
		m.Add(api.Header{Name: "a", Value: "1"})
	}
}

func TestP3_4Find(t *testing.T) {
	m := mustNew(t, 400)
	for i, want := range standing() {
		if at, ok := m.Find(want.Name, want.Value); at != i+1 || !ok {
			t.Errorf("Find(%q, %q) = %d, %t, not %d", want.Name, want.Value, at, ok, i+1)
		}
	}
	for _, h := range []api.Header{
		{Name: "old", Value: "1"}, {Name: "a", Value: "1"}, {Name: "a", Value: "2"}, {Name: "a", Value: "1"},
		{Name: ":method", Value: "PUT"}, {Name: ":method", Value: "GET"}, {Name: "cookie", Value: "c"}, {Value: "v"},
	} {
		m.Add(h)
	}
	for _, x := range []struct {
		name, value string
		i           int
		ok          bool
	}{
		{"", "v", 62, true},
		{"", "", 62, false},
		{"cookie", "c", 63, true}, // a value is worth more than a lower index
		{"cookie", "", 32, true},
		{"cookie", "d", 32, false},
		{":method", "GET", 2, true},
		{":method", "POST", 3, true},
		{":method", "PUT", 65, true},
		{":method", "HEAD", 2, false},
		{":method", "", 2, false},
		{":status", "", 8, false},
		{":status", "404", 13, true},
		{"a", "1", 66, true}, // the newer one
		{"a", "2", 67, true},
		{"a", "3", 66, false},
		{"old", "1", 69, true},
		{"old", "", 69, false},
		{"A", "1", 0, false},
		{"GET", ":method", 0, false},
		{"z", "", 0, false},
		{"www-authenticate", "", 61, true},
		{"www-authenticate", "x", 61, false},
	} {
		if i, ok := m.Find(x.name, x.value); i != x.i || ok != x.ok {
			t.Errorf("Find(%q, %q) = %d, %t, not %d, %t", x.name, x.value, i, ok, x.i, x.ok)
		}
	}
	m.Resize(0)
	for _, h := range []api.Header{{Name: "a", Value: "1"}, {Name: "old"}, {}} {
		if i, ok := m.Find(h.Name, h.Value); i != 0 || ok {
			t.Errorf("Find(%q, %q) of an empty table = %d, %t", h.Name, h.Value, i, ok)
		}
	}
}

func TestP3_4EachAgainAndAgain(t *testing.T) {
	m := mustNew(t, 100)
	each := m.Each()
	for range each {
		t.Error("Each of an empty table")
	}
	m.Add(api.Header{Name: "a"})
	m.Add(api.Header{Name: "b"})
	// It tells what is there when it begins, not when it was made.
	for range 2 {
		names := ""
		for i, h := range each {
			if h.Name != string(rune('b'-(i-62))) {
				t.Error("Each:", i, h)
			}
			names += h.Name
		}
		if names != "ba" {
			t.Error("Each:", names)
		}
	}
	m.Resize(0)
	for range each {
		t.Error("Each of an emptied table")
	}
}

func TestP3_4EachLeftEarly(t *testing.T) {
	m := mustNew(t, 4096)
	for range 10 {
		m.Add(api.Header{Name: "a"})
	}
	each := m.Each()
	for leave := range 10 {
		calls := 0
		each(func(i int, h api.Header) bool {
			if i != 62+calls {
				t.Error("Each:", i, calls)
			}
			calls++
			return calls <= leave
		})
		if calls != leave+1 {
			t.Errorf("left at %d, Each went on to %d", leave+1, calls)
		}
	}
	if m.Len() != 10 {
		t.Error("Len:", m.Len())
	}
}

func TestP3_4EachTellsWhatWasThere(t *testing.T) {
	for _, change := range []func(m *table.Table){
		func(m *table.Table) { m.Add(api.Header{Name: "d"}) },
		func(m *table.Table) { m.Add(api.Header{Name: strings.Repeat("n", 200)}) },
		func(m *table.Table) { m.Resize(0) },
		func(m *table.Table) { m.Resize(4096); m.Add(api.Header{Name: "d"}) },
	} {
		m := mustNew(t, 100)
		for _, name := range []string{"a", "b", "c"} {
			m.Add(api.Header{Name: name})
		}
		names := ""
		for i, h := range m.Each() {
			change(m)
			names += h.Name
			if i != 61+len(names) {
				t.Error("Each:", i)
			}
			for range m.Each() { // another one within
				break
			}
		}
		if names != "cba" {
			t.Error("Each tells", names)
		}
	}
}

func TestP3_5Bounds(t *testing.T) {
	r := rand.New(rand.NewSource(5))
	for most := range 200 {
		m := mustNew(t, most)
		for range 60 {
			h := api.Header{Name: strings.Repeat("n", r.Intn(50)), Value: strings.Repeat("v", r.Intn(50)), Never: true}
			m.Add(h)
			if m.Size() > m.Most() || m.Most() != most {
				t.Fatal("Size, Most:", m.Size(), m.Most())
			}
			got, ok := m.Get(62)
			h.Never = false
			if fits := table.Size(h) <= most; ok != fits || fits && got != h {
				t.Fatal("what was added last:", h, got, ok)
			}
		}
	}
}

// Whatever is told to a table, it has what the model has: nothing comes back, the order stays.
func TestP3_5Model(t *testing.T) {
	for seed := range int64(40) {
		r := rand.New(rand.NewSource(seed))
		most := r.Intn(4097)
		m, want := mustNew(t, most), model{most: most}
		for range 300 {
			s := anyStep(r)
			s.on(m)
			s.onModel(&want)
			want.check(t, m)
		}
	}
}

// The ring goes round many times, full to the last place.
func TestP3_5FullRing(t *testing.T) {
	for _, most := range []int{4096, 4095, 4064, 96} {
		m, want := mustNew(t, most), model{most: most}
		for i := range 700 {
			h := api.Header{}
			if i%131 == 0 {
				h.Value = "v"
			}
			m.Add(h)
			want.add(h)
			if i%50 == 0 || i > 680 {
				want.check(t, m)
			}
		}
	}
}

func TestP3_6SameAfterResizeTo0(t *testing.T) {
	for seed := range int64(40) {
		r := rand.New(rand.NewSource(seed))
		one, two := mustNew(t, 300), mustNew(t, r.Intn(4097))
		for range r.Intn(400) {
			anyStep(r).on(two)
		}
		for _, m := range []*table.Table{one, two} {
			m.Resize(0)
			if m.Len() != 0 || m.Size() != 0 {
				t.Fatal("after Resize(0):", m.Len(), m.Size())
			}
			m.Resize(300)
		}
		for range 200 {
			s := anyStep(r)
			s.on(one)
			s.on(two)
			same(t, one, two)
		}
	}
}

func same(t *testing.T, one, two *table.Table) {
	t.Helper()
	if one.Len() != two.Len() || one.Size() != two.Size() || one.Most() != two.Most() {
		t.Fatal("Len, Size, Most:", one.Len(), two.Len(), one.Size(), two.Size(), one.Most(), two.Most())
	}
	l := told(t, one)
	if !slices.Equal(l, told(t, two)) {
		t.Fatal("Each tells other headers")
	}
	for i, h := range l {
		got, ok := two.Get(62 + i)
		if got != h || !ok {
			t.Fatal("Get:", 62+i, got, ok, h)
		}
		for _, value := range []string{h.Value, "9"} {
			i, is := one.Find(h.Name, value)
			if j, ok := two.Find(h.Name, value); i != j || is != ok {
				t.Fatal("Find:", h.Name, value, i, is, j, ok)
			}
		}
	}
}

func TestP3_4Examples(t *testing.T) {
	m := mustNew(t, 70)
	for _, h := range []api.Header{{Name: "a", Value: "1"}, {Name: "b", Value: "2"}, {Name: "c", Value: "3"}} {
		m.Add(h)
	}
	want := model{most: 70, l: []api.Header{{Name: "c", Value: "3"}, {Name: "b", Value: "2"}}}
	if m.Len() != 2 || m.Size() != 68 {
		t.Error("Len, Size:", m.Len(), m.Size())
	}
	want.check(t, m)
	for _, x := range []struct {
		name, value string
		i           int
		ok          bool
	}{{":method", "GET", 2, true}, {":method", "PUT", 2, false}, {"b", "9", 63, false}, {"z", "", 0, false}} {
		if i, ok := m.Find(x.name, x.value); i != x.i || ok != x.ok {
			t.Errorf("Find(%q, %q) = %d, %t", x.name, x.value, i, ok)
		}
	}
	m.Add(api.Header{Name: strings.Repeat("n", 40)})
	if m.Len() != 0 {
		t.Error("Len:", m.Len())
	}
	if _, err := table.New(4097); err != api.ErrTable {
		t.Error("New(4097):", err)
	}
	if err := m.Resize(-1); err != api.ErrTable {
		t.Error("Resize(-1):", err)
	}
}
