package head_test

import (
	"math/rand"
	"slices"
	"strings"
	"testing"

	"parley/api"
	"parley/head"
)

func TestP6_7OpenOfBuild(t *testing.T) {
	r := rand.New(rand.NewSource(5))
	built := 0
	for range 50000 {
		q := head.Request{Method: pick(r, "GET", "M", "", "a\n"), Scheme: pick(r, "http", "s", "t", " "), Authority: pick(r, "", "h", "h:1", "\t"), Path: pick(r, "/", "/a", "*", "a"), Rest: someRest(r)}
		l, err := head.Build(q)
		if err != nil {
			continue
		}
		built++
		if back, err := head.Open(l); !sameRequest(back, q) || err != nil {
			t.Fatalf("Open(Build(%+v)) = %+v, %v", q, back, err)
		}
		if want, err := refOpen(l); !sameRequest(want, q) || err != nil {
			t.Fatalf("Build(%+v) = %+v, which is %+v, %v", q, l, want, err)
		}
	}
	if built < 3000 {
		t.Error("too few were built:", built)
	}
}

// What Build refuses, no list says.
func TestP6_7BuildRefusesNoMore(t *testing.T) {
	r := rand.New(rand.NewSource(6))
	for range 50000 {
		q := head.Request{Method: pick(r, "GET", ""), Scheme: pick(r, "http", "s", " "), Authority: pick(r, "", "h", "\t"), Path: pick(r, "/", "*", "a"), Rest: someRest(r)}
		l := list(":method", q.Method, ":scheme", q.Scheme, ":authority", q.Authority, ":path", q.Path)
		said, fault := refOpen(append(l, q.Rest...))
		if _, err := head.Build(q); (err == nil) != (fault == nil && sameRequest(said, q)) {
			t.Fatalf("Build(%+v): %v", q, err)
		}
	}
}

func TestP6_7OpenAnswerOfBuildAnswer(t *testing.T) {
	r := rand.New(rand.NewSource(7))
	built := 0
	for range 50000 {
		a := head.Response{Status: r.Intn(700), Rest: someRest(r)}
		l, err := head.BuildAnswer(a)
		if err != nil {
			continue
		}
		built++
		if back, err := head.OpenAnswer(l); !sameAnswer(back, a) || err != nil {
			t.Fatalf("OpenAnswer(BuildAnswer(%+v)) = %+v, %v", a, back, err)
		}
	}
	if built < 10000 {
		t.Error("too few were built:", built)
	}
}

// ordered is l without Never of the headers with `:`, these by their names, an empty authority left out.
func ordered(l []api.Header) []api.Header {
	l = slices.DeleteFunc(slices.Clone(l), func(h api.Header) bool { return h.Name == ":authority" && h.Value == "" })
	n := slices.IndexFunc(l, func(h api.Header) bool { return !strings.HasPrefix(h.Name, ":") })
	if n < 0 {
		n = len(l)
	}
	for i := range n {
		l[i].Never = false
	}
	slices.SortFunc(l[:n], func(a, b api.Header) int { return strings.Compare(a.Name, b.Name) })
	return l
}

func TestP6_7BuildOfOpen(t *testing.T) {
	r := rand.New(rand.NewSource(8))
	opened := 0
	for range 50000 {
		l := someRequest(r)
		if q, err := head.Open(l); err == nil {
			opened++
			if back, err := head.Build(q); !slices.Equal(ordered(back), ordered(l)) || err != nil {
				t.Fatalf("Build(Open(%+v)) = %+v, %v", l, back, err)
			}
		}
		l = someAnswer(r)
		if a, err := head.OpenAnswer(l); err == nil {
			opened++
			if back, err := head.BuildAnswer(a); !slices.Equal(back, ordered(l)) || err != nil {
				t.Fatalf("BuildAnswer(OpenAnswer(%+v)) = %+v, %v", l, back, err)
			}
		}
	}
	if opened < 10000 {
		t.Error("too few were opened:", opened)
	}
}

// mayBe tells which of the three kinds l may be.
func mayBe(l []api.Header) [3]bool {
	_, request := head.Open(l)
	_, answer := head.OpenAnswer(l)
	return [3]bool{request == nil, answer == nil, head.Trailers(l) == nil}
}

func TestP6_8OrderAndLess(t *testing.T) {
	r := rand.New(rand.NewSource(9))
	changed := 0
	for range 30000 {
		l := pick(r, someRequest, someAnswer, someRest)(r)
		was := mayBe(l)
		var plain []int
		for i, h := range l {
			if refPlain(h) {
				plain = append(plain, i)
			}
		}
		for _, i := range plain {
			for _, j := range plain {
				other := slices.Clone(l)
				other[i], other[j] = other[j], other[i]
				if is := mayBe(other); is != was {
					t.Fatalf("%+v may be %v, but %+v %v", l, was, other, is)
				}
			}
			less := slices.Delete(slices.Clone(l), i, i+1)
			is := mayBe(less)
			for kind := range was {
				if was[kind] && !is[kind] {
					t.Fatalf("%+v may be %v, but %+v %v", l, was, less, is)
				}
			}
			changed++
		}
	}
	if changed < 10000 {
		t.Error("too few were changed:", changed)
	}
}
