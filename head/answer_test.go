package head_test

import (
	"math"
	"math/rand"
	"slices"
	"strconv"
	"testing"

	"parley/api"
	"parley/head"
)

func TestP6_4OpenAnswer(t *testing.T) {
	secret := api.Header{Name: "x", Value: "y", Never: true}
	for _, x := range []struct {
		l    []api.Header
		want head.Response
	}{
		{list(":status", "200"), head.Response{Status: 200}},
		{list(":status", "100"), head.Response{Status: 100}},
		{list(":status", "599", "te", "trailers"), head.Response{Status: 599, Rest: list("te", "trailers")}},
		{join(list(":status", "404"), []api.Header{secret}, list("x", "y")), head.Response{Status: 404, Rest: join([]api.Header{secret}, list("x", "y"))}},
		{[]api.Header{{Name: ":status", Value: "200", Never: true}}, head.Response{Status: 200}},
	} {
		if r, err := head.OpenAnswer(x.l); !sameAnswer(r, x.want) || err != nil {
			t.Errorf("OpenAnswer(%+v) = %+v, %v, not %+v", x.l, r, err, x.want)
		}
	}
	for n := range 1100 {
		s := strconv.Itoa(n)
		r, err := head.OpenAnswer(list(":status", s))
		if ok := n >= 100 && n <= 599; ok && (r.Status != n || err != nil) || !ok && (r.Status != 0 || err != api.ErrHead) {
			t.Errorf("OpenAnswer(%s) = %+v, %v", s, r, err)
		}
	}
}

func TestP6_4OpenAnswerErrors(t *testing.T) {
	for _, s := range []string{"", "2", "20", "99", "099", "000", "0200", "020", "2000", "600", "999", "2x0", "x00", "20x", "+20", "-20", "2 0", " 20", "200 ", "\t200", "2.0", "1e2", "0x1", "2_0", "\u0662", "\u0662\u0660\u0660", "\xb2\xb0\xb0", "20\n", "20/", "20:", "18446744073709551816"} {
		if r, err := head.OpenAnswer(list(":status", s)); !sameAnswer(r, head.Response{}) || err != api.ErrHead {
			t.Errorf("OpenAnswer(:status %q) = %+v, %v", s, r, err)
		}
	}
	for _, l := range [][]string{
		nil,
		{"a", "1"},
		{"status", "200"},
		{":Status", "200"},
		{":", "200"},
		{":path", "/"},
		{":status", "200", ":status", "200"},
		{":status", "200", ":path", "/"},
		{":path", "/", ":status", "200"},
		{"a", "1", ":status", "200"},
		{":status", "200", "a", "1", ":status", "200"},
		{":status", "200", "a", "1", ":path", "/"},
		{":status", "x", ":status", "200"},
		{":status", "200", "upgrade", "x"},
		{":status", "200", "te", "gzip"},
		{":status", "200", "A", "1"},
		{":status", "200", "a", "1 "},
		{":method", "POST", ":path", "/a", ":scheme", "http"},
	} {
		if r, err := head.OpenAnswer(list(l...)); !sameAnswer(r, head.Response{}) || err != api.ErrHead {
			t.Errorf("OpenAnswer(%q) = %+v, %v", l, r, err)
		}
	}
}

func TestP6_4OpenAnswerOfAnyList(t *testing.T) {
	items := list(":status", "200", ":status", "99", ":path", "/", "a", "b", "te", "trailers", "te", "gzip", "", "")
	took := 0
	all(items, 5, func(l []api.Header) {
		opensAnswer(t, l)
		if _, err := refOpenAnswer(l); err == nil {
			took++
		}
	})
	if took != 1+2+4+8+16 {
		t.Error("so many may be:", took)
	}
	r := rand.New(rand.NewSource(2))
	for range 20000 {
		opensAnswer(t, someAnswer(r))
	}
}

func TestP6_4BuildAnswer(t *testing.T) {
	rest := []api.Header{{Name: "x", Value: "y", Never: true}, {Name: "te", Value: "trailers"}}
	for n := -20; n < 1100; n++ {
		ok := n >= 100 && n <= 599
		for _, more := range [][]api.Header{nil, {}, rest} {
			want := join([]api.Header{{Name: ":status", Value: strconv.Itoa(n)}}, more)
			l, err := head.BuildAnswer(head.Response{Status: n, Rest: more})
			if ok && (!slices.Equal(l, want) || err != nil) || !ok && (len(l) != 0 || err != api.ErrHead) {
				t.Errorf("BuildAnswer(%d, %+v) = %+v, %v", n, more, l, err)
			}
		}
	}
	for _, n := range []int{-200, math.MinInt, math.MaxInt, 1<<32 + 200, -1<<32 + 200, 1<<16 + 200} {
		if l, err := head.BuildAnswer(head.Response{Status: n}); len(l) != 0 || err != api.ErrHead {
			t.Errorf("BuildAnswer(%d) = %+v, %v", n, l, err)
		}
	}
	for _, l := range [][]string{{":status", "200"}, {"a", "b", ":status", "200"}, {":path", "/"}, {":", ""}, {"", ""}, {"A", ""}, {"te", "gzip"}, {"a", " b"}, {"upgrade", "x", "a", "b"}} {
		for _, n := range []int{0, 200} {
			if got, err := head.BuildAnswer(head.Response{Status: n, Rest: list(l...)}); len(got) != 0 || err != api.ErrHead {
				t.Errorf("BuildAnswer(%d, %q) = %+v, %v", n, l, got, err)
			}
		}
	}
}

func TestP6_4Trailers(t *testing.T) {
	for _, x := range []struct {
		l   []api.Header
		err error
	}{
		{nil, nil},
		{[]api.Header{}, nil},
		{list("a", "b"), nil},
		{list("a", "b", "a", "", "te", "trailers"), nil},
		{[]api.Header{{Name: "a", Value: "b", Never: true}}, nil},
		{list("a", "b", ":path", "/"), api.ErrHead},
		{list(":path", "/", "a", "b"), api.ErrHead},
		{list(":status", "200"), api.ErrHead},
		{list("", ""), api.ErrHead},
		{list("a", "b", "keep-alive", ""), api.ErrHead},
		{list("te", "gzip", "a", "b"), api.ErrHead},
		{list("a", "\r"), api.ErrHead},
	} {
		if err := head.Trailers(x.l); err != x.err {
			t.Errorf("Trailers(%+v): %v", x.l, err)
		}
	}
	r := rand.New(rand.NewSource(3))
	for range 20000 {
		l := someRest(r)
		plain := !slices.ContainsFunc(l, func(h api.Header) bool { return !refPlain(h) })
		if err := head.Trailers(l); (err == nil) != plain || err != nil && err != api.ErrHead {
			t.Fatalf("Trailers(%+v): %v", l, err)
		}
	}
}
