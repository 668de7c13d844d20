package head_test

import (
	"math/rand"
	"slices"
	"strings"
	"testing"

	"parley/api"
	"parley/head"
)

func TestP6_3Open(t *testing.T) {
	secret := api.Header{Name: "x", Value: "y", Never: true}
	for _, x := range []struct {
		l    []api.Header
		want head.Request
	}{
		{join(base(), list("te", "trailers")), head.Request{Method: "POST", Scheme: "http", Path: "/a", Rest: list("te", "trailers")}},
		{base(), head.Request{Method: "POST", Scheme: "http", Path: "/a"}},
		{list(":scheme", "s", ":authority", "h:1", ":path", "*", ":method", "M"), head.Request{Method: "M", Scheme: "s", Authority: "h:1", Path: "*"}},
		{list(":authority", "", ":path", "/", ":method", "m n", ":scheme", "\xff"), head.Request{Method: "m n", Scheme: "\xff", Path: "/"}},
		{join(base(), []api.Header{secret}, list("x", "y", "a", "")), head.Request{Method: "POST", Scheme: "http", Path: "/a", Rest: join([]api.Header{secret}, list("x", "y", "a", ""))}},
		// Never of a header with `:` is not told, and no fault.
		{[]api.Header{{Name: ":method", Value: "M", Never: true}, {Name: ":scheme", Value: "s", Never: true}, {Name: ":path", Value: "/", Never: true}}, head.Request{Method: "M", Scheme: "s", Path: "/"}},
	} {
		if r, err := head.Open(x.l); !sameRequest(r, x.want) || err != nil {
			t.Errorf("Open(%+v) = %+v, %v, not %+v", x.l, r, err, x.want)
		}
	}
}

func TestP6_3OpenErrors(t *testing.T) {
	for _, more := range [][]string{
		{"te", "trailers", ":authority", "x"},
		{"te", "gzip"},
		{"Te", "trailers"},
		{"x", "a "},
		{":method", "POST"},
		{":scheme", "http"},
		{":path", "/a"},
		{":path", "/b"},
		{":authority", "x", ":authority", "x"},
		{":authority", "", ":authority", ""},
		{":authority", "a\n"},
		{":authority", " a"},
		{":status", "200"},
		{":Path", "/"},
		{":", "x"},
		{":x", "x"},
		{"", "x"},
		{"connection", "close"},
	} {
		for _, l := range [][]api.Header{join(base(), list(more...)), join(base(), list(more...), list("a", "b"))} {
			if r, err := head.Open(l); !sameRequest(r, head.Request{}) || err != api.ErrHead {
				t.Errorf("Open(%+v) = %+v, %v", l, r, err)
			}
		}
	}
	for _, l := range [][]string{
		nil,
		{"a", "b"},
		{":method", "GET"},
		{":method", "GET", ":path", "/"},
		{":method", "GET", ":scheme", "http"},
		{":path", "/", ":scheme", "http"},
		{":method", "", ":path", "/", ":scheme", "http"},
		{":method", "GET", ":path", "/", ":scheme", ""},
		{":method", "GET", ":path", "", ":scheme", "http"},
		{":method", "GET", ":path", "a", ":scheme", "http"},
		{":method", "GET", ":path", "**", ":scheme", "http"},
		{":method", "GET", ":path", "*/", ":scheme", "http"},
		{":method", "GET", ":path", "http://h/", ":scheme", "http"},
		{":method", "GET ", ":path", "/", ":scheme", "http"},
		{":method", "GET", ":path", "/ ", ":scheme", "http"},
		{":method", "GET", ":path", "/\r", ":scheme", "http"},
		{":method", "GET", ":path", "/", ":scheme", "\tx"},
		{":method", "GET", ":path", "/", ":authority", "http"},
		{"a", "b", ":method", "GET", ":path", "/", ":scheme", "http"},
		{":method", "GET", ":path", "/", "a", "b", ":scheme", "http"},
		{":method", "", ":method", "GET", ":path", "/", ":scheme", "http"},
		{":path", "a", ":path", "/", ":method", "GET", ":scheme", "http"},
		{"method", "GET", "path", "/", "scheme", "http"},
		{":status", "200"},
	} {
		if r, err := head.Open(list(l...)); !sameRequest(r, head.Request{}) || err != api.ErrHead {
			t.Errorf("Open(%q) = %+v, %v", l, r, err)
		}
	}
}

func TestP6_3OpenOfAnyList(t *testing.T) {
	items := list(":method", "M", ":scheme", "s", ":path", "/", ":authority", "h", ":path", "x", ":status", "200", "a", "b", "upgrade", "")
	took := 0
	all(items, 6, func(l []api.Header) {
		opens(t, l)
		if _, err := refOpen(l); err == nil {
			took++
		}
	})
	// 6 orders of three, 24 of four; behind them up to three, or two, of the one plain header.
	if took != 6*4+24*3 {
		t.Error("so many may be:", took)
	}
	r := rand.New(rand.NewSource(1))
	for range 50000 {
		opens(t, someRequest(r))
	}
}

func TestP6_3Build(t *testing.T) {
	secret := api.Header{Name: "x", Value: "y", Never: true}
	for _, x := range []struct {
		r    head.Request
		want []api.Header
	}{
		{head.Request{Method: "POST", Scheme: "http", Path: "/a", Rest: list("te", "trailers")}, list(":method", "POST", ":scheme", "http", ":path", "/a", "te", "trailers")},
		{head.Request{Method: "M", Scheme: "s", Authority: "h", Path: "*"}, list(":method", "M", ":scheme", "s", ":authority", "h", ":path", "*")},
		{head.Request{Method: "M", Scheme: "s", Authority: "h", Path: "/", Rest: []api.Header{secret, {Name: "a"}, secret}}, join(list(":method", "M", ":scheme", "s", ":authority", "h", ":path", "/"), []api.Header{secret, {Name: "a"}, secret})},
		{head.Request{Method: "M", Scheme: "s", Path: "/", Rest: []api.Header{}}, list(":method", "M", ":scheme", "s", ":path", "/")},
	} {
		if l, err := head.Build(x.r); !slices.Equal(l, x.want) || err != nil {
			t.Errorf("Build(%+v) = %+v, %v, not %+v", x.r, l, err, x.want)
		}
	}
}

func TestP6_3BuildErrors(t *testing.T) {
	good := head.Request{Method: "G", Scheme: "s", Authority: "h", Path: "/", Rest: list("a", "b")}
	if _, err := head.Build(good); err != nil {
		t.Fatal(err)
	}
	refuses := func(change func(r *head.Request)) {
		t.Helper()
		r := good
		change(&r)
		if l, err := head.Build(r); len(l) != 0 || err != api.ErrHead {
			t.Errorf("Build(%+v) = %+v, %v", r, l, err)
		}
	}
	refuses(func(r *head.Request) { *r = head.Request{} })
	for _, s := range []string{"", " ", "a ", "\ta", "a\nb", "\x00"} {
		refuses(func(r *head.Request) { r.Method = s })
		refuses(func(r *head.Request) { r.Scheme = s })
		refuses(func(r *head.Request) { r.Path = s })
		refuses(func(r *head.Request) { r.Path = "/" + s + " " })
		if s != "" {
			refuses(func(r *head.Request) { r.Authority = s })
			refuses(func(r *head.Request) { r.Rest = list("a", "b", "c", s) })
		}
	}
	for _, s := range []string{"a", "**", "*/", " /"} {
		refuses(func(r *head.Request) { r.Path = s })
	}
	for _, s := range []string{"", "A", "a b", "connection", "te", ":", ":x", ":status", ":path", ":authority"} {
		for _, l := range [][]string{{s, "x"}, {"a", "b", s, "x"}, {s, "x", "a", "b"}} {
			refuses(func(r *head.Request) { r.Rest = list(l...) })
			// With room for an authority, too: what would be built is a list, but of another request.
			refuses(func(r *head.Request) { r.Authority, r.Rest = "", list(l...) })
		}
	}
	for _, h := range base() {
		refuses(func(r *head.Request) { r.Rest = []api.Header{h} })
	}
	// Nor is a field that is missing made up for by Rest.
	refuses(func(r *head.Request) { r.Method, r.Rest = "", list(":method", "G") })
	refuses(func(r *head.Request) { r.Scheme, r.Rest = "", list(":scheme", "s") })
	refuses(func(r *head.Request) { r.Path, r.Rest = "", list(":path", "/") })
}

func TestP6_3LongLists(t *testing.T) {
	l := base()
	for range 70000 {
		l = append(l, api.Header{Name: "a", Value: strings.Repeat("b", 3)})
	}
	r, err := head.Open(l)
	if len(r.Rest) != 70000 || err != nil {
		t.Error("Open:", len(r.Rest), err)
	}
	if back, err := head.Build(r); len(back) != len(l) || err != nil {
		t.Error("Build:", len(back), err)
	}
	if r, err := head.Open(append(l, api.Header{Name: ":authority"})); !sameRequest(r, head.Request{}) || err != api.ErrHead {
		t.Error("Open, an authority at the end:", len(r.Rest), err)
	}
}
