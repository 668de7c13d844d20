package head_test

import (
	"math/rand"
	"regexp"
	"slices"
	"strings"
	"testing"

	"parley/api"
	"parley/head"
)

// The reference shares nothing with the package: words go by patterns, lists by counting.

var (
	name     = regexp.MustCompile("^[a-z0-9!#$%&'*+\\-.^_`|~]+$")
	never    = regexp.MustCompile(`[\x00\n\r]|^[ \t]|[ \t]$`)
	hopping  = regexp.MustCompile(`^((proxy-)?connection|keep-alive|transfer-encoding|upgrade)$`)
	statuses = regexp.MustCompile(`^[1-5][0-9][0-9]$`)
	lengths  = regexp.MustCompile(`^[0-9]{1,10}$`)
)

func refName(s string) bool { return name.MatchString(s) && !strings.HasSuffix(s, "\n") }

func refValue(s string) bool { return !never.MatchString(s) }

func refPlain(h api.Header) bool {
	return refName(h.Name) && refValue(h.Value) && !hopping.MatchString(h.Name) && (h.Name != "te" || h.Value == "trailers")
}

// sort tells how often each name with `:` comes, its last value, and what is no such header; and whether these are plain and behind all others.
func sort(l []api.Header) (times map[string]int, values map[string]string, rest []api.Header, ok bool) {
	times, values, ok = map[string]int{}, map[string]string{}, true
	for _, h := range l {
		if strings.HasPrefix(h.Name, ":") {
			times[h.Name]++
			values[h.Name] = h.Value
			ok = ok && len(rest) == 0 && refValue(h.Value)
			continue
		}
		rest = append(rest, h)
		ok = ok && refPlain(h)
	}
	return times, values, rest, ok
}

func refOpen(l []api.Header) (head.Request, error) {
	times, v, rest, ok := sort(l)
	ok = ok && times[":method"] == 1 && times[":scheme"] == 1 && times[":path"] == 1 && times[":authority"] <= 1
	for s := range times {
		ok = ok && slices.Contains([]string{":method", ":scheme", ":path", ":authority"}, s)
	}
	ok = ok && v[":method"] != "" && v[":scheme"] != "" && (v[":path"] == "*" || strings.HasPrefix(v[":path"], "/"))
	if !ok {
		return head.Request{}, api.ErrHead
	}
	return head.Request{Method: v[":method"], Scheme: v[":scheme"], Authority: v[":authority"], Path: v[":path"], Rest: rest}, nil
}

func refOpenAnswer(l []api.Header) (head.Response, error) {
	times, v, rest, ok := sort(l)
	s := v[":status"]
	if !ok || len(times) != 1 || times[":status"] != 1 || len(s) != 3 || !statuses.MatchString(s) {
		return head.Response{}, api.ErrHead
	}
	return head.Response{Status: int(s[0]-'0')*100 + int(s[1]-'0')*10 + int(s[2]-'0'), Rest: rest}, nil
}

func sameRequest(a, b head.Request) bool {
	return a.Method == b.Method && a.Scheme == b.Scheme && a.Authority == b.Authority && a.Path == b.Path && slices.Equal(a.Rest, b.Rest)
}

func sameAnswer(a, b head.Response) bool {
	return a.Status == b.Status && slices.Equal(a.Rest, b.Rest)
}

// list is headers of names and values, in turn.
func list(l ...string) []api.Header {
	var out []api.Header
	for i := 0; i+1 < len(l); i += 2 {
		out = append(out, api.Header{Name: l[i], Value: l[i+1]})
	}
	return out
}

// join is one list of lists.
func join(lists ...[]api.Header) []api.Header { return slices.Concat(lists...) }

// base is a request without an authority.
func base() []api.Header { return list(":method", "POST", ":path", "/a", ":scheme", "http") }

// all yields each list of at most most of items, in all their orders.
func all(items []api.Header, most int, yield func(l []api.Header)) {
	var grow func(l []api.Header)
	grow = func(l []api.Header) {
		yield(l)
		if len(l) == most {
			return
		}
		for _, h := range items {
			grow(append(l, h))
		}
	}
	grow(make([]api.Header, 0, most))
}

func pick[E any](r *rand.Rand, l ...E) E { return l[r.Intn(len(l))] }

// someHeader is a header that is plain as a rule.
func someHeader(r *rand.Rand) api.Header {
	h := api.Header{Name: pick(r, "a", "b", "x-y", "te", "content-length", "~"), Value: pick(r, "", "1", "a b", "trailers", "\xff"), Never: r.Intn(4) == 0}
	if h.Name == "te" && r.Intn(20) > 0 {
		h.Value = "trailers"
	}
	if r.Intn(40) == 0 {
		h.Name = pick(r, "", "A", "upgrade", ":path", ":authority", ":status", ":", "a:")
	}
	if r.Intn(40) == 0 {
		h.Value = pick(r, " ", "a\t", "\n", "\x00")
	}
	return h
}

func someRest(r *rand.Rand) []api.Header {
	l := make([]api.Header, r.Intn(5))
	for i := range l {
		l[i] = someHeader(r)
	}
	return l
}

// someRequest is headers with `:` that may be a request's, in any order, and others behind them.
func someRequest(r *rand.Rand) []api.Header {
	l := list(":method", pick(r, "GET", "POST", "", "x y"), ":scheme", pick(r, "http", "s", "?", ""), ":path", pick(r, "/", "/a b", "*", "**", "x"), ":authority", pick(r, "", "h", "h:1", " h"))
	r.Shuffle(len(l), func(i, j int) { l[i], l[j] = l[j], l[i] })
	for i := range l {
		l[i].Never = r.Intn(8) == 0
	}
	if r.Intn(3) == 0 {
		l = slices.DeleteFunc(l, func(h api.Header) bool { return h.Name == ":authority" })
	}
	if r.Intn(10) == 0 {
		l = slices.Delete(l, 0, 1)
	}
	if r.Intn(10) == 0 {
		l = append(l, l[0])
	}
	return append(l, someRest(r)...)
}

func someAnswer(r *rand.Rand) []api.Header {
	l := list(":status", pick(r, "100", "200", "404", "599", "600", "099", "20", "2000", ""))
	if r.Intn(10) == 0 {
		l = append(l, l[0])
	}
	l[0].Never = r.Intn(8) == 0
	return append(l, someRest(r)...)
}

// opens holds Open's answer of l against the reference's.
func opens(t *testing.T, l []api.Header) {
	t.Helper()
	want, fault := refOpen(l)
	if r, err := head.Open(l); !sameRequest(r, want) || err != fault {
		t.Fatalf("Open(%+v) = %+v, %v, not %+v, %v", l, r, err, want, fault)
	}
}

func opensAnswer(t *testing.T, l []api.Header) {
	t.Helper()
	want, fault := refOpenAnswer(l)
	if r, err := head.OpenAnswer(l); !sameAnswer(r, want) || err != fault {
		t.Fatalf("OpenAnswer(%+v) = %+v, %v, not %+v, %v", l, r, err, want, fault)
	}
}
