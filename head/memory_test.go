package head_test

import (
	"slices"
	"testing"

	"parley/api"
	"parley/head"
)

var other = api.Header{Name: ":spoiled", Value: " ", Never: true}

// guarded is a copy of l with headers behind its length, in the same memory, and a call that tells whether anything there was changed.
func guarded(t *testing.T, l []api.Header) ([]api.Header, func(what string)) {
	t.Helper()
	memory := slices.Concat(l, []api.Header{{Name: "a", Value: "behind"}, {Name: "content-length", Value: "77"}, {Name: ":authority", Value: "behind"}, {Name: "upgrade"}})
	want := slices.Clone(memory)
	return memory[:len(l)], func(what string) {
		t.Helper()
		if !slices.Equal(memory, want) {
			t.Errorf("%s changed what was handed in: %+v, not %+v", what, memory, want)
		}
	}
}

// spoil writes over l, its spare room too.
func spoil[E any](l []E, with E) {
	l = l[:cap(l)]
	for i := range l {
		l[i] = with
	}
}

func rests() [][]api.Header {
	return [][]api.Header{nil, list("a", "1"), list("a", "1", "te", "trailers", "a", "2"), {{Name: "a", Never: true}}, list("a", "1", "b", "2", "c", "3", "d", "4", "e", "5")}
}

func TestP6_6OpenAnswersNewMemory(t *testing.T) {
	for _, rest := range rests() {
		l, unchanged := guarded(t, join(base(), rest))
		one, _ := head.Open(l)
		two, _ := head.Open(l)
		three, _ := head.Open(one.Rest)
		spoil(two.Rest, other)
		spoil(three.Rest, other)
		unchanged("Open")
		spoil(l, other)
		if !sameRequest(one, head.Request{Method: "POST", Scheme: "http", Path: "/a", Rest: rest}) {
			t.Errorf("Open shows what was written elsewhere: %+v", one)
		}

		l, unchanged = guarded(t, join(list(":status", "200"), rest))
		answer, _ := head.OpenAnswer(l)
		again, _ := head.OpenAnswer(l)
		spoil(again.Rest, other)
		unchanged("OpenAnswer")
		spoil(l, other)
		if !sameAnswer(answer, head.Response{Status: 200, Rest: rest}) {
			t.Errorf("OpenAnswer shows what was written elsewhere: %+v", answer)
		}
	}
}

func TestP6_6BuildAnswersNewMemory(t *testing.T) {
	for _, rest := range rests() {
		for _, authority := range []string{"", "h"} {
			given, unchanged := guarded(t, rest)
			r := head.Request{Method: "M", Scheme: "s", Authority: authority, Path: "/", Rest: given}
			one, _ := head.Build(r)
			want := slices.Clone(one)
			two, _ := head.Build(r)
			spoil(two, other)
			unchanged("Build")
			spoil(given, other)
			if len(one) < 3+len(rest) || !slices.Equal(one, want) {
				t.Errorf("Build shows what was written elsewhere: %+v", one)
			}
		}
		given, unchanged := guarded(t, rest)
		one, _ := head.BuildAnswer(head.Response{Status: 200, Rest: given})
		two, _ := head.BuildAnswer(head.Response{Status: 200, Rest: given})
		spoil(two, other)
		unchanged("BuildAnswer")
		spoil(given, other)
		if !slices.Equal(one, join(list(":status", "200"), rest)) {
			t.Errorf("BuildAnswer shows what was written elsewhere: %+v", one)
		}
	}
}

func TestP6_6AllAnswersNewMemory(t *testing.T) {
	for _, rest := range rests() {
		l, unchanged := guarded(t, rest)
		var want []string
		for _, h := range rest {
			if h.Name == "a" {
				want = append(want, h.Value)
			}
		}
		one := head.All(l, "a")
		two := head.All(l, "a")
		spoil(two, "spoiled")
		unchanged("All")
		spoil(l, other)
		if !slices.Equal(one, want) {
			t.Errorf("All shows what was written elsewhere, or behind the list: %q, not %q", one, want)
		}
	}
}

// What is refused is not changed, either; and what stands behind a list does not count.
func TestP6_6OthersLeaveItAlone(t *testing.T) {
	for _, x := range []struct {
		l    []api.Header
		call func(l []api.Header) bool
	}{
		{list("a", "1"), func(l []api.Header) bool { return head.Trailers(l) == nil }},
		{list("A", "1"), func(l []api.Header) bool { return head.Trailers(l) == api.ErrHead }},
		{list("b", "1"), func(l []api.Header) bool { _, ok := head.Get(l, "a"); return !ok }},
		{list("b", "1"), func(l []api.Header) bool { _, ok, err := head.Length(l); return !ok && err == nil }},
		{list("content-length", "5"), func(l []api.Header) bool { n, ok, err := head.Length(l); return n == 5 && ok && err == nil }},
		{list("content-length", "5", "content-length", "6"), func(l []api.Header) bool { _, _, err := head.Length(l); return err == api.ErrHead }},
		{join(base(), list("A", "")), func(l []api.Header) bool { _, err := head.Open(l); return err == api.ErrHead }},
		{list(":status", "200", "A", ""), func(l []api.Header) bool { _, err := head.OpenAnswer(l); return err == api.ErrHead }},
		{list("A", ""), func(l []api.Header) bool {
			_, err := head.Build(head.Request{Method: "M", Scheme: "s", Path: "/", Rest: l})
			return err == api.ErrHead
		}},
		{list("A", ""), func(l []api.Header) bool {
			_, err := head.BuildAnswer(head.Response{Status: 200, Rest: l})
			return err == api.ErrHead
		}},
	} {
		l, unchanged := guarded(t, x.l)
		if !x.call(l) {
			t.Errorf("of %+v another answer", x.l)
		}
		unchanged("a call")
	}
}
