package head_test

import (
	"fmt"
	"math/rand"
	"slices"
	"strconv"
	"strings"
	"testing"

	"parley/api"
	"parley/head"
)

func TestP6_5GetAll(t *testing.T) {
	l := list("a", "1", "b", "", ":path", "/", "a", "3", "A", "4", "", "5", "a", "1", "ab", "6", " any \n", "\x00")
	l[3].Never = true
	for name, want := range map[string][]string{
		"a":       {"1", "3", "1"},
		"b":       {""},
		":path":   {"/"},
		"A":       {"4"},
		"":        {"5"},
		"ab":      {"6"},
		" any \n": {"\x00"},
		"c":       nil,
		"B":       nil,
		"path":    nil,
		":":       nil,
		"a ":      nil,
	} {
		s, ok := head.Get(l, name)
		if ok != (len(want) > 0) || ok && s != want[0] || !ok && s != "" {
			t.Errorf("Get(%q) = %q, %t", name, s, ok)
		}
		if all := head.All(l, name); !slices.Equal(all, want) {
			t.Errorf("All(%q) = %q, not %q", name, all, want)
		}
	}
	for _, none := range [][]api.Header{nil, {}, l[:0]} {
		if s, ok := head.Get(none, "a"); s != "" || ok {
			t.Errorf("Get(none) = %q, %t", s, ok)
		}
		if all := head.All(none, "a"); len(all) != 0 {
			t.Errorf("All(none) = %q", all)
		}
	}
}

// lengthsOf is a list with a content-length for each text, others between.
func lengthsOf(texts ...string) []api.Header {
	l := list("length", "1", "Content-Length", "2", ":content-length", "3")
	for _, s := range texts {
		l = append(l, list("content-length", s, "x", "4")...)
	}
	return l
}

func TestP6_5Length(t *testing.T) {
	for _, x := range []struct {
		l  []string
		n  int
		ok bool
	}{
		{nil, 0, false},
		{[]string{"0"}, 0, true},
		{[]string{"5"}, 5, true},
		{[]string{"9"}, 9, true},
		{[]string{"007"}, 7, true},
		{[]string{"0000000000"}, 0, true},
		{[]string{"0000000010"}, 10, true},
		{[]string{"1234567890"}, 1234567890, true},
		{[]string{"2147483648"}, 1 << 31, true},
		{[]string{"4294967296"}, 1 << 32, true},
		{[]string{"9999999999"}, 9999999999, true},
		{[]string{"5", "5"}, 5, true},
		{[]string{"05", "05", "05"}, 5, true},
	} {
		if n, ok, err := head.Length(lengthsOf(x.l...)); n != x.n || ok != x.ok || err != nil {
			t.Errorf("Length(%q) = %d, %t, %v", x.l, n, ok, err)
		}
	}
	for n := range 3000 {
		n *= 3333331
		if got, ok, err := head.Length(lengthsOf(strconv.Itoa(n))); got != n || !ok || err != nil {
			t.Errorf("Length(%d) = %d, %t, %v", n, got, ok, err)
		}
	}
	if n, ok, err := head.Length(nil); n != 0 || ok || err != nil {
		t.Errorf("Length(none) = %d, %t, %v", n, ok, err)
	}
	secret := []api.Header{{Name: "content-length", Value: "5", Never: true}, {Name: "content-length", Value: "5"}}
	if n, ok, err := head.Length(secret); n != 5 || !ok || err != nil {
		t.Errorf("Length(%v) = %d, %t, %v", secret, n, ok, err)
	}
}

func TestP6_5LengthErrors(t *testing.T) {
	for _, l := range [][]string{
		{""},
		{"x"},
		{"5x"},
		{"x5"},
		{"-1"},
		{"+1"},
		{" 5"},
		{"5 "},
		{"5\n"},
		{"5, 5"},
		{"5.0"},
		{"1e3"},
		{"0x5"},
		{"1_0"},
		{"/"},
		{":"},
		{"\u0665"},
		{"\xb5"},
		{"10000000000"},
		{"00000000001"},
		{"18446744073709551621"},
		{strings.Repeat("0", 70000)},
		{"5", "05"},
		{"05", "5"},
		{"5", "6"},
		{"5", "5", "6"},
		{"5", "6", "5"},
		{"6", "5", "5"},
		{"5", "x"},
		{"x", "5"},
		{"x", "x"},
		{"", ""},
		{"", "5"},
	} {
		if n, ok, err := head.Length(lengthsOf(l...)); n != 0 || ok || err != api.ErrHead {
			t.Errorf("Length(%.50q) = %d, %t, %v", l, n, ok, err)
		}
	}
	r := rand.New(rand.NewSource(4))
	for range 20000 {
		s := fmt.Sprintf("%0*d", r.Intn(13), r.Intn(1<<40))
		if r.Intn(3) == 0 {
			b := []byte(s)
			b[r.Intn(len(b))] = byte(r.Intn(256))
			s = string(b)
		}
		n, ok, err := head.Length(lengthsOf(s))
		if !lengths.MatchString(s) || strings.HasSuffix(s, "\n") {
			if n != 0 || ok || err != api.ErrHead {
				t.Fatalf("Length(%q) = %d, %t, %v", s, n, ok, err)
			}
			continue
		}
		if want, _ := strconv.ParseInt(s, 10, 64); n != int(want) || !ok || err != nil {
			t.Fatalf("Length(%q) = %d, %t, %v", s, n, ok, err)
		}
	}
}
