package head_test

import (
	"strings"
	"testing"

	"parley/api"
	"parley/head"
)

func TestP6_1Name(t *testing.T) {
	for s, want := range map[string]bool{
		"a":                      true,
		"z":                      true,
		"0":                      true,
		"9":                      true,
		"x-0!#$%&'*+-.^_`|~":     true,
		"te":                     true,
		"connection":             true, // a name, if no plain header's
		strings.Repeat("a", 1e5): true,
		"":                       false,
		"A":                      false,
		"aB":                     false,
		"a b":                    false,
		" a":                     false,
		"a ":                     false,
		":":                      false,
		":a":                     false,
		":path":                  false,
		"a:":                     false,
		"\u00e9":                 false,
		"a\xff":                  false,
		"a\x7f":                  false,
		"a\x00":                  false,
		"a\n":                    false,
		"(a)":                    false,
	} {
		if head.Name(s) != want {
			t.Errorf("Name(%.30q) is %t", s, !want)
		}
	}
	const letters = "abcdefghijklmnopqrstuvwxyz0123456789!#$%&'*+-.^_`|~"
	for c := range 256 {
		b := string([]byte{byte(c)})
		want := strings.Contains(letters, b)
		for _, s := range []string{b, "a" + b, b + "a", "-" + b + "-"} {
			if head.Name(s) != want || refName(s) != want {
				t.Errorf("Name(%q) is %t", s, !want)
			}
		}
	}
}

func TestP6_1Value(t *testing.T) {
	for s, want := range map[string]bool{
		"":                                true,
		"a":                               true,
		"a b":                             true,
		"a\tb":                            true,
		"a \t b":                          true,
		"\u00e9\u20ac":                    true,
		"\xff\xfe":                        true,
		"\x01\x1f\x7f":                    true,
		"\v\f":                            true,
		"\u00a0":                          true, // no blank, though a space
		"\u2003a\u2003":                   true,
		" ":                               false,
		"\t":                              false,
		" a":                              false,
		"a ":                              false,
		"\ta":                             false,
		"a\t":                             false,
		"a\nb":                            false,
		"a\rb":                            false,
		"a\x00b":                          false,
		"\xff\x00":                        false,
		"\xff\xff\xff\xff\xff\xff\xff\n":  false,
		strings.Repeat("a", 1e5):          true,
		strings.Repeat("\xff", 50) + "\r": false,
		strings.Repeat(" ", 1e5):          false,
	} {
		if head.Value(s) != want {
			t.Errorf("Value(%.30q) is %t", s, !want)
		}
	}
	for c := range 256 {
		b := string([]byte{byte(c)})
		inside := c != 0 && c != 10 && c != 13
		outside := inside && c != 32 && c != 9
		for s, want := range map[string]bool{b: outside, "a" + b: outside, b + "a": outside, "a" + b + "a": inside, "\xff" + b + "\xff": inside} {
			if head.Value(s) != want || refValue(s) != want {
				t.Errorf("Value(%q) is %t", s, !want)
			}
		}
	}
}

// What is plain shows in each of the three kinds of lists.
func TestP6_2Plain(t *testing.T) {
	for _, x := range []struct {
		name, value string
		want        bool
	}{
		{"a", "", true},
		{"a", "b", true},
		{"x-0!#$%&'*+-.^_`|~", "\xff b", true},
		{"te", "trailers", true},
		{"connections", "close", true},
		{"proxy", "x", true},
		{"alive", "x", true},
		{"upgrade-", "x", true},
		{"tea", "gzip", true},
		{"content-length", "no number", true},
		{"", "x", false},
		{"A", "x", false},
		{"a b", "x", false},
		{"Te", "trailers", false},
		{":", "x", false},
		{":a", "x", false},
		{":path", "/", false},
		{":status", "200", false},
		{"a", " ", false},
		{"a", "x ", false},
		{"a", "\tx", false},
		{"a", "x\ny", false},
		{"a", "\x00", false},
		{"connection", "close", false},
		{"connection", "", false},
		{"proxy-connection", "x", false},
		{"keep-alive", "x", false},
		{"transfer-encoding", "chunked", false},
		{"transfer-encoding", "trailers", false},
		{"upgrade", "h2c", false},
		{"te", "", false},
		{"te", "gzip", false},
		{"te", "Trailers", false},
		{"te", "trailers ", false},
		{"te", "trailers, gzip", false},
	} {
		for _, never := range []bool{false, true} {
			h := api.Header{Name: x.name, Value: x.value, Never: never}
			if refPlain(h) != x.want {
				t.Fatal("the reference:", h)
			}
			for _, l := range [][]api.Header{{h}, {{Name: "a"}, h}, {h, {Name: "a"}}} {
				if err := head.Trailers(l); (err == nil) != x.want || err != nil && err != api.ErrHead {
					t.Errorf("Trailers(%+v): %v", l, err)
				}
				opens(t, join(base(), l))
				opensAnswer(t, join(list(":status", "200"), l))
			}
		}
	}
}
