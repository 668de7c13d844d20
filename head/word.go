package head

import (
	"strings"

	"parley/api"
)

// What a name is made of, beside small letters and digits.
const marks = "!#$%&'*+-.^_`|~"

// Name tells whether s may be a header's name.
func Name(s string) bool {
	for i := range len(s) {
		if !inName(s[i]) {
			return false
		}
	}
	return s != ""
}

func inName(c byte) bool {
	return c >= 'a' && c <= 'z' || c >= '0' && c <= '9' || strings.IndexByte(marks, c) >= 0
}

// Value tells whether s may be a header's value.
func Value(s string) bool {
	return !strings.ContainsAny(s, "\x00\n\r") && strings.Trim(s, " \t") == s
}

// isPlain tells whether h may stand in any list, behind the headers with `:`.
func isPlain(h api.Header) bool {
	switch h.Name {
	case "connection", "proxy-connection", "keep-alive", "transfer-encoding", "upgrade":
		return false
	case "te":
		return h.Value == "trailers"
	}
	return Name(h.Name) && Value(h.Value)
}

// decimal is the number that s is, if it is digits alone, least to most of them.
func decimal(s string, least, most int) (int, bool) {
	if len(s) < least || len(s) > most {
		return 0, false
	}
	n := 0
	for i := range len(s) {
		if s[i] < '0' || s[i] > '9' {
			return 0, false
		}
		n = n*10 + int(s[i]-'0')
	}
	return n, true
}
