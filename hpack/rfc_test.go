package hpack_test

import (
	"encoding/hex"
	"strings"
	"testing"

	"parley/api"
)

// What RFC 7541 shows in its appendix C.

func unhex(t *testing.T, s string) []byte {
	t.Helper()
	b, err := hex.DecodeString(strings.ReplaceAll(s, " ", ""))
	if err != nil {
		t.Fatal(err)
	}
	return b
}

// shown is a block, and what it says.
type shown struct {
	block string
	l     []api.Header
	held  int // headers in the table behind it
}

func requests() [3][]api.Header {
	return [3][]api.Header{
		list(":method", "GET", ":scheme", "http", ":path", "/", ":authority", "www.example.com"),
		list(":method", "GET", ":scheme", "http", ":path", "/", ":authority", "www.example.com", "cache-control", "no-cache"),
		list(":method", "GET", ":scheme", "https", ":path", "/index.html", ":authority", "www.example.com", "custom-key", "custom-value"),
	}
}

func answers() [3][]api.Header {
	const date, later, at = "Mon, 21 Oct 2013 20:13:21 GMT", "Mon, 21 Oct 2013 20:13:22 GMT", "https://www.example.com"
	return [3][]api.Header{
		list(":status", "302", "cache-control", "private", "date", date, "location", at),
		list(":status", "307", "cache-control", "private", "date", date, "location", at),
		list(":status", "200", "cache-control", "private", "date", later, "location", at, "content-encoding", "gzip",
			"set-cookie", "foo=ASDJKHQKBZXOQWEOPIUAXQWEOIU; max-age=3600; version=1"),
	}
}

func TestP4_3KnownHeaders(t *testing.T) {
	for _, x := range []shown{
		{"400a 6375 7374 6f6d 2d6b 6579 0d63 7573 746f 6d2d 6865 6164 6572", list("custom-key", "custom-header"), 1},
		{"040c 2f73 616d 706c 652f 7061 7468", list(":path", "/sample/path"), 0},
		{"1008 7061 7373 776f 7264 0673 6563 7265 74", secret(list("password", "secret")), 0},
		{"82", list(":method", "GET"), 0},
	} {
		d := mustDecoder(t, 4096)
		decodes(t, d, unhex(t, x.block), x.l, nil)
		if d.Len() != x.held {
			t.Errorf("%s: Len %d, not %d", x.block, d.Len(), x.held)
		}
	}
}

// known decodes the blocks, one behind the other, by a decoder of limit.
func known(t *testing.T, limit int, l []shown) {
	t.Helper()
	d := mustDecoder(t, limit)
	for _, x := range l {
		decodes(t, d, unhex(t, x.block), x.l, nil)
		if d.Len() != x.held {
			t.Errorf("%s: Len %d, not %d", x.block, d.Len(), x.held)
		}
	}
}

func coded() []shown {
	l := requests()
	return []shown{
		{"8286 8441 8cf1 e3c2 e5f2 3a6b a0ab 90f4 ff", l[0], 1},
		{"8286 84be 5886 a8eb 1064 9cbf", l[1], 2},
		{"8287 85bf 4088 25a8 49e9 5ba9 7d7f 8925 a849 e95b b8e8 b4bf", l[2], 3},
	}
}

func TestP4_6KnownRequests(t *testing.T) {
	l := requests()
	known(t, 4096, []shown{
		{"8286 8441 0f77 7777 2e65 7861 6d70 6c65 2e63 6f6d", l[0], 1},
		{"8286 84be 5808 6e6f 2d63 6163 6865", l[1], 2},
		{"8287 85bf 400a 6375 7374 6f6d 2d6b 6579 0c63 7573 746f 6d2d 7661 6c75 65", l[2], 3},
	})
	known(t, 4096, coded())
}

func TestP4_6KnownAnswers(t *testing.T) {
	l := answers()
	known(t, 256, []shown{
		{"4803 3330 3258 0770 7269 7661 7465 611d 4d6f 6e2c 2032 3120 4f63 7420 3230 3133 2032 303a 3133 3a32 3120 474d 546e 1768 7474 7073 3a2f 2f77 7777 2e65 7861 6d70 6c65 2e63 6f6d", l[0], 4},
		{"4803 3330 37c1 c0bf", l[1], 4},
		{"88c1 611d 4d6f 6e2c 2032 3120 4f63 7420 3230 3133 2032 303a 3133 3a32 3220 474d 54c0 5a04 677a 6970 7738 666f 6f3d 4153 444a 4b48 514b 425a 584f 5157 454f 5049 5541 5851 5745 4f49 553b 206d 6178 2d61 6765 3d33 3630 303b 2076 6572 7369 6f6e 3d31", l[2], 3},
	})
	known(t, 256, []shown{
		{"4882 6402 5885 aec3 771a 4b61 96d0 7abe 9410 54d4 44a8 2005 9504 0b81 66e0 82a6 2d1b ff6e 919d 29ad 1718 63c7 8f0b 97c8 e9ae 82ae 43d3", l[0], 4},
		{"4883 640e ffc1 c0bf", l[1], 4},
		{"88c1 6196 d07a be94 1054 d444 a820 0595 040b 8166 e084 a62d 1bff c05a 839b d9ab 77ad 94e7 821d d7f2 e6c7 b335 dfdf cd5b 3960 d5af 2708 7f36 72c1 ab27 0fb5 291f 9587 3160 65c0 03ed 4ee5 b106 3d50 07", l[2], 3},
	})
}

func TestP4_5KnownRequests(t *testing.T) {
	e := mustEncoder(t, 4096)
	for _, x := range coded() {
		encodes(t, e, x.l, unhex(t, x.block))
	}
}

func TestP4_5KnownAnswers(t *testing.T) {
	e, l := mustEncoder(t, 256), answers()
	for i, block := range []string{
		"4882 6402 5885 aec3 771a 4b61 96d0 7abe 9410 54d4 44a8 2005 9504 0b81 66e0 82a6 2d1b ff6e 919d 29ad 1718 63c7 8f0b 97c8 e9ae 82ae 43d3",
		"4803 3330 37c1 c0bf", // the code of 307 is no shorter: the RFC takes it, the chapter does not
		"88c1 6196 d07a be94 1054 d444 a820 0595 040b 8166 e084 a62d 1bff c05a 839b d9ab 77ad 94e7 821d d7f2 e6c7 b335 dfdf cd5b 3960 d5af 2708 7f36 72c1 ab27 0fb5 291f 9587 3160 65c0 03ed 4ee5 b106 3d50 07",
	} {
		encodes(t, e, l[i], unhex(t, block))
	}
}
