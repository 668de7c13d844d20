package huff_test

import (
	"bytes"
	"encoding/hex"
	"math/rand"
	"strings"
	"testing"

	"parley/api"
	"parley/huff"
)

// texts is every byte alone, runs of each, what headers hold, and others.
func texts() []string {
	l := []string{
		"", "www.example.com", "no-cache", "Mon, 21 Oct 2013 20:13:21 GMT",
		"application/grpc", "\xff\xfe\x80\x00", "\u00e4\u20ac\U0001f600", strings.Repeat("0", 1000), strings.Repeat("\n", 1000),
	}
	all := make([]byte, 256)
	for i := range all {
		all[i] = byte(i)
		for n := 1; n <= 9; n++ {
			l = append(l, strings.Repeat(string(all[i:i+1]), n))
		}
	}
	l = append(l, string(all), strings.Repeat(string(all), 20))
	r := rand.New(rand.NewSource(2))
	for range 2000 {
		b := make([]byte, r.Intn(30))
		for i := range b {
			b[i] = byte(r.Intn(256))
			if r.Intn(3) > 0 { // short codes
				b[i] = byte(32 + r.Intn(96))
			}
		}
		l = append(l, string(b))
	}
	return l
}

func TestP2_2Encode(t *testing.T) {
	k := newBook()
	ends := map[int]bool{}
	for _, s := range texts() {
		bits := k.bits(s)
		ends[len(bits)%8] = true
		want := padded(bits)
		if b := huff.Encode(s); !bytes.Equal(b, want) {
			t.Errorf("Encode(%q) = %v, not %v", s, b, want)
		}
		if n := huff.Size(s); n != len(want) {
			t.Errorf("Size(%q) = %d, not %d", s, n, len(want))
		}
	}
	if len(ends) != 8 {
		t.Error("no text ends at some place within a byte:", ends)
	}
}

// What RFC 7541 says in its appendix C.
func TestP2_2KnownTexts(t *testing.T) {
	for s, want := range map[string]string{
		"www.example.com":               "f1e3c2e5f23a6ba0ab90f4ff",
		"no-cache":                      "a8eb10649cbf",
		"custom-key":                    "25a849e95ba97d7f",
		"custom-value":                  "25a849e95bb8e8b4bf",
		"302":                           "6402",
		"307":                           "640eff",
		"private":                       "aec3771a4b",
		"gzip":                          "9bd9ab",
		"Mon, 21 Oct 2013 20:13:21 GMT": "d07abe941054d444a8200595040b8166e082a62d1bff",
		"https://www.example.com":       "9d29ad171863c78f0b97c8e9ae82ae43d3",
		"foo=ASDJKHQKBZXOQWEOPIUAXQWEOIU; max-age=3600; version=1": "94e7821dd7f2e6c7b335dfdfcd5b3960d5af27087f3672c1ab270fb5291f9587316065c003ed4ee5b1063d5007",
	} {
		if b := huff.Encode(s); hex.EncodeToString(b) != want {
			t.Errorf("Encode(%q) = %x, not %s", s, b, want)
		}
		b, _ := hex.DecodeString(want)
		if back, err := huff.Decode(b); back != s || err != nil {
			t.Errorf("Decode(%s) = %q, %v, not %q", want, back, err, s)
		}
	}
}

func TestP2_2Examples(t *testing.T) {
	for s, want := range map[string][]byte{
		"www.example.com": {241, 227, 194, 229, 242, 58, 107, 160, 171, 144, 244, 255},
		"":                nil,
		"0":               {7},
	} {
		if b := huff.Encode(s); !bytes.Equal(b, want) || huff.Size(s) != len(want) {
			t.Errorf("Encode(%q) = %v, Size %d, not %v", s, b, huff.Size(s), want)
		}
	}
}

func TestP2_3Examples(t *testing.T) {
	decodes(t, []byte{7}, "0", nil)
	decodes(t, []byte{255}, "", api.ErrHuff)
	decodes(t, []byte{255, 255, 255, 255}, "", api.ErrHuff)
	decodes(t, []byte{0}, "", api.ErrHuff)
}

func decodes(t *testing.T, b []byte, want string, fault error) {
	t.Helper()
	if s, err := huff.Decode(b); s != want || err != fault {
		t.Errorf("Decode(%v) = %q, %v, not %q, %v", b, s, err, want, fault)
	}
}

func TestP2_3Decode(t *testing.T) {
	k := newBook()
	decodes(t, nil, "", nil)
	decodes(t, []byte{}, "", nil)
	for _, s := range texts() {
		decodes(t, padded(k.bits(s)), s, nil)
	}
}

func TestP2_3AnyBytes(t *testing.T) {
	k := newBook()
	agree := func(b []byte) {
		want, fault := k.decode(b)
		decodes(t, b, want, fault)
	}
	for x := range 256 {
		agree([]byte{byte(x)})
		for y := range 256 {
			agree([]byte{byte(x), byte(y)})
		}
	}
	r := rand.New(rand.NewSource(3))
	for range 30000 {
		b := make([]byte, r.Intn(16))
		for i := range b {
			b[i] = byte(r.Intn(256))
			if r.Intn(2) == 0 { // long codes begin so
				b[i] = 255
			}
		}
		agree(b)
	}
}

func TestP2_3TheEndsCodeAnywhere(t *testing.T) {
	k := newBook()
	end := k.codes[256]
	for _, s := range texts() {
		bits := k.bits(s) + end
		decodes(t, padded(bits), "", api.ErrHuff)
		for _, more := range []string{"0", "ab", "\x00"} {
			decodes(t, padded(bits+k.bits(more)), "", api.ErrHuff)
		}
		decodes(t, padded(bits+end), "", api.ErrHuff)
	}
}

func TestP2_3TooMuchIsLeft(t *testing.T) {
	for _, s := range texts() {
		b := huff.Encode(s)
		for n := 1; n <= 5; n++ {
			decodes(t, append(bytes.Clone(b), bytes.Repeat([]byte{255}, n)...), "", api.ErrHuff)
		}
	}
}

func TestP2_3ZeroIsLeft(t *testing.T) {
	k := newBook()
	for _, s := range texts() {
		if len(s) > 100 {
			continue
		}
		bits := k.bits(s)
		room := (8 - len(bits)%8) % 8
		for x := range 1<<room - 1 {
			b := padded(bits + digits(uint64(x), room))
			want, fault := k.decode(b)
			if room < 5 && fault == nil {
				t.Fatal("the shortest code has 5 bits, but", room, "are taken")
			}
			decodes(t, b, want, fault)
		}
	}
}

func TestP2_3CutOff(t *testing.T) {
	k := newBook()
	for _, s := range texts() {
		b := huff.Encode(s)
		for n := range min(len(b), 60) {
			want, fault := k.decode(b[:n])
			if !strings.HasPrefix(s, want) {
				t.Fatalf("%v is %q", b[:n], want)
			}
			decodes(t, b[:n], want, fault)
		}
	}
	decodes(t, huff.Encode("a\n")[:4], "", api.ErrHuff)
	decodes(t, huff.Encode("\n")[:3], "", api.ErrHuff)
}

func TestP2_5DecodeOfEncode(t *testing.T) {
	for _, s := range texts() {
		decodes(t, huff.Encode(s), s, nil)
		if n := len(huff.Encode(s)); huff.Size(s) != n {
			t.Errorf("Size(%q) = %d, not %d", s, huff.Size(s), n)
		}
	}
}

func TestP2_5EncodeOfWhatDecodeTook(t *testing.T) {
	took := 0
	r := rand.New(rand.NewSource(4))
	for i := range 60000 {
		b := []byte{byte(i >> 8), byte(i)}
		for range r.Intn(8) {
			b = append(b, byte(r.Intn(256)))
		}
		s, err := huff.Decode(b)
		if err != nil {
			continue
		}
		took++
		if back := huff.Encode(s); !bytes.Equal(back, b) {
			t.Errorf("Decode(%v) = %q, but Encode of it is %v", b, s, back)
		}
	}
	if took < 1000 {
		t.Error("Decode took only", took)
	}
}

func TestP2_6TwoTexts(t *testing.T) {
	k := newBook()
	l := texts()
	for i, s := range l {
		more := l[(i*7+3)%len(l)]
		bits := k.bits(s) + k.bits(more)
		b := huff.Encode(s + more)
		if len(b) != huff.Size(s+more) || huff.Size(s+more) != (len(bits)+7)/8 {
			t.Errorf("Encode(%q+%q) has %d bytes, Size is %d, the bits %d", s, more, len(b), huff.Size(s+more), len(bits))
		}
		if !bytes.Equal(b, padded(bits)) {
			t.Errorf("Encode(%q+%q) = %v, not the bits of both", s, more, b)
		}
	}
}
