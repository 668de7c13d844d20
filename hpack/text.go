package hpack

import (
	"parley/api"
	"parley/huff"
)

const coded, textBits = 128, 7 // how the number of bytes begins, if these are a Huffman code

// PutText is b, and behind it s, as its Huffman code if that is shorter.
func PutText(b []byte, s string) []byte {
	return appendText(fresh(b, longest+len(s)), s)
}

func appendText(b []byte, s string) []byte {
	if size := huff.Size(s); size < len(s) {
		return append(appendInt(b, coded, textBits, size), huff.Encode(s)...)
	}
	return append(appendInt(b, 0, textBits, len(s)), s...)
}

// Text is the text that b begins with, and how many bytes it has there.
func Text(b []byte) (string, int, error) {
	length, size, err := Int(b, textBits)
	if err != nil {
		return "", 0, err
	}
	rest := b[size:]
	if length > api.MaxList {
		return "", 0, api.ErrLong
	}
	if length > len(rest) {
		return "", 0, api.ErrEnd
	}
	if b[0] < coded {
		return string(rest[:length]), size + length, nil
	}
	s, err := huff.Decode(rest[:length])
	if err != nil {
		return "", 0, err
	}
	return s, size + length, nil
}
