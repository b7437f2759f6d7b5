// Package text: bytes as letters; see doc/01-text.md.
package text

import (
	"strings"

	"ticketward/api"
)

const digits = "0123456789abcdef"

const letters = "ABCDEFGHIJKLMNOPQRSTUVWXYZabcdefghijklmnopqrstuvwxyz0123456789-_"

// longest bounds the texts that are decoded, in bytes.
const longest = 2 * api.MaxText

// Hex encodes each byte of b as two hexadecimal digits.
func Hex(b []byte) string {
	var out strings.Builder
	out.Grow(2 * len(b))
	for _, c := range b {
		out.WriteByte(digits[c>>4])
		out.WriteByte(digits[c&15])
	}
	return out.String()
}

// Unhex returns the bytes that Hex encodes as s.
func Unhex(s string) ([]byte, api.Errno) {
	if len(s) > longest {
		return nil, api.ErrRange
	}
	out := make([]byte, 0, len(s)/2)
	for i := 0; i < len(s); i += 2 {
		high, ok := digitValue(s[i])
		if !ok {
			return nil, api.ErrForm
		}
		if i+1 == len(s) {
			return nil, api.ErrShort
		}
		low, ok := digitValue(s[i+1])
		if !ok {
			return nil, api.ErrForm
		}
		out = append(out, high<<4|low)
	}
	return out, api.OK
}

// digitValue has no case for A to F: if both cases were read, two texts would stand for the same bytes.
func digitValue(c byte) (byte, bool) {
	switch {
	case '0' <= c && c <= '9':
		return c - '0', true
	case 'a' <= c && c <= 'f':
		return c - 'a' + 10, true
	}
	return 0, false
}

// Code encodes b in base64url without padding.
func Code(b []byte) string {
	var out strings.Builder
	out.Grow((4*len(b) + 2) / 3)
	for len(b) > 0 {
		n := min(len(b), 3)
		writeGroup(&out, b[:n])
		b = b[n:]
	}
	return out.String()
}

// writeGroup writes a group of one to three bytes, which needs one letter more than it has bytes.
func writeGroup(out *strings.Builder, group []byte) {
	var bits uint32
	for k, c := range group {
		bits |= uint32(c) << (16 - 8*k)
	}
	for k := range len(group) + 1 {
		out.WriteByte(letters[bits>>(18-6*k)&63])
	}
}

// Uncode returns the bytes that Code encodes as s.
func Uncode(s string) ([]byte, api.Errno) {
	if len(s) > longest {
		return nil, api.ErrRange
	}
	out := make([]byte, 0, len(s)*3/4)
	for len(s) > 0 {
		n := min(len(s), 4)
		bits, err := readGroup(s[:n])
		if err != api.OK {
			return nil, err
		}
		for k := range n - 1 {
			out = append(out, byte(bits>>(16-8*k)))
		}
		s = s[n:]
	}
	return out, api.OK
}

// readGroup returns the 24 bits of a group of one to four letters.
func readGroup(group string) (uint32, api.Errno) {
	var bits uint32
	for k := range len(group) {
		v, ok := letterValue(group[k])
		if !ok {
			return 0, api.ErrForm
		}
		bits |= v << (18 - 6*k)
	}
	if len(group) == 1 {
		return 0, api.ErrShort
	}
	// The top byte of the word is free, and n letters carry n-1 bytes: whatever is set below these 8*n bits is unused.
	if bits<<(8*len(group)) != 0 {
		return 0, api.ErrSum
	}
	return bits, api.OK
}

// letterValue is the place of c in letters.
func letterValue(c byte) (uint32, bool) {
	switch {
	case 'A' <= c && c <= 'Z':
		return uint32(c - 'A'), true
	case 'a' <= c && c <= 'z':
		return uint32(c-'a') + 26, true
	case '0' <= c && c <= '9':
		return uint32(c-'0') + 52, true
	case c == '-':
		return 62, true
	case c == '_':
		return 63, true
	}
	return 0, false
}

// Same reports whether a and b are equal. It looks at all bytes, since the time until the first difference would tell about a secret that is compared.
func Same(a, b []byte) bool {
	if len(a) != len(b) {
		return false
	}
	var differ byte
	for k := range a {
		differ |= a[k] ^ b[k]
	}
	return differ == 0
}
