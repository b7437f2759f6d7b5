package text_test

import (
	"bytes"
	"encoding/base64"
	"encoding/hex"
	"strings"
	"testing"

	"ticketward/api"
	"ticketward/text"
)

const limit = 2 * api.MaxText

// some returns n bytes that follow a fixed rule, so that every run sees the same ones.
func some(n int) []byte {
	b := make([]byte, n)
	state := uint32(n) + 1
	for k := range b {
		state = state*1664525 + 1013904223
		b[k] = byte(state >> 24)
	}
	return b
}

type decoding struct {
	name string
	text string
	want []byte
	err  api.Errno
}

func checkDecoding(t *testing.T, decode func(string) ([]byte, api.Errno), cases []decoding) {
	t.Helper()
	for _, c := range cases {
		got, err := decode(c.text)
		if err != c.err || !bytes.Equal(got, c.want) {
			t.Errorf("%s: got %v and error %d, want %v and error %d", c.name, got, err, c.want, c.err)
		}
	}
}

// everyText calls f with all texts of exactly n bytes out of alphabet.
func everyText(alphabet string, n int, f func(string)) {
	b := make([]byte, n)
	var fill func(at int)
	fill = func(at int) {
		if at == n {
			f(string(b))
			return
		}
		for k := range len(alphabet) {
			b[at] = alphabet[k]
			fill(at + 1)
		}
	}
	fill(0)
}

func everyByte() string {
	b := make([]byte, 256)
	for k := range b {
		b[k] = byte(k)
	}
	return string(b)
}

// A1: Hex, of ordinary inputs and of every byte.
func TestHex(t *testing.T) {
	for _, c := range []struct {
		in   []byte
		want string
	}{
		{nil, ""},
		{[]byte{}, ""},
		{[]byte{0}, "00"},
		{[]byte{0, 255, 26}, "00ff1a"},
		{[]byte{0x01, 0x23, 0x45, 0x67, 0x89, 0xab, 0xcd, 0xef}, "0123456789abcdef"},
	} {
		if got := text.Hex(c.in); got != c.want {
			t.Errorf("Hex(%v) = %q, want %q", c.in, got, c.want)
		}
	}
	all := []byte(everyByte())
	if got, want := text.Hex(all), hex.EncodeToString(all); got != want {
		t.Errorf("Hex of every byte = %q, want %q", got, want)
	}
}

// A1: Unhex, each error and the order of the errors.
func TestUnhex(t *testing.T) {
	checkDecoding(t, text.Unhex, []decoding{
		{"empty", "", nil, api.OK},
		{"one byte", "1a", []byte{26}, api.OK},
		{"three bytes", "00ff1a", []byte{0, 255, 26}, api.OK},
		{"all digits", "0123456789abcdef", []byte{0x01, 0x23, 0x45, 0x67, 0x89, 0xab, 0xcd, 0xef}, api.OK},
		{"uppercase first", "A0", nil, api.ErrForm},
		{"uppercase second", "0F", nil, api.ErrForm},
		{"no digit first", "g0", nil, api.ErrForm},
		{"no digit second", "0g", nil, api.ErrForm},
		{"one digit", "0", nil, api.ErrShort},
		{"one that is no digit", "g", nil, api.ErrForm},
		{"one digit more", "00f", nil, api.ErrShort},
		{"one more that is no digit", "00 ", nil, api.ErrForm},
		{"no digit before one digit more", "0g0", nil, api.ErrForm},
		{"no digit after good pairs", "00ff1a1g", nil, api.ErrForm},
		{"high bytes", "\xff\xfe", nil, api.ErrForm},
		{"a rune of two bytes", "0\u00e9", nil, api.ErrForm},
		{"longest", strings.Repeat("5a", limit/2), bytes.Repeat([]byte{0x5a}, limit/2), api.OK},
		{"longest but one", strings.Repeat("0", limit-1), nil, api.ErrShort},
		{"too long", strings.Repeat("0", limit+2), nil, api.ErrRange},
		{"too long by one", strings.Repeat("0", limit+1), nil, api.ErrRange},
		{"too long, and no digit", strings.Repeat("g", limit+1), nil, api.ErrRange},
		{"longest, and no digit", strings.Repeat("g", limit), nil, api.ErrForm},
	})
}

// A1: a text is decoded just if it is what Hex makes of the result.
func TestUnhexEveryPair(t *testing.T) {
	for n := range 3 {
		everyText(everyByte(), n, func(s string) {
			got, err := text.Unhex(s)
			want, bad := hex.DecodeString(s)
			if ok := bad == nil && s == strings.ToLower(s); ok != (err == api.OK) {
				t.Errorf("Unhex(%q): error %d", s, err)
			} else if ok && (!bytes.Equal(got, want) || text.Hex(got) != s) {
				t.Errorf("Unhex(%q) = %v, want %v", s, got, want)
			} else if !ok && len(got) != 0 {
				t.Errorf("Unhex(%q) = %v with error %d", s, got, err)
			}
		})
	}
}

// A1: Same.
func TestSame(t *testing.T) {
	long := some(1000)
	for _, c := range []struct {
		name string
		a, b []byte
		want bool
	}{
		{"nil and nil", nil, nil, true},
		{"nil and empty", nil, []byte{}, true},
		{"empty and nil", []byte{}, nil, true},
		{"empty and one", nil, []byte{0}, false},
		{"one and empty", []byte{0}, nil, false},
		{"equal", []byte{1, 2, 3}, []byte{1, 2, 3}, true},
		{"first differs", []byte{0, 2, 3}, []byte{1, 2, 3}, false},
		{"last differs", []byte{1, 2, 3}, []byte{1, 2, 131}, false},
		{"differences that cancel", []byte{1, 2}, []byte{2, 1}, false},
		{"a prefix", []byte{1, 2}, []byte{1, 2, 0}, false},
		{"longer", []byte{1, 2, 0}, []byte{1, 2}, false},
		{"long", long, bytes.Clone(long), true},
		{"itself", long, long, true},
	} {
		if got := text.Same(c.a, c.b); got != c.want {
			t.Errorf("%s: Same = %v", c.name, got)
		}
	}
	for bit := range 8 {
		for at := range long {
			other := bytes.Clone(long)
			other[at] ^= 1 << bit
			if text.Same(long, other) {
				t.Errorf("Same overlooks bit %d of byte %d", bit, at)
			}
		}
	}
}

// A2: Code, of ordinary inputs, of groups of each size and of the whole alphabet.
func TestCode(t *testing.T) {
	for _, c := range []struct {
		in   []byte
		want string
	}{
		{nil, ""},
		{[]byte{}, ""},
		{[]byte{0}, "AA"},
		{[]byte{255}, "_w"},
		{[]byte{0, 0}, "AAA"},
		{[]byte{255, 255}, "__8"},
		{[]byte{0, 255, 26}, "AP8a"},
		{[]byte{0xfb, 0xef, 0xbe}, "----"},
		{[]byte("foob"), "Zm9vYg"},
		{[]byte("fooba"), "Zm9vYmE"},
		{[]byte("foobar"), "Zm9vYmFy"},
	} {
		if got := text.Code(c.in); got != c.want {
			t.Errorf("Code(%v) = %q, want %q", c.in, got, c.want)
		}
	}
	for n := range 200 {
		b := some(n)
		if got, want := text.Code(b), base64.RawURLEncoding.EncodeToString(b); got != want {
			t.Errorf("Code of %d bytes = %q, want %q", n, got, want)
		}
	}
}

// A2: Uncode, each error and the order of the errors.
func TestUncode(t *testing.T) {
	checkDecoding(t, text.Uncode, []decoding{
		{"empty", "", nil, api.OK},
		{"one byte", "_w", []byte{255}, api.OK},
		{"two bytes", "__8", []byte{255, 255}, api.OK},
		{"three bytes", "AP8a", []byte{0, 255, 26}, api.OK},
		{"four bytes", "Zm9vYg", []byte("foob"), api.OK},
		{"no letter first", "+AAA", nil, api.ErrForm},
		{"no letter second", "A/AA", nil, api.ErrForm},
		{"no letter third", "AA.A", nil, api.ErrForm},
		{"no letter fourth", "AAA\n", nil, api.ErrForm},
		{"padded, one byte", "AA==", nil, api.ErrForm},
		{"padded, two bytes", "AAA=", nil, api.ErrForm},
		{"one letter", "A", nil, api.ErrShort},
		{"one that is no letter", "=", nil, api.ErrForm},
		{"one letter more", "AAAAA", nil, api.ErrShort},
		{"one more that is no letter", "AAAA=", nil, api.ErrForm},
		{"no letter before one letter more", "AA+AA", nil, api.ErrForm},
		{"no letter in the second group", "AP8aAA+A", nil, api.ErrForm},
		{"lowest unused bit of two letters", "AB", nil, api.ErrSum},
		{"highest unused bit of two letters", "AI", nil, api.ErrSum},
		{"lowest used bit of two letters", "AQ", []byte{1}, api.OK},
		{"lowest unused bit of three letters", "AAB", nil, api.ErrSum},
		{"highest unused bit of three letters", "AAC", nil, api.ErrSum},
		{"lowest used bit of three letters", "AAE", []byte{0, 1}, api.OK},
		{"no unused bits in a whole group", "AAAB", []byte{0, 0, 1}, api.OK},
		{"unused bits after whole groups", "AAABAB", nil, api.ErrSum},
		{"unused bits, and no letter", "AB=", nil, api.ErrForm},
		{"no letter before unused bits", "A*AAAB", nil, api.ErrForm},
		{"high bytes", "\xff\xfe\xfd\xfc", nil, api.ErrForm},
		{"a rune of two bytes", "AA\u00e9", nil, api.ErrForm},
		{"longest", strings.Repeat("AP8a", limit/4), bytes.Repeat([]byte{0, 255, 26}, limit/4), api.OK},
		{"longest but three", strings.Repeat("A", limit-3), nil, api.ErrShort},
		{"longest but two, unused bits", strings.Repeat("B", limit-2), nil, api.ErrSum},
		{"longest, and no letter", strings.Repeat("=", limit), nil, api.ErrForm},
		{"too long by one", strings.Repeat("A", limit+1), nil, api.ErrRange},
		{"too long", strings.Repeat("A", limit+4), nil, api.ErrRange},
		{"too long, and no letter", strings.Repeat("=", limit+1), nil, api.ErrRange},
		{"too long, and unused bits", strings.Repeat("B", limit+2), nil, api.ErrRange},
	})
}

// A2: every value of a single letter, and all that is no letter.
func TestUncodeEveryByte(t *testing.T) {
	const alphabet = "ABCDEFGHIJKLMNOPQRSTUVWXYZabcdefghijklmnopqrstuvwxyz0123456789-_"
	for k := range len(alphabet) {
		got, err := text.Uncode("AAA" + alphabet[k:k+1])
		if err != api.OK || !bytes.Equal(got, []byte{0, 0, byte(k)}) {
			t.Errorf("Uncode of letter %d: %v and error %d", k, got, err)
		}
	}
	for k := range 256 {
		c := string([]byte{byte(k)})
		if strings.Contains(alphabet, c) {
			continue
		}
		for at := range 4 {
			if got, err := text.Uncode("AAAA"[:at] + c + "AAAA"[at+1:]); err != api.ErrForm || len(got) != 0 {
				t.Errorf("Uncode with byte %d at %d: %v and error %d", k, at, got, err)
			}
		}
	}
}

// A2: a text is decoded just if it is what Code makes of the result.
func TestUncodeOnlyCode(t *testing.T) {
	for n := range 5 {
		everyText("ABCEIQgw89-_=+\n", n, func(s string) {
			got, err := text.Uncode(s)
			want, bad := base64.RawURLEncoding.Strict().DecodeString(s)
			// The library's decoder skips newlines.
			if ok := bad == nil && !strings.Contains(s, "\n"); ok != (err == api.OK) {
				t.Errorf("Uncode(%q): error %d", s, err)
			} else if ok && (!bytes.Equal(got, want) || text.Code(got) != s) {
				t.Errorf("Uncode(%q) = %v, want %v", s, got, want)
			} else if !ok && len(got) != 0 {
				t.Errorf("Uncode(%q) = %v with error %d", s, got, err)
			}
		})
	}
}

// A1, A2: decoding an encoding restores the bytes.
func TestBothWays(t *testing.T) {
	for n := range 300 {
		b := some(n)
		if got, err := text.Unhex(text.Hex(b)); err != api.OK || !bytes.Equal(got, b) {
			t.Errorf("Unhex(Hex) of %d bytes: %v and error %d", n, got, err)
		}
		if got, err := text.Uncode(text.Code(b)); err != api.OK || !bytes.Equal(got, b) {
			t.Errorf("Uncode(Code) of %d bytes: %v and error %d", n, got, err)
		}
	}
}

// A1, A2: encoding has no limit, unlike decoding.
func TestLongEncodings(t *testing.T) {
	b := some(limit + 1)
	if text.Hex(b) != hex.EncodeToString(b) {
		t.Error("Hex of a long input")
	}
	if text.Code(b) != base64.RawURLEncoding.EncodeToString(b) {
		t.Error("Code of a long input")
	}
}

// AA1, AA2: arguments stay as they are, beyond their length too, and results depend on nothing beyond it.
func TestArgumentsStay(t *testing.T) {
	for n := range 8 {
		room := some(32)
		before := bytes.Clone(room)
		b := room[:n]
		hexed, coded := text.Hex(b), text.Code(b)
		if !text.Same(b, before[:n]) {
			t.Errorf("%d bytes are not the same as their copy", n)
		}
		if !bytes.Equal(room, before) {
			t.Errorf("an argument of %d bytes was modified", n)
		}
		for k := range room {
			room[k] ^= 255
		}
		if hexed != hex.EncodeToString(before[:n]) || coded != base64.RawURLEncoding.EncodeToString(before[:n]) {
			t.Errorf("a result for %d bytes depends on memory that is not its own", n)
		}
	}
}

// AA2: two results share no memory.
func TestResultsAreNew(t *testing.T) {
	for name, decode := range map[string]func(string) ([]byte, api.Errno){"Unhex": text.Unhex, "Uncode": text.Uncode} {
		first, _ := decode("00aa11bb")
		second, _ := decode("00aa11bb")
		want := bytes.Clone(second)
		for k := range first {
			first[k] ^= 255
		}
		if len(want) == 0 || !bytes.Equal(second, want) {
			t.Errorf("%s: a result shares memory with another one", name)
		}
	}
}
