package seal_test

import (
	"bytes"
	"crypto/sha256"
	"encoding/binary"
	"encoding/hex"
	"slices"
	"sync"
	"testing"

	"ticketward/api"
	"ticketward/onetime"
	"ticketward/seal"
	"ticketward/stream"
)

// some returns n bytes that follow a fixed rule, so that every run sees the same ones.
func some(n int) []byte {
	b := make([]byte, n)
	state := uint32(n) + 1
	for k := range b {
		state = state*1664525 + 1013904223
		b[k] = byte(state >> 24)
	}
	return b
}

// repeated returns n bytes of one value.
func repeated(n int, value byte) []byte {
	return bytes.Repeat([]byte{value}, n)
}

// unhex returns the bytes of a string of hexadecimal digits.
func unhex(t *testing.T, s string) []byte {
	t.Helper()
	b, err := hex.DecodeString(s)
	if err != nil {
		t.Fatal(err)
	}
	return b
}

// padded returns a new slice with b and the fewest zeros that make its length a multiple of 16.
func padded(b []byte) []byte {
	out := make([]byte, (len(b)+15)/16*16)
	copy(out, b)
	return out
}

// tagged returns c followed by its tag, by the document's words.
func tagged(t *testing.T, key, nonce, extra, c []byte) []byte {
	t.Helper()
	block, err := stream.Block(key, nonce, 0)
	if err != api.OK {
		t.Fatalf("a key of %d bytes, a nonce of %d: Block has error %d", len(key), len(nonce), err)
	}
	lengths := binary.LittleEndian.AppendUint64(nil, uint64(len(extra)))
	lengths = binary.LittleEndian.AppendUint64(lengths, uint64(len(c)))
	tag, err := onetime.Sum(block[:32], slices.Concat(padded(extra), padded(c), lengths))
	if err != api.OK {
		t.Fatalf("the tag has error %d", err)
	}
	return slices.Concat(c, tag[:])
}

// expected is what b is sealed to, by the document's words.
func expected(t *testing.T, key, nonce, extra, b []byte) []byte {
	t.Helper()
	c, err := stream.Mix(key, nonce, 1, b)
	if err != api.OK {
		t.Fatalf("Mix of %d bytes has error %d", len(b), err)
	}
	return tagged(t, key, nonce, extra, c)
}

// checkOpen checks that c opens to b.
func checkOpen(t *testing.T, key, nonce, extra, c, b []byte) {
	t.Helper()
	if got, err := seal.Open(key, nonce, extra, c); err != api.OK || !bytes.Equal(got, b) {
		t.Errorf("Open of %d bytes with %d others = %x and error %d, want %x", len(c), len(extra), got, err, b)
	}
}

// checkSeal compares what b is sealed to with the expected bytes, opens it and returns it.
func checkSeal(t *testing.T, key, nonce, extra, b []byte) []byte {
	t.Helper()
	want := expected(t, key, nonce, extra, b)
	got, err := seal.Seal(key, nonce, extra, b)
	if err != api.OK || !bytes.Equal(got, want) {
		t.Errorf("Seal of %d bytes with %d others = %x and error %d, want %x", len(b), len(extra), got, err, want)
	}
	checkOpen(t, key, nonce, extra, want, b)
	return got
}

// checkSealError checks that Seal returns nothing but the error.
func checkSealError(t *testing.T, key, nonce, extra, b []byte, want api.Errno) {
	t.Helper()
	if got, err := seal.Seal(key, nonce, extra, b); err != want || len(got) != 0 {
		t.Errorf("a key of %d bytes, a nonce of %d: Seal of %d bytes with %d others: %d bytes and error %d, want error %d", len(key), len(nonce), len(b), len(extra), len(got), err, want)
	}
}

// checkOpenError checks that Open returns nothing but the error.
func checkOpenError(t *testing.T, key, nonce, extra, c []byte, want api.Errno) {
	t.Helper()
	if got, err := seal.Open(key, nonce, extra, c); err != want || len(got) != 0 {
		t.Errorf("a key of %d bytes, a nonce of %d: Open of %d bytes with %d others: %d bytes and error %d, want error %d", len(key), len(nonce), len(c), len(extra), len(got), err, want)
	}
}

// eachFlip calls f with every bit of b turned in its turn, and leaves b as it was.
func eachFlip(b []byte, f func(bit int)) {
	for bit := range 8 * len(b) {
		b[bit/8] ^= 1 << (bit % 8)
		f(bit)
		b[bit/8] ^= 1 << (bit % 8)
	}
}

// J1 and J2: the published texts of RFC 8439, there and back.
func TestPublished(t *testing.T) {
	for _, c := range []struct{ key, nonce, extra, b, c, tag string }{
		{
			"808182838485868788898a8b8c8d8e8f909192939495969798999a9b9c9d9e9f",
			"070000004041424344454647",
			"50515253c0c1c2c3c4c5c6c7",
			"Ladies and Gentlemen of the class of '99: If I could offer you only one tip for the future, sunscreen would be it.",
			"d31a8d34648e60db7b86afbc53ef7ec2a4aded51296e08fea9e2b5a736ee62d63dbea45e8ca9671282fafb69da92728b1a71de0a9e060b2905d6a5b67ecd3b3692ddbd7f2d778b8c9803aee328091b58fab324e4fad675945585808b4831d7bc3ff4def08e4b7a9de576d26586cec64b6116",
			"1ae10b594f09e26a7e902ecbd0600691",
		},
		{
			"1c9240a5eb55d38af333888604f6b5f0473917c1402b80099dca5cbc207075c0",
			"000000000102030405060708",
			"f33388860000000000004e91",
			"Internet-Drafts are draft documents valid for a maximum of six months and may be updated, replaced, or obsoleted by other documents at any time. It is inappropriate to use Internet-Drafts as reference material or to cite them other than as /\xe2\x80\x9cwork in progress./\xe2\x80\x9d",
			"64a0861575861af460f062c79be643bd5e805cfd345cf389f108670ac76c8cb24c6cfc18755d43eea09ee94e382d26b0bdb7b73c321b0100d4f03b7f355894cf332f830e710b97ce98c8a84abd0b948114ad176e008d33bd60f982b1ff37c8559797a06ef4f0ef61c186324e2b3506383606907b6a7c02b0f9f6157b53c867e4b9166c767b804d46a59b5216cde7a4e99040c5a40433225ee282a1b0a06c523eaf4534d7f83fa1155b0047718cbc546a0d072b04b3564eea1b422273f548271a0bb2316053fa76991955ebd63159434ecebb4e466dae5a1073a6727627097a1049e617d91d361094fa68f0ff77987130305beaba2eda04df997b714d6c6f2c29a6ad5cb4022b02709b",
			"eead9d67890cbb22392336fea1851f38",
		},
	} {
		got := checkSeal(t, unhex(t, c.key), unhex(t, c.nonce), unhex(t, c.extra), []byte(c.b))
		if hex.EncodeToString(got) != c.c+c.tag {
			t.Errorf("Seal of %q = %x, want %s", c.b, got, c.c+c.tag)
		}
	}
}

// J1: Seal, the hashes of what OpenSSL made of bytes of several lengths.
func TestSealedElsewhere(t *testing.T) {
	for _, c := range []struct {
		extra, long int
		want        string
	}{
		{0, 0, "5dce053c30960777116d46400268e75900e80df0d47d9c87add4959a6359abd9"},
		{0, 1, "bd8987041d0503509e34ba3619e7db0f810181e4e4a5c5d2ce9adb668a1ed983"},
		{1, 0, "09a9e29f1f5ffbe97819b7307323433fe91bc4f439d35dff665de77a96ca66bc"},
		{1, 1, "87669c26af6c53ea59a6eeaafe0a5bd1cde40002be487f6790c985f15f7f0c13"},
		{12, 15, "2249d208cda4cd7f8c93077c311f06db7dad09eab48a1cece35d9f7b54f03f37"},
		{15, 16, "712ff0a589b5f183b2ed01ed616d75c242fdce9f9a8d615fb74322cfe6adb658"},
		{16, 17, "7825bd8674de81a4ca6bc406adc5eb13ea358ed483eee5de0e27d9e435c98ffe"},
		{17, 64, "afcc39eef2496a2a11027f173e46c7196613957ea3a7eaf3d6a02fcae1c86630"},
		{31, 63, "4b49d3a30df8385e25fe9bbedf7ff1e77f7369e8fc2cf9a2b31ff5f53a9472c7"},
		{32, 65, "a33dfb768fca5bdad3e1c794473645fb95fd14fe4e8725154b1e77c58065f611"},
		{5, 192, "ca925043869431b9fd9e32c1681f17b610233ffb49af516415d04547f595987e"},
		{13, 255, "dbf8b02fbf04a5adbcbe7381060d3619ee5e7c34b80ac919364a4736b7f0b17c"},
		{255, 256, "1fd8df3762707bc1df77872d3d87b93b24aee236ae54bf67c8e78408152c50d0"},
		{256, 1000, "aa3d806abf361781b81533cd409449ad383d4481660dae428080bd12560cd560"},
		{1000, 3, "ad2cbfad4ac3ffc996df93cfc3fd34c009f71fb605caa3254e6332e145ae0dc7"},
		{0, 16384, "56449aefff6dbed80b6055b25555d04a6a7d2ad007e0f4c860cf0b7ba78a00c3"},
		{16384, 0, "6e116ddda610fb4d569203162c9b6f6890351c605ecd017830a5c9a4281d0029"},
		{16383, 16383, "bd183b6f61eb47674281b3baa2bc047d7e89245b8645756dfd72ff1da59ebe80"},
		{16384, 16384, "72255adb8ff4b7b8d49fbb770b114618b5a6a3d430d7adbe4f4eb9f22bbc2e11"},
	} {
		got := sha256.Sum256(checkSeal(t, some(32), some(12), some(c.extra), some(c.long)))
		if hex.EncodeToString(got[:]) != c.want {
			t.Errorf("the hash of Seal of %d bytes with %d others = %x, want %s", c.long, c.extra, got, c.want)
		}
	}
}

// J1: Seal, the hashes of what OpenSSL made of keys, nonces and texts whose bits are all set.
func TestLargestSealedElsewhere(t *testing.T) {
	for _, c := range []struct {
		extra, long int
		want        string
	}{
		{0, 0, "1678e9daa4fdfca87b67ab7b576edaae9b8a4bccf8eca67a6ca15ddf15e18325"},
		{16, 16, "d9ed031b305d0b6f6863d47ceeeda3bd74a87ff984bbf0c539dba13740b1037c"},
		{17, 40, "1f308cf73f16f2907f138502a9306c58e50bb11411204a2c8cd665e3ef23fd09"},
		{16384, 16384, "ffba40f20801bb7d7557e9e8fa4c9509c924cfee67ee621b73a67c5f4ff1eb51"},
	} {
		got := sha256.Sum256(checkSeal(t, repeated(32, 255), repeated(12, 255), repeated(c.extra, 255), repeated(c.long, 255)))
		if hex.EncodeToString(got[:]) != c.want {
			t.Errorf("the hash of Seal of %d bytes with %d others = %x, want %s", c.long, c.extra, got, c.want)
		}
	}
}

// J1 and J2: every length of a text and of the bytes it is sealed with, with many keys and nonces.
func TestEveryLength(t *testing.T) {
	for extra := range 50 {
		for long := range 140 {
			got := checkSeal(t, some(32 + extra)[extra:], some(12 + long)[long:], some(extra), some(long))
			if len(got) != long+16 {
				t.Errorf("Seal of %d bytes has %d", long, len(got))
			}
			checkSeal(t, some(32), some(12), repeated(extra, 0), repeated(long, 255))
		}
	}
	for long := 140; long < 600; long++ {
		checkSeal(t, some(32), some(12), some(long), some(7))
		checkSeal(t, some(32), some(12), some(7), some(long))
	}
}

// J1: what precedes the tag does not depend on the other bytes, and mixing it again restores the text.
func TestCiphertext(t *testing.T) {
	key, nonce, b := some(32), some(12), some(200)
	plain := checkSeal(t, key, nonce, nil, b)
	for extra := range 100 {
		got := checkSeal(t, key, nonce, some(extra), b)
		if !bytes.Equal(got[:len(b)], plain[:len(b)]) {
			t.Errorf("the ciphertext depends on %d other bytes", extra)
		}
		if extra > 0 && bytes.Equal(got[len(b):], plain[len(b):]) {
			t.Errorf("the tag does not depend on %d other bytes", extra)
		}
	}
	if back, err := stream.Mix(key, nonce, 1, plain[:len(b)]); err != api.OK || !bytes.Equal(back, b) {
		t.Errorf("Mix of the ciphertext = %x and error %d, want %x", back, err, b)
	}
}

// J1: each bit of every argument counts.
func TestSealEveryBit(t *testing.T) {
	key, nonce, extra, b := some(32), some(12), some(20), some(70)
	seen := map[string]bool{string(checkSeal(t, key, nonce, extra, b)[len(b):]): true}
	for k, part := range [][]byte{key, nonce, extra, b} {
		eachFlip(part, func(bit int) {
			tag := string(checkSeal(t, key, nonce, extra, b)[len(b):])
			if seen[tag] {
				t.Errorf("the tag overlooks bit %d of argument %d", bit, k)
			}
			seen[tag] = true
		})
	}
}

// J2: Open, with any bit of any argument wrong.
func TestOpenEveryBit(t *testing.T) {
	for _, extraLong := range []int{0, 1, 16, 21} {
		for _, long := range []int{0, 1, 16, 65} {
			key, nonce, extra := some(32), some(12), some(extraLong)
			c := expected(t, key, nonce, extra, some(long))
			for _, part := range [][]byte{key, nonce, extra, c} {
				eachFlip(part, func(int) {
					checkOpenError(t, key, nonce, extra, c, api.ErrSum)
				})
			}
			checkOpen(t, key, nonce, extra, c, some(long))
		}
	}
}

// J2: Open, of bytes that nobody sealed, with the right tag: each of them opens.
func TestOpenAnyCiphertext(t *testing.T) {
	key, nonce := some(32), some(12)
	for long := range 200 {
		for _, c := range [][]byte{some(long), make([]byte, long), repeated(long, 255)} {
			want, err := stream.Mix(key, nonce, 1, c)
			if err != api.OK {
				t.Fatal(err)
			}
			checkOpen(t, key, nonce, some(9), tagged(t, key, nonce, some(9), c), want)
		}
	}
}

// J2: Open, of a ciphertext that is cut or continued at either end, and of one with the tag elsewhere or without it.
func TestOpenCut(t *testing.T) {
	key, nonce, extra := some(32), some(12), some(5)
	for _, long := range []int{0, 1, 15, 16, 17, 64, 100} {
		c := expected(t, key, nonce, extra, some(long))
		for cut := 1; cut <= len(c); cut++ {
			want := api.ErrSum
			if len(c)-cut < 16 {
				want = api.ErrShort
			}
			checkOpenError(t, key, nonce, extra, c[:len(c)-cut], want)
			checkOpenError(t, key, nonce, extra, c[cut:], want)
		}
		for more := 1; more < 40; more++ {
			checkOpenError(t, key, nonce, extra, slices.Concat(c, make([]byte, more)), api.ErrSum)
			checkOpenError(t, key, nonce, extra, slices.Concat(make([]byte, more), c), api.ErrSum)
			checkOpenError(t, key, nonce, extra, slices.Concat(c[:long], make([]byte, more), c[long:]), api.ErrSum)
		}
		checkOpenError(t, key, nonce, extra, slices.Concat(c, c[long:]), api.ErrSum)
		if long > 0 {
			checkOpenError(t, key, nonce, extra, slices.Concat(c[long:], c[:long]), api.ErrSum)
		}
	}
}

// J1 and J2: the tag tells the other bytes, the ciphertext and their padding apart.
func TestOpenMoved(t *testing.T) {
	key, nonce := some(32), some(12)
	extra, b := make([]byte, 48), make([]byte, 48)
	for extraLong := range 48 {
		c := expected(t, key, nonce, extra[:extraLong], b)
		for other := range 49 {
			if other != extraLong {
				checkOpenError(t, key, nonce, extra[:other], c, api.ErrSum)
			}
		}
	}
	// All of these are padded to the same bytes and differ in their lengths only.
	all := some(64)
	for cut := 16; cut <= 48; cut += 16 {
		for other := 16; other <= 48; other += 16 {
			moved := slices.Concat(all[other:], tagged(t, key, nonce, all[:cut], all[cut:])[64-cut:])
			if other != cut {
				checkOpenError(t, key, nonce, all[:other], moved, api.ErrSum)
			}
		}
	}
	c := expected(t, key, nonce, some(20), some(20))
	checkOpenError(t, key, nonce, nil, slices.Concat(some(20), c), api.ErrSum)
	checkOpenError(t, key, nonce, c[:20], slices.Concat(some(20), c[20:]), api.ErrSum)
}

// J1 and J2: lengths of keys and nonces, on both sides of the right ones, before any other error.
func TestFormErrors(t *testing.T) {
	texts := [][]byte{nil, some(16), some(40), some(api.MaxText + 1), some(api.MaxText + 17)}
	for size := range 70 {
		for _, long := range []int{0, 1, 8, 11, 12, 13, 16, 24, 32, 100} {
			if size == 32 && long == 12 {
				continue
			}
			for _, extra := range [][]byte{nil, some(3), some(api.MaxText + 1)} {
				for _, b := range texts {
					checkSealError(t, some(size), some(long), extra, b, api.ErrForm)
					checkOpenError(t, some(size), some(long), extra, b, api.ErrForm)
				}
			}
		}
	}
}

// J1 and J2: a length that is right only with the room after a slice.
func TestFormErrorsRoom(t *testing.T) {
	c := expected(t, some(32), some(12), nil, some(9))
	for size := range 32 {
		checkSealError(t, some(32)[:size], some(12), nil, some(9), api.ErrForm)
		checkOpenError(t, some(32)[:size], some(12), nil, c, api.ErrForm)
	}
	for size := range 12 {
		checkSealError(t, some(32), some(12)[:size], nil, some(9), api.ErrForm)
		checkOpenError(t, some(32), some(12)[:size], nil, c, api.ErrForm)
	}
	checkSealError(t, some(12), some(32), nil, some(9), api.ErrForm)
	checkOpenError(t, some(12), some(32), nil, c, api.ErrForm)
}

// J1: Seal, both sides of the limits of the text and of the other bytes.
func TestSealErrors(t *testing.T) {
	lengths := []int{0, 1, api.MaxText - 1, api.MaxText, api.MaxText + 1, api.MaxText + 16, api.MaxText + 17, 1 << 17}
	for _, extra := range lengths {
		for _, long := range lengths {
			if extra > api.MaxText || long > api.MaxText {
				checkSealError(t, some(32), some(12), some(extra), some(long), api.ErrRange)
			} else {
				checkSeal(t, some(32), some(12), some(extra), some(long))
			}
		}
	}
}

// J2: Open, both sides of its limits, of right tags and of wrong ones: ErrRange before ErrShort before ErrSum.
func TestOpenErrors(t *testing.T) {
	key, nonce := some(32), some(12)
	for _, extraLong := range []int{0, 1, api.MaxText, api.MaxText + 1, 1 << 17} {
		extra := some(extraLong)
		for _, long := range []int{0, 1, 14, 15, 16, 17, 100, api.MaxText, api.MaxText + 15, api.MaxText + 16, api.MaxText + 17, 1 << 17} {
			want := api.ErrSum
			switch {
			case extraLong > api.MaxText || long-16 > api.MaxText:
				want = api.ErrRange
			case long < 16:
				want = api.ErrShort
			}
			checkOpenError(t, key, nonce, extra, some(long), want)
			checkOpenError(t, key, nonce, extra, make([]byte, long), want)
			if long < 16 {
				continue
			}
			right := tagged(t, key, nonce, extra, some(long-16))
			if want == api.ErrRange {
				checkOpenError(t, key, nonce, extra, right, want)
			} else {
				plain, _ := stream.Mix(key, nonce, 1, some(long-16))
				checkOpen(t, key, nonce, extra, right, plain)
			}
		}
	}
}

// J2: Open, of fewer bytes than a tag has, though the room after the slice has the rest.
func TestOpenErrorsRoom(t *testing.T) {
	c := expected(t, some(32), some(12), some(4), nil)
	for long := range 16 {
		checkOpenError(t, some(32), some(12), some(4), c[:long], api.ErrShort)
	}
	checkOpen(t, some(32), some(12), some(4), c, nil)
}

// AA3: nil and empty arguments are the same.
func TestEmptyArguments(t *testing.T) {
	key, nonce := some(32), some(12)
	want := expected(t, key, nonce, nil, nil)
	for _, x := range [][]byte{nil, {}, some(3)[:0]} {
		for _, y := range [][]byte{nil, {}, some(3)[:0]} {
			if got := checkSeal(t, key, nonce, x, y); !bytes.Equal(got, want) {
				t.Errorf("Seal of nothing = %x, want %x", got, want)
			}
			checkOpenError(t, key, nonce, x, y, api.ErrShort)
			checkSealError(t, x, nonce, y, y, api.ErrForm)
			checkSealError(t, key, x, y, y, api.ErrForm)
			checkOpenError(t, x, nonce, y, want, api.ErrForm)
			checkOpenError(t, key, x, y, want, api.ErrForm)
		}
		checkOpen(t, key, nonce, x, want, nil)
	}
}

// AA2: arguments stay as they are, and what lies beyond their length is neither read nor modified.
func TestArgumentsStay(t *testing.T) {
	for _, size := range []int{0, 1, 15, 16, 17, 63, 64, 200} {
		key, nonce, extra, b := some(100), some(50), some(301), some(300)
		want := expected(t, key[:32], nonce[:12], extra[:size], b[:size])
		c := slices.Concat(want, some(40))
		for round := range 2 {
			kept := [][]byte{slices.Clone(key), slices.Clone(nonce), slices.Clone(extra), slices.Clone(b), slices.Clone(c)}
			if got := checkSeal(t, key[:32], nonce[:12], extra[:size], b[:size]); !bytes.Equal(got, want) {
				t.Errorf("%d bytes, round %d: Seal depends on what follows an argument", size, round)
			}
			checkOpen(t, key[:32], nonce[:12], extra[:size], c[:size+16], b[:size])
			c[0] ^= 1
			checkOpenError(t, key[:32], nonce[:12], extra[:size], c[:size+16], api.ErrSum)
			c[0] ^= 1
			for k, part := range [][]byte{key, nonce, extra, b, c} {
				if !bytes.Equal(part, kept[k]) {
					t.Errorf("%d bytes, round %d: argument %d was modified", size, round, k)
				}
			}
			for _, rest := range [][]byte{key[32:], nonce[12:], extra[size:], b[size:], c[size+16:]} {
				for k := range rest {
					rest[k] ^= 255
				}
			}
		}
	}
}

// AA2: results share no memory with arguments, and none with each other.
func TestResultsAreNew(t *testing.T) {
	key, nonce, extra, b := some(32), some(12), some(10), some(100)
	c := checkSeal(t, key, nonce, extra, b)
	sealed := slices.Clone(c)
	again := checkSeal(t, key, nonce, extra, b)
	opened, err := seal.Open(key, nonce, extra, c)
	if err != api.OK {
		t.Fatal(err)
	}
	openedAgain, _ := seal.Open(key, nonce, extra, c)
	for _, other := range [][]byte{key, nonce, extra, b, again[:cap(again)], openedAgain[:cap(openedAgain)]} {
		for k := range other {
			other[k] ^= 255
		}
	}
	if !bytes.Equal(c, sealed) {
		t.Error("a result of Seal shares memory with an argument or another result")
	}
	for k := range c {
		c[k] ^= 255
	}
	if !bytes.Equal(opened, some(100)) {
		t.Error("a result of Open shares memory with an argument or another result")
	}
}

// AA2: arguments may share memory: one slice as key, nonce, other bytes and text.
func TestSharedArguments(t *testing.T) {
	all := some(150)
	checkSeal(t, all[:32], all[:12], all[:20], all)
	checkSeal(t, all[5:37], all[30:42], all[10:100], all[10:100])
	checkOpenError(t, all[:32], all[:12], all, all, api.ErrSum)
	if !bytes.Equal(all, some(150)) {
		t.Error("an argument was modified")
	}
}

// AA1: a call sees nothing of an earlier one, or of one at the same time.
func TestCallsAreIndependent(t *testing.T) {
	key, nonce, b := some(32), some(12), some(500)
	var wait sync.WaitGroup
	for n := range 8 {
		wait.Go(func() {
			for k := range 50 {
				checkSeal(t, key, nonce, b[n*k:], b[:n*k])
				checkSeal(t, some(32 + n)[n:], some(12 + k)[k:], b[:n], b[n*k:])
				checkOpenError(t, key, nonce, b[:n], b[n*k:], api.ErrSum)
			}
		})
	}
	wait.Wait()
}
