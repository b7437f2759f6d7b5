package onetime_test

import (
	"bytes"
	"encoding/hex"
	"math/big"
	"slices"
	"sync"
	"testing"

	"ticketward/api"
	"ticketward/onetime"
)

// cleared are the bits of a key that do not count.
var cleared = []int{28, 29, 30, 31, 32, 33, 60, 61, 62, 63, 64, 65, 92, 93, 94, 95, 96, 97, 124, 125, 126, 127}

// some returns n bytes that follow a fixed rule, so that every run sees the same ones.
func some(n int) []byte {
	b := make([]byte, n)
	state := uint32(n) + 1
	for k := range b {
		state = state*1664525 + 1013904223
		b[k] = byte(state >> 24)
	}
	return b
}

// repeated returns n bytes of one value.
func repeated(n int, value byte) []byte {
	return bytes.Repeat([]byte{value}, n)
}

// runs returns n bytes in runs of the given width, of which bit after bit of choice says whether their bits are all set or all clear.
func runs(n, width int, choice []byte) []byte {
	b := make([]byte, n)
	for k := range b {
		if run := k / width; choice[run/8]>>(run%8)&1 == 1 {
			b[k] = 255
		}
	}
	return b
}

// starting returns n bytes, first the given ones and then zeros.
func starting(n int, first ...byte) []byte {
	return append(first, make([]byte, n-len(first))...)
}

// unhex returns the bytes of a string of hexadecimal digits.
func unhex(t *testing.T, s string) []byte {
	t.Helper()
	b, err := hex.DecodeString(s)
	if err != nil {
		t.Fatal(err)
	}
	return b
}

// power returns 2^n.
func power(n uint) *big.Int {
	return new(big.Int).Lsh(big.NewInt(1), n)
}

// prime returns 2^130 - 5.
func prime() *big.Int {
	return new(big.Int).Sub(power(130), big.NewInt(5))
}

// read returns the integer of bytes of which the last one counts most.
func read(b []byte) *big.Int {
	turned := slices.Clone(b)
	slices.Reverse(turned)
	return new(big.Int).SetBytes(turned)
}

// write returns x modulo 2^128 in 16 bytes, of which the last one counts most.
func write(x *big.Int) [16]byte {
	var out [16]byte
	new(big.Int).Mod(x, power(128)).FillBytes(out[:])
	slices.Reverse(out[:])
	return out
}

// factor is what a key multiplies by.
func factor(key []byte) *big.Int {
	out := read(key[:16])
	for _, bit := range cleared {
		out.SetBit(out, bit, 0)
	}
	return out
}

// expected is the tag, computed with the library's integers.
func expected(t *testing.T, key, b []byte) [16]byte {
	t.Helper()
	if len(key) != 32 {
		t.Fatalf("no tag for a key of %d bytes", len(key))
	}
	r, p, total := factor(key), prime(), new(big.Int)
	for block := range slices.Chunk(b, 16) {
		total.Add(total, read(append(slices.Clone(block), 1)))
		total.Mul(total, r).Mod(total, p)
	}
	return write(total.Add(total, read(key[16:])))
}

// checkSum compares the tag with the expected one and returns it.
func checkSum(t *testing.T, key, b []byte) [16]byte {
	t.Helper()
	want := expected(t, key, b)
	got, err := onetime.Sum(key, b)
	if err != api.OK || got != want {
		t.Errorf("Sum with the key %x, of %d bytes = %x and error %d, want %x", key, len(b), got, err, want)
	}
	return got
}

// I1: Sum, the published tags of RFC 8439.
func TestPublishedSums(t *testing.T) {
	ietf := "Any submission to the IETF intended by the Contributor for publication as all or part of an IETF Internet-Draft or RFC and any statement made within the context of an IETF activity is considered an \"IETF Contribution\". Such statements include oral statements in IETF sessions, as well as written and electronic communications made at any time or place, which are addressed to"
	poem := "'Twas brillig, and the slithy toves\nDid gyre and gimble in the wabe:\nAll mimsy were the borogoves,\nAnd the mome raths outgrabe."
	half := "36e5f6b5c5e06070f0efca96227a863e"
	zeros := hex.EncodeToString(make([]byte, 16))
	ones := hex.EncodeToString(repeated(16, 255))
	for _, c := range []struct{ key, b, want string }{
		{"85d6be7857556d337f4452fe42d506a80103808afb0db2fd4abff6af4149f51b", "Cryptographic Forum Research Group", "a8061dc1305136c6c22b8baf0c0127a9"},
		{zeros + zeros, string(make([]byte, 64)), zeros},
		{zeros + half, ietf, half},
		{half + zeros, ietf, "f3477e7cd95417af89a6b8794c310cf0"},
		{"1c9240a5eb55d38af333888604f6b5f0473917c1402b80099dca5cbc207075c0", poem, "4541669a7eaaee61e708dc7cbcc5eb62"},
		{"02000000000000000000000000000000" + zeros, string(unhex(t, ones)), "03000000000000000000000000000000"},
		{"02000000000000000000000000000000" + ones, string(starting(16, 2)), "03000000000000000000000000000000"},
		{"01000000000000000000000000000000" + zeros, string(unhex(t, ones+"f0ffffffffffffffffffffffffffffff11000000000000000000000000000000")), "05000000000000000000000000000000"},
		{"01000000000000000000000000000000" + zeros, string(unhex(t, ones+"fbfefefefefefefefefefefefefefefe01010101010101010101010101010101")), zeros},
		{"02000000000000000000000000000000" + zeros, string(unhex(t, "fdffffffffffffffffffffffffffffff")), "faffffffffffffffffffffffffffffff"},
		{"01000000000000000400000000000000" + zeros, string(unhex(t, "e33594d7505e43b900000000000000003394d7505e4379cd01000000000000000000000000000000000000000000000001000000000000000000000000000000")), "14000000000000005500000000000000"},
		{"01000000000000000400000000000000" + zeros, string(unhex(t, "e33594d7505e43b900000000000000003394d7505e4379cd010000000000000000000000000000000000000000000000")), "13000000000000000000000000000000"},
	} {
		key := unhex(t, c.key)
		got := checkSum(t, key, []byte(c.b))
		if hex.EncodeToString(got[:]) != c.want {
			t.Errorf("Sum with the key %s, of %q = %x, want %s", c.key, c.b, got, c.want)
		}
		if ok, err := onetime.Check(key, []byte(c.b), unhex(t, c.want)); !ok || err != api.OK {
			t.Errorf("Check with the key %s, of %q = %v and error %d", c.key, c.b, ok, err)
		}
	}
}

// I1: Sum, the tags that OpenSSL made of bytes of several lengths.
func TestSumsElsewhere(t *testing.T) {
	for _, c := range []struct {
		long int
		want string
	}{
		{0, "c3d03ce8541d849de2d8c2ec2d81bb24"},
		{1, "8c4a6a1fd927ddd4d5c98548d61f71fb"},
		{15, "2764cdcdf7c6b26f9cb6f430c3204cd9"},
		{16, "309b5b8418f1ef7dbbba7551392e0201"},
		{17, "7b01b77dc908065a46f27578bc0a025f"},
		{31, "b135cc20adbe186c37185dc7fe64b5a9"},
		{32, "2c5ab736f326903fffe712be131da14f"},
		{33, "8f0c72ee6824ad26c93ee295d16cf09c"},
		{63, "ea39c30ce43d98d1a9a76840225f5959"},
		{64, "fc118c502dfe9cb8daffcd336ecdc15c"},
		{255, "9affc8554bc4d592f343d8b4736483e0"},
		{1000, "6a9f5efd3d1045ac09c2f7e01e3ba29c"},
		{16384, "065a6b90852830a7780abc99b2752474"},
		{16385, "29b559192a3eb4a99c5ec00e225d8fc1"},
		{100000, "945926e7f3d3e67e8c7edbd6297157e9"},
	} {
		if got := checkSum(t, some(32), some(c.long)); hex.EncodeToString(got[:]) != c.want {
			t.Errorf("Sum of %d bytes = %x, want %s", c.long, got, c.want)
		}
	}
}

// I1: Sum, the tags that OpenSSL made with a key and of bytes whose bits are all set, which make the largest numbers.
func TestLargestSumsElsewhere(t *testing.T) {
	for _, c := range []struct {
		long int
		want string
	}{
		{0, "ffffffffffffffffffffffffffffffff"},
		{1, "23feffef23f8ffef23f8ffef23f8ffef"},
		{15, "fbff27e6030028e6030028e6030028ee"},
		{16, "fbffff17faffff17faffff17faffff17"},
		{17, "7cfe7ff768f81f2763f8bf565df85f86"},
		{31, "5400a8ed4800481d4300e84c3d008884"},
		{32, "5400801f3f00204f3900c07e330060ae"},
		{47, "5efc92395bfc141b827c7843a37cbdba"},
		{48, "5efc6a6b51fcec4c787c5075997c95e4"},
		{64, "900fe32bc15fa8d7bca8efe4c7e37eb1"},
		{1000, "de9406b10e7023bcd692ff687f4cbc7f"},
		{16384, "f1197116b8a9c20738b48e6ba2e6f2fe"},
	} {
		if got := checkSum(t, repeated(32, 255), repeated(c.long, 255)); hex.EncodeToString(got[:]) != c.want {
			t.Errorf("Sum of %d bytes = %x, want %s", c.long, got, c.want)
		}
	}
}

// I1: Sum, of every length, with many keys.
func TestSumEveryLength(t *testing.T) {
	for long := range 300 {
		for n := range 10 {
			checkSum(t, some(32 + n)[n:], some(long))
			checkSum(t, some(50 + long)[:32], some(long + n)[n:])
		}
		for _, value := range []byte{0, 1, 15, 16, 127, 128, 240, 252, 254, 255} {
			checkSum(t, repeated(32, value), repeated(long, value))
			checkSum(t, some(32), repeated(long, value))
			checkSum(t, repeated(32, value), some(long))
		}
	}
	checkSum(t, some(32), some(1<<20))
	checkSum(t, repeated(32, 255), repeated(1<<20+7, 255))
}

// I1: Sum, of keys and messages of which long runs of bits are all set or all clear, where carries run far.
func TestSumCarries(t *testing.T) {
	for n := range 1000 {
		plain := some(80 + n)[n:]
		for _, width := range []int{1, 4, 8, 16} {
			set := runs(80, width, plain)
			checkSum(t, set[:32], set[32:])
			checkSum(t, set[:32], plain[32:])
			checkSum(t, plain[:32], set)
		}
	}
}

// I1: Sum, of totals on both sides of 2^130 - 5 and of 2^130: three blocks that are added up and multiplied by 1.
func TestSumAtPrime(t *testing.T) {
	ones := new(big.Int).Sub(power(128), big.NewInt(1))
	for d := int64(-40); d <= 40; d++ {
		// Three bytes 1 that are appended make 3*2^128 of the total.
		rest := new(big.Int).Sub(prime(), new(big.Int).Mul(big.NewInt(3), power(128)))
		rest.Add(rest, big.NewInt(d))
		half := new(big.Int).Rsh(rest, 1)
		for _, first := range []*big.Int{big.NewInt(0), big.NewInt(50), half, new(big.Int).Sub(rest, big.NewInt(50)), rest} {
			if first.Cmp(ones) > 0 {
				continue
			}
			second := new(big.Int).Sub(rest, first)
			if second.Cmp(ones) > 0 {
				continue
			}
			x, y := write(first), write(second)
			total := new(big.Int).Mod(big.NewInt(d), prime())
			for _, b := range [][]byte{
				slices.Concat(x[:], y[:], make([]byte, 16)),
				slices.Concat(x[:], make([]byte, 16), y[:]),
				slices.Concat(make([]byte, 16), x[:], y[:]),
			} {
				if got := checkSum(t, starting(32, 1), b); got != write(total) {
					t.Errorf("the tag of a total of 2^130 - 5 and %d = %x, want %x", d, got, write(total))
				}
			}
		}
	}
}

// I1: Sum, of messages that are made so that the remainder before the second half of the key is a small or a large one.
func TestSumRemainders(t *testing.T) {
	p, found := prime(), 0
	for n := range 400 {
		key, first := some(100 + n)[:32], some(200 + n)[:16]
		r := factor(key)
		total := read(append(slices.Clone(first), 1))
		total.Mul(total, r)
		inverse := new(big.Int).ModInverse(r, p)
		for d := int64(-8); d <= 8; d++ {
			// total + second, times r, shall be d.
			second := new(big.Int).Mul(big.NewInt(d), inverse)
			second.Sub(second, total).Sub(second, power(128)).Mod(second, p)
			if second.Cmp(power(128)) >= 0 {
				continue
			}
			found++
			x := write(second)
			want := new(big.Int).Mod(big.NewInt(d), p)
			want.Add(want, read(key[16:]))
			if got := checkSum(t, key, slices.Concat(first, x[:])); got != write(want) {
				t.Errorf("the tag for a remainder of %d = %x, want %x", d, got, write(want))
			}
		}
	}
	if found < 1000 {
		t.Errorf("only %d messages were found", found)
	}
}

// I1: each bit of the key counts, but for those that are cleared, and each bit of the message does.
func TestSumEveryBit(t *testing.T) {
	for _, long := range []int{1, 15, 16, 17, 40, 64} {
		key, b := some(32), some(long)
		first := checkSum(t, key, b)
		seen := map[[16]byte]bool{first: true}
		for bit := range 8 * len(key) {
			key[bit/8] ^= 1 << (bit % 8)
			got := checkSum(t, key, b)
			if slices.Contains(cleared, bit) {
				if got != first {
					t.Errorf("%d bytes: bit %d of the key counts", long, bit)
				}
			} else if seen[got] {
				t.Errorf("%d bytes: Sum overlooks bit %d of the key", long, bit)
			}
			seen[got] = true
			key[bit/8] ^= 1 << (bit % 8)
		}
		for bit := range 8 * len(b) {
			b[bit/8] ^= 1 << (bit % 8)
			got := checkSum(t, key, b)
			if seen[got] {
				t.Errorf("%d bytes: Sum overlooks bit %d of them", long, bit)
			}
			seen[got] = true
			b[bit/8] ^= 1 << (bit % 8)
		}
	}
}

// I1: the first half of a key whose bits are all set is the one whose cleared bits are not set.
func TestSumCleared(t *testing.T) {
	set, clear := repeated(32, 255), repeated(32, 255)
	for _, bit := range cleared {
		clear[bit/8] &^= 1 << (bit % 8)
	}
	only := make([]byte, 32)
	for k := range 16 {
		only[k] = ^clear[k]
	}
	for long := range 100 {
		if checkSum(t, set, some(long)) != checkSum(t, clear, some(long)) {
			t.Errorf("%d bytes: a bit that is cleared counts", long)
		}
		if got := checkSum(t, only, some(long)); got != [16]byte{} {
			t.Errorf("%d bytes: the tag with only bits that are cleared = %x", long, got)
		}
	}
}

// I1: the second half of the key is added, without what is carried beyond 2^128; and it is the tag of nothing.
func TestSumSecondHalf(t *testing.T) {
	for long := range 100 {
		key := some(32 + long)[:32]
		plain := expected(t, slices.Concat(key[:16], make([]byte, 16)), some(long))
		for _, second := range [][]byte{key[16:], make([]byte, 16), repeated(16, 255), starting(16, 1), starting(16, 0, 0, 0, 0, 0, 0, 0, 0, 1), repeated(16, 128)} {
			both := slices.Concat(key[:16], second)
			want := write(new(big.Int).Add(read(plain[:]), read(second)))
			if got := checkSum(t, both, some(long)); got != want {
				t.Errorf("%d bytes: the tag = %x, want %x", long, got, want)
			}
			if got := checkSum(t, both, nil); !bytes.Equal(got[:], second) {
				t.Errorf("the tag of nothing = %x, want %x", got, second)
			}
		}
		// What the tag lacks to 2^128 leaves nothing.
		lack := write(new(big.Int).Sub(power(128), read(plain[:])))
		if got := checkSum(t, slices.Concat(key[:16], lack[:]), some(long)); got != [16]byte{} {
			t.Errorf("%d bytes: the tag = %x, want zeros", long, got)
		}
	}
}

// I1: messages that differ only in zeros or a byte 1 at their ends have different tags.
func TestSumEnds(t *testing.T) {
	for _, start := range [][]byte{nil, some(1), some(15), some(16), some(20), some(32)} {
		seen := map[[16]byte]int{}
		for zeros := range 100 {
			for one := range 2 {
				b := append(slices.Clone(start), make([]byte, zeros)...)
				b = append(b, repeated(one, 1)...)
				got := checkSum(t, some(32), b)
				if long, ok := seen[got]; ok {
					t.Errorf("the tags of %d and %d bytes are the same", long, len(b))
				}
				seen[got] = len(b)
			}
		}
	}
}

// I1: Sum and Check, lengths of keys on both sides of the right one, before any error of a tag.
func TestKeyErrors(t *testing.T) {
	for size := range 100 {
		want := api.ErrForm
		if size == 32 {
			want = api.OK
		}
		for _, b := range [][]byte{nil, some(1), some(100)} {
			got, err := onetime.Sum(some(size), b)
			if err != want || err != api.OK && got != [16]byte{} {
				t.Errorf("a key of %d bytes: Sum of %d bytes = %x and error %d, want error %d", size, len(b), got, err, want)
			}
			for _, sum := range [][]byte{nil, {}, got[:], got[:15], make([]byte, 16), some(17), some(32)} {
				wantCheck := want
				if want == api.OK && len(sum) != 16 {
					wantCheck = api.ErrShort
				}
				if ok, err := onetime.Check(some(size), b, sum); err != wantCheck || err != api.OK && ok {
					t.Errorf("a key of %d bytes: Check of %d bytes and a tag of %d = %v and error %d, want error %d", size, len(b), len(sum), ok, err, wantCheck)
				}
			}
		}
	}
}

// I1: Sum and Check, a length that is right only with the room after a slice.
func TestErrorsRoom(t *testing.T) {
	tag := checkSum(t, some(32), some(50))
	for size := range 32 {
		key := some(32)[:size]
		if got, err := onetime.Sum(key, some(50)); err != api.ErrForm || got != [16]byte{} {
			t.Errorf("a key of %d bytes: Sum = %x and error %d", size, got, err)
		}
		if ok, err := onetime.Check(key, some(50), tag[:]); err != api.ErrForm || ok {
			t.Errorf("a key of %d bytes: Check = %v and error %d", size, ok, err)
		}
	}
	for size := range 16 {
		if ok, err := onetime.Check(some(32), some(50), tag[:size]); err != api.ErrShort || ok {
			t.Errorf("a tag of %d bytes: Check = %v and error %d", size, ok, err)
		}
	}
}

// I1: Check, of the tag and of the tag with any bit wrong.
func TestCheck(t *testing.T) {
	for _, long := range []int{0, 1, 15, 16, 17, 32, 100, 1000} {
		key, b := some(32 + long)[:32], some(long)
		tag := expected(t, key, b)
		if ok, err := onetime.Check(key, b, tag[:]); !ok || err != api.OK {
			t.Errorf("%d bytes: Check = %v and error %d", long, ok, err)
		}
		for bit := range 8 * len(tag) {
			wrong := tag
			wrong[bit/8] ^= 1 << (bit % 8)
			if ok, err := onetime.Check(key, b, wrong[:]); ok || err != api.OK {
				t.Errorf("%d bytes, a tag with bit %d wrong: Check = %v and error %d", long, bit, ok, err)
			}
		}
	}
}

// I1: Check, of tags that others than key and b have, and of the tag's bytes elsewhere.
func TestCheckOthers(t *testing.T) {
	key, b := some(32), some(50)
	tag, keyed, other := expected(t, key, b), expected(t, some(33)[1:], b), expected(t, key, some(51))
	turned := tag
	slices.Reverse(turned[:])
	for _, c := range []struct {
		name string
		sum  []byte
	}{
		{"another key", keyed[:]},
		{"another message", other[:]},
		{"zeros", make([]byte, 16)},
		{"ones", repeated(16, 255)},
		{"the second half of the key", key[16:]},
		{"the tag turned", turned[:]},
		{"halves exchanged", slices.Concat(tag[8:], tag[:8])},
	} {
		if ok, err := onetime.Check(key, b, c.sum); ok || err != api.OK {
			t.Errorf("%s: Check = %v and error %d", c.name, ok, err)
		}
	}
}

// I1: Check, lengths of tags on both sides of the right one, right bytes and wrong ones alike.
func TestCheckErrors(t *testing.T) {
	tag := expected(t, some(32), some(9))
	more := slices.Concat(tag[:], tag[:], make([]byte, 100))
	for long := range len(more) + 1 {
		want := api.ErrShort
		if long == 16 {
			want = api.OK
		}
		if ok, err := onetime.Check(some(32), some(9), more[:long]); err != want || ok != (want == api.OK) {
			t.Errorf("a tag of %d bytes: Check = %v and error %d, want error %d", long, ok, err, want)
		}
		if ok, err := onetime.Check(some(32), some(9), make([]byte, long)); err != want || ok {
			t.Errorf("a tag of %d zeros: Check = %v and error %d, want error %d", long, ok, err, want)
		}
	}
}

// AA3: nil and empty arguments are the same.
func TestEmptyArguments(t *testing.T) {
	tag := [16]byte(some(32)[16:])
	for _, b := range [][]byte{nil, {}, some(3)[:0]} {
		if got := checkSum(t, some(32), b); got != tag {
			t.Errorf("Sum of nothing = %x", got)
		}
		if ok, err := onetime.Check(some(32), b, tag[:]); !ok || err != api.OK {
			t.Errorf("Check of nothing = %v and error %d", ok, err)
		}
		if got, err := onetime.Sum(b, b); err != api.ErrForm || got != [16]byte{} {
			t.Errorf("Sum with an empty key = %x and error %d", got, err)
		}
		if ok, err := onetime.Check(b, b, b); err != api.ErrForm || ok {
			t.Errorf("Check with an empty key = %v and error %d", ok, err)
		}
		if ok, err := onetime.Check(some(32), b, b); err != api.ErrShort || ok {
			t.Errorf("Check of an empty tag = %v and error %d", ok, err)
		}
	}
}

// AA2: arguments stay as they are, and what lies beyond their length is neither read nor modified.
func TestArgumentsStay(t *testing.T) {
	for _, size := range []int{0, 1, 15, 16, 17, 200} {
		key, b, sum := some(100), some(300), some(40)
		tag := expected(t, key[:32], b[:size])
		copy(sum, tag[:])
		kept := slices.Clone(sum)
		checkSum(t, key[:32], b[:size])
		if ok, err := onetime.Check(key[:32], b[:size], sum[:16]); !ok || err != api.OK {
			t.Errorf("%d bytes: Check = %v and error %d", size, ok, err)
		}
		if !bytes.Equal(key, some(100)) || !bytes.Equal(b, some(300)) || !bytes.Equal(sum, kept) {
			t.Errorf("%d bytes: an argument was modified", size)
		}
		for _, rest := range [][]byte{key[32:], b[size:], sum[16:]} {
			for k := range rest {
				rest[k] ^= 255
			}
		}
		if got := checkSum(t, key[:32], b[:size]); got != tag {
			t.Errorf("%d bytes: Sum depends on what follows an argument", size)
		}
		if ok, err := onetime.Check(key[:32], b[:size], sum[:16]); !ok || err != api.OK {
			t.Errorf("%d bytes: Check depends on what follows an argument", size)
		}
	}
}

// AA2: arguments may share memory: one slice as key, message and tag.
func TestSharedArguments(t *testing.T) {
	all := some(150)
	checkSum(t, all[:32], all)
	checkSum(t, all[5:37], all[10:100])
	if ok, err := onetime.Check(all[:32], all[:32], all[:16]); ok || err != api.OK {
		t.Errorf("Check = %v and error %d", ok, err)
	}
	if ok, err := onetime.Check(all[:32], nil, all[16:32]); !ok || err != api.OK {
		t.Errorf("Check of nothing = %v and error %d", ok, err)
	}
	if !bytes.Equal(all, some(150)) {
		t.Error("an argument was modified")
	}
}

// AA1: a call sees nothing of an earlier one, or of one at the same time.
func TestCallsAreIndependent(t *testing.T) {
	key, b := some(32), some(500)
	var wait sync.WaitGroup
	for n := range 8 {
		wait.Go(func() {
			for k := range 50 {
				tag := checkSum(t, key, b[:n*k])
				checkSum(t, some(32 + n)[n:], b[n*k:])
				if ok, err := onetime.Check(key, b[:n*k], tag[:]); !ok || err != api.OK {
					t.Errorf("Check of %d bytes = %v and error %d", n*k, ok, err)
				}
			}
		})
	}
	wait.Wait()
}
