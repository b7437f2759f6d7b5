package hash_test

import (
	"bytes"
	"crypto/sha256"
	"encoding"
	"encoding/binary"
	"encoding/hex"
	"math"
	"math/big"
	"slices"
	"strings"
	"testing"

	"ticketward/api"
	"ticketward/hash"
)

// some returns n bytes that follow a fixed rule, so that every run sees the same ones.
func some(n int) []byte {
	b := make([]byte, n)
	state := uint32(n) + 1
	for k := range b {
		state = state*1664525 + 1013904223
		b[k] = byte(state >> 24)
	}
	return b
}

// words returns a state that no message is known to lead to, another one for each seed.
func words(seed int) [8]uint32 {
	var out [8]uint32
	b := some(1000 + seed)
	for k := range out {
		out[k] = binary.BigEndian.Uint32(b[4*k:])
	}
	return out
}

// sameHash compares by content: a Rest of nil and an empty one are the same.
func sameHash(a, b api.Hash) bool {
	return a.State == b.State && a.Long == b.Long && bytes.Equal(a.Rest, b.Rest)
}

// marshalled is what the library's hash makes of its state: a name, the words, the bytes of a block (Rest, then zeros) and the length.
func marshalled(h api.Hash) []byte {
	out := []byte("sha\x03")
	for _, w := range h.State {
		out = binary.BigEndian.AppendUint32(out, w)
	}
	out = append(out, h.Rest...)
	out = append(out, make([]byte, 64-len(h.Rest))...)
	return binary.BigEndian.AppendUint64(out, uint64(h.Long))
}

// expected returns what More and End are to return for a valid h and b, computed by the library.
func expected(t *testing.T, h api.Hash, b []byte) (api.Hash, api.Digest) {
	t.Helper()
	library := sha256.New()
	if err := library.(encoding.BinaryUnmarshaler).UnmarshalBinary(marshalled(h)); err != nil {
		t.Fatal(err)
	}
	library.Write(b)
	all, err := library.(encoding.BinaryMarshaler).MarshalBinary()
	if err != nil {
		t.Fatal(err)
	}
	out := api.Hash{Long: h.Long + len(b)}
	for k := range out.State {
		out.State[k] = binary.BigEndian.Uint32(all[4+4*k:])
	}
	out.Rest = all[36 : 36+out.Long%64]
	return out, api.Digest(library.Sum(nil))
}

// checkMore appends b to a valid h and returns the result, which it compares with the library's.
func checkMore(t *testing.T, h api.Hash, b []byte) api.Hash {
	t.Helper()
	want, sum := expected(t, h, b)
	got, err := hash.More(h, b)
	if err != api.OK || !sameHash(got, want) || !hash.Right(got) {
		t.Errorf("More of %d bytes after %d: %v and error %d, want %v", len(b), h.Long, got, err, want)
	}
	if end, err := hash.End(got); err != api.OK || end != sum {
		t.Errorf("End after %d bytes: %x and error %d, want %x", got.Long, end, err, sum)
	}
	return got
}

// D1: Begin, whose words are computed here from the square roots.
func TestBegin(t *testing.T) {
	h := hash.Begin()
	for k, p := range []int64{2, 3, 5, 7, 11, 13, 17, 19} {
		// The root of p * 2^64 is that of p with 32 bits of its fraction, below those of the integer.
		root := new(big.Int).Sqrt(new(big.Int).Lsh(big.NewInt(p), 64))
		if want := uint32(root.Uint64()); h.State[k] != want {
			t.Errorf("word %d = %#x, want %#x", k, h.State[k], want)
		}
	}
	if h.Long != 0 || len(h.Rest) != 0 {
		t.Errorf("Begin has the length %d and the rest %v", h.Long, h.Rest)
	}
	if !hash.Right(h) {
		t.Error("Begin is not valid")
	}
	h.State[0]++
	if again := hash.Begin(); again.State[0] != 0x6a09e667 {
		t.Error("Begin returns what an earlier result was changed to")
	}
}

type state struct {
	name string
	long int
	rest []byte
	want bool
}

func states() []state {
	return []state{
		{"empty", 0, nil, true},
		{"empty, not nil", 0, []byte{}, true},
		{"one byte", 1, some(1), true},
		{"a byte less than a block", 63, some(63), true},
		{"a block", 64, nil, true},
		{"a block and a byte", 65, some(1), true},
		{"two blocks", 128, nil, true},
		{"almost two blocks", 127, some(63), true},
		{"long", 1<<32 + 5, some(5), true},
		{"longest", api.MaxTime, nil, true},
		{"longest but one", api.MaxTime - 1, some(63), true},
		{"room after the rest", 3, some(100)[:3], true},
		{"no rest", 1, nil, false},
		{"a rest of nothing", 0, some(1), false},
		{"a block too much", 0, some(64), false},
		{"a block as rest", 64, some(64), false},
		{"a block and a byte as rest", 65, some(65), false},
		{"rest too short", 70, some(5), false},
		{"rest too long", 70, some(7), false},
		{"the rest has only room", 5, some(5)[:0], false},
		{"a rest that would be right by room", 100, some(100)[:35], false},
		{"too long", api.MaxTime + 64, nil, false},
		{"too long by one", api.MaxTime + 1, some(1), false},
		{"too long by one, no rest", api.MaxTime + 1, nil, false},
		{"longest of all", math.MaxInt, some(63), false},
		{"longest of all, no rest", math.MaxInt - 63, nil, false},
		{"negative", -1, nil, false},
		{"negative, a rest", -1, some(1), false},
		{"negative, a longer rest", -1, some(63), false},
		{"a negative block", -64, nil, false},
		{"the most negative", math.MinInt, nil, false},
	}
}

// D1: Right, on both sides of each limit, whatever the words are.
func TestRight(t *testing.T) {
	for _, c := range states() {
		for seed, w := range [][8]uint32{{}, hash.Begin().State, words(0)} {
			if got := hash.Right(api.Hash{State: w, Long: c.long, Rest: c.rest}); got != c.want {
				t.Errorf("%s, words %d: Right = %v", c.name, seed, got)
			}
		}
	}
	for long := range 200 {
		for size := range 200 {
			if got := hash.Right(api.Hash{Long: long, Rest: some(size)}); got != (size == long%64) {
				t.Errorf("Right of the length %d with %d bytes = %v", long, size, got)
			}
		}
	}
}

// D1: Sum, of messages whose hashes are published.
func TestSum(t *testing.T) {
	for _, c := range []struct{ in, want string }{
		{"", "e3b0c44298fc1c149afbf4c8996fb92427ae41e4649b934ca495991b7852b855"},
		{"abc", "ba7816bf8f01cfea414140de5dae2223b00361a396177a9cb410ff61f20015ad"},
		{"abcdbcdecdefdefgefghfghighijhijkijkljklmklmnlmnomnopnopq", "248d6a61d20638b8e5c026930c3e6039a33ce45964ff2167f6ecedd419db06c1"},
		{strings.Repeat("a", 1000000), "cdc76e5c9914fb9281a1c7e284d73e67f1809a48a497200e046d39ccc7112cd0"},
	} {
		if got := hash.Sum([]byte(c.in)); hex.EncodeToString(got[:]) != c.want {
			t.Errorf("Sum of %d bytes = %x, want %s", len(c.in), got, c.want)
		}
	}
	if hash.Sum(nil) != hash.Sum([]byte{}) {
		t.Error("Sum of nil is not that of no bytes")
	}
}

// D1: Sum, with every padding, and of equal bytes that could be taken for it.
func TestSumEveryLength(t *testing.T) {
	for n := range 400 {
		for _, b := range [][]byte{some(n), make([]byte, n), bytes.Repeat([]byte{128}, n), bytes.Repeat([]byte{255}, n)} {
			if got, want := hash.Sum(b), api.Digest(sha256.Sum256(b)); got != want {
				t.Errorf("Sum of %d bytes = %x, want %x", n, got, want)
			}
		}
	}
	for _, n := range []int{1<<13 - 1, 1 << 13, 1<<16 + 55, 1<<16 + 56, 1 << 21} {
		if got, want := hash.Sum(some(n)), api.Digest(sha256.Sum256(some(n))); got != want {
			t.Errorf("Sum of %d bytes = %x, want %x", n, got, want)
		}
	}
}

// D1: each bit of a message counts.
func TestSumEveryBit(t *testing.T) {
	b := some(130)
	seen := map[api.Digest]bool{hash.Sum(b): true}
	for bit := range 8 * len(b) {
		b[bit/8] ^= 1 << (bit % 8)
		got := hash.Sum(b)
		if seen[got] {
			t.Errorf("Sum overlooks bit %d", bit)
		}
		if got != sha256.Sum256(b) {
			t.Errorf("Sum with bit %d = %x, want %x", bit, got, sha256.Sum256(b))
		}
		seen[got] = true
		b[bit/8] ^= 1 << (bit % 8)
	}
}

// D2: one block after any state, among them words that overflow in each sum.
func TestCompress(t *testing.T) {
	first := [][8]uint32{{}, {1, 2, 3, 4, 5, 6, 7, 8}, hash.Begin().State}
	full := [8]uint32{}
	for k := range full {
		full[k] = math.MaxUint32
	}
	first = append(first, full)
	for seed := range 100 {
		first = append(first, words(seed))
	}
	for seed, w := range first {
		for _, b := range [][]byte{make([]byte, 64), bytes.Repeat([]byte{255}, 64), some(64 + seed)[seed:]} {
			checkMore(t, api.Hash{State: w}, b)
		}
	}
}

// D2: each bit of a state, and each bit of a block.
func TestCompressEveryBit(t *testing.T) {
	for bit := range 256 {
		var h api.Hash
		h.State[bit/32] = 1 << (bit % 32)
		checkMore(t, h, make([]byte, 64))
	}
	for bit := range 512 {
		b := make([]byte, 64)
		b[bit/8] = 1 << (bit % 8)
		checkMore(t, hash.Begin(), b)
	}
}

// D3: More in two parts, with every split, is More at once.
func TestMoreTwoParts(t *testing.T) {
	for n := range 260 {
		b := some(n)
		whole := checkMore(t, hash.Begin(), b)
		for k := range n + 1 {
			h := checkMore(t, hash.Begin(), b[:k])
			if got := checkMore(t, h, b[k:]); !sameHash(got, whole) {
				t.Errorf("%d bytes and %d: %v, want %v", k, n-k, got, whole)
			}
		}
		if got, err := hash.End(whole); err != api.OK || got != hash.Sum(b) {
			t.Errorf("%d bytes: End = %x and error %d, Sum = %x", n, got, err, hash.Sum(b))
		}
	}
}

// D3: More in equal parts of each size, with empty parts between them.
func TestMoreManyParts(t *testing.T) {
	b := some(1000)
	for size := 1; size <= 200; size++ {
		h := hash.Begin()
		for part := range slices.Chunk(b, size) {
			h = checkMore(t, h, part)
			h = checkMore(t, h, nil)
			h = checkMore(t, h, []byte{})
		}
		if got, err := hash.End(h); err != api.OK || got != hash.Sum(b) {
			t.Errorf("parts of %d bytes: End = %x and error %d, want %x", size, got, err, hash.Sum(b))
		}
	}
}

// D3: More and End, of any state and length, with every number of bytes in Rest.
func TestMoreAnyState(t *testing.T) {
	for n := range 64 {
		for _, long := range []int{0, 64, 1<<16 - 64, 1 << 29, 1<<32 - 64, 1 << 35, api.MaxTime - 1<<12} {
			h := api.Hash{State: words(n), Long: long + n, Rest: some(n)}
			for _, size := range []int{0, 1, 55 - n, 56 - n, 63 - n, 64 - n, 65 - n, 128 - n, 129 - n, 64, 200} {
				checkMore(t, h, some(max(size, 0)))
			}
		}
	}
}

// D3: More, up to the longest message and beyond it, and its errors in their order.
func TestMoreErrors(t *testing.T) {
	for _, c := range []struct {
		name string
		h    api.Hash
		size int
		err  api.Errno
	}{
		{"nothing after the longest", api.Hash{State: words(0), Long: api.MaxTime}, 0, api.OK},
		{"up to the longest", api.Hash{State: words(1), Long: api.MaxTime - 1, Rest: some(63)}, 1, api.OK},
		{"a block up to the longest", api.Hash{State: words(2), Long: api.MaxTime - 64}, 64, api.OK},
		{"some blocks up to the longest", api.Hash{State: words(3), Long: api.MaxTime - 200, Rest: some(56)}, 200, api.OK},
		{"one after the longest", api.Hash{State: words(0), Long: api.MaxTime}, 1, api.ErrFull},
		{"a block after the longest", api.Hash{State: words(0), Long: api.MaxTime}, 64, api.ErrFull},
		{"two after the longest but one", api.Hash{State: words(1), Long: api.MaxTime - 1, Rest: some(63)}, 2, api.ErrFull},
		{"a block and one", api.Hash{State: words(2), Long: api.MaxTime - 64}, 65, api.ErrFull},
		{"some blocks and one", api.Hash{State: words(3), Long: api.MaxTime - 200, Rest: some(56)}, 201, api.ErrFull},
		{"not valid, and too much", api.Hash{State: words(0), Long: api.MaxTime, Rest: some(1)}, 1, api.ErrForm},
		{"too long, and too much", api.Hash{State: words(0), Long: api.MaxTime + 64}, 1, api.ErrForm},
		{"the greatest length, and too much", api.Hash{State: words(0), Long: math.MaxInt, Rest: some(63)}, 1, api.ErrForm},
	} {
		if c.err == api.OK {
			checkMore(t, c.h, some(c.size))
			continue
		}
		if got, err := hash.More(c.h, some(c.size)); err != c.err || !sameHash(got, api.Hash{}) {
			t.Errorf("%s: More = %v and error %d, want error %d", c.name, got, err, c.err)
		}
	}
}

// D3: More and End have an error for each state that is not valid, and for no other one.
func TestOnlyValidStates(t *testing.T) {
	for _, c := range states() {
		h := api.Hash{State: words(0), Long: c.long, Rest: c.rest}
		if c.want {
			checkMore(t, h, nil)
			continue
		}
		for _, size := range []int{0, 1, 63, 64, 1000} {
			if got, err := hash.More(h, some(size)); err != api.ErrForm || !sameHash(got, api.Hash{}) {
				t.Errorf("%s: More of %d bytes = %v and error %d", c.name, size, got, err)
			}
		}
		if got, err := hash.End(h); err != api.ErrForm || got != (api.Digest{}) {
			t.Errorf("%s: End = %x and error %d", c.name, got, err)
		}
	}
}

// D3: a state goes on after End, and may go on in several ways.
func TestStateAfterEnd(t *testing.T) {
	h, _ := hash.More(hash.Begin(), some(70))
	before, _ := hash.End(h)
	one, _ := hash.More(h, []byte("one"))
	two, _ := hash.More(h, []byte("two"))
	for _, c := range []struct {
		name string
		h    api.Hash
		want []byte
	}{
		{"the first way", one, append(some(70), "one"...)},
		{"the second way", two, append(some(70), "two"...)},
		{"the state before", h, some(70)},
	} {
		if got, err := hash.End(c.h); err != api.OK || got != sha256.Sum256(c.want) {
			t.Errorf("%s: End = %x and error %d", c.name, got, err)
		}
	}
	if before != sha256.Sum256(some(70)) {
		t.Errorf("End = %x", before)
	}
}

// AA2: arguments stay as they are, and what lies beyond their length is neither read nor modified.
func TestArgumentsStay(t *testing.T) {
	for n := range 64 {
		for _, size := range []int{0, 1, 63 - n, 64 - n, 65 - n, 130} {
			rest, b := some(200), some(300)
			h := api.Hash{State: words(n), Long: 64 + n, Rest: rest[:n]}
			alone := api.Hash{State: words(n), Long: 64 + n, Rest: slices.Clip(some(200)[:n])}
			want, sum := expected(t, alone, b[:max(size, 0)])
			got, _ := hash.More(h, b[:max(size, 0)])
			end, _ := hash.End(h)
			once := hash.Sum(b[:max(size, 0)])
			if !bytes.Equal(rest, some(200)) || !bytes.Equal(b, some(300)) {
				t.Errorf("%d bytes and %d: an argument was modified", n, size)
			}
			if !sameHash(got, want) || once != sha256.Sum256(b[:max(size, 0)]) {
				t.Errorf("%d bytes and %d: a result depends on what follows an argument", n, size)
			}
			if _, nothing := expected(t, alone, nil); end != nothing {
				t.Errorf("%d bytes: End depends on what follows", n)
			}
			for k := range rest {
				rest[k] ^= 255
			}
			for k := range b {
				b[k] ^= 255
			}
			if later, _ := hash.End(got); later != sum {
				t.Errorf("%d bytes and %d: a result shares memory with an argument", n, size)
			}
		}
	}
}

// AA2: two results share no memory, not even where appending to one of them would write.
func TestResultsAreNew(t *testing.T) {
	h, _ := hash.More(hash.Begin(), some(10))
	for _, part := range [][]byte{nil, some(5), some(64)} {
		one, _ := hash.More(h, part)
		two, _ := hash.More(h, part)
		want := bytes.Clone(two.Rest)
		for k := range one.Rest {
			one.Rest[k] ^= 255
		}
		one.Rest = append(one.Rest, 1, 2, 3)
		if !bytes.Equal(two.Rest, want) || !bytes.Equal(h.Rest, some(10)) {
			t.Errorf("%d bytes: a result shares memory with another one", len(part))
		}
	}
}
