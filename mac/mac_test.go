package mac_test

import (
	"bytes"
	"crypto/hmac"
	"crypto/sha256"
	"encoding/hex"
	"slices"
	"strings"
	"sync"
	"testing"

	"ticketward/api"
	"ticketward/hash"
	"ticketward/mac"
)

// some returns n bytes that follow a fixed rule, so that every run sees the same ones.
func some(n int) []byte {
	b := make([]byte, n)
	state := uint32(n) + 1
	for k := range b {
		state = state*1664525 + 1013904223
		b[k] = byte(state >> 24)
	}
	return b
}

// expected is the library's code.
func expected(key, b []byte) api.Digest {
	library := hmac.New(sha256.New, key)
	library.Write(b)
	return api.Digest(library.Sum(nil))
}

// checkSum compares the code with the library's and returns it.
func checkSum(t *testing.T, key, b []byte) api.Digest {
	t.Helper()
	got := mac.Sum(key, b)
	if want := expected(key, b); got != want {
		t.Errorf("Sum with a key of %d bytes, of %d bytes = %x, want %x", len(key), len(b), got, want)
	}
	return got
}

// repeated returns n bytes of one value.
func repeated(n int, value byte) []byte {
	return bytes.Repeat([]byte{value}, n)
}

// F1: Sum, the published codes of RFC 4231 (the fifth is published as a prefix).
func TestSum(t *testing.T) {
	counted, _ := hex.DecodeString("0102030405060708090a0b0c0d0e0f10111213141516171819")
	for _, c := range []struct {
		key  []byte
		b    string
		want string
	}{
		{repeated(20, 11), "Hi There", "b0344c61d8db38535ca8afceaf0bf12b881dc200c9833da726e9376c2e32cff7"},
		{[]byte("Jefe"), "what do ya want for nothing?", "5bdcc146bf60754e6a042426089575c75a003f089d2739839dec58b964ec3843"},
		{repeated(20, 0xaa), string(repeated(50, 0xdd)), "773ea91e36800e46854db8ebd09181a72959098b3ef8c122d9635514ced565fe"},
		{counted, string(repeated(50, 0xcd)), "82558a389a443c0ea4cc819899f2083a85f0faa3e578f8077a2e3ff46729665b"},
		{repeated(20, 0x0c), "Test With Truncation", "a3b6167473100ee06e0c796c2955552b"},
		{repeated(131, 0xaa), "Test Using Larger Than Block-Size Key - Hash Key First", "60e431591ee0b67f0d8a26aacbf5b77f8e0bc6213728c5140546040f0ee37f54"},
		{repeated(131, 0xaa), "This is a test using a larger than block-size key and a larger than block-size data. The key needs to be hashed before being used by the HMAC algorithm.", "9b09ffa71b942fcb27635fbcd5b0e944bfdc63644f0713938a7f51535c3a35e2"},
		{nil, "", "b613679a0814d9ec772f95d778c35fc5ff1697c493715653c6c712144292c5ad"},
	} {
		got := mac.Sum(c.key, []byte(c.b))
		if !strings.HasPrefix(hex.EncodeToString(got[:]), c.want) {
			t.Errorf("Sum of %q = %x, want %s", c.b, got, c.want)
		}
	}
}

// F1: Sum, with keys on both sides of a block and messages on both sides of every padding.
func TestSumEveryLength(t *testing.T) {
	for size := range 200 {
		for _, n := range []int{0, 1, 20, 55, 56, 63, 64, 65, 119, 120, 128, 500} {
			checkSum(t, some(size), some(n))
		}
	}
	for n := range 300 {
		for _, size := range []int{0, 1, 32, 63, 64, 65, 100} {
			checkSum(t, some(size), some(n))
		}
	}
	for _, value := range []byte{0, 54, 92, 106, 128, 255} {
		for size := range 140 {
			checkSum(t, repeated(size, value), repeated(size, value))
		}
	}
	checkSum(t, some(1<<16), some(1<<20))
	checkSum(t, some(1<<20), some(1<<16))
}

// F1: each bit of the key and of the message counts.
func TestSumEveryBit(t *testing.T) {
	for _, size := range []int{32, 64, 65} {
		key, b := some(size), some(70)
		seen := map[api.Digest]bool{checkSum(t, key, b): true}
		for _, part := range [][]byte{key, b} {
			for bit := range 8 * len(part) {
				part[bit/8] ^= 1 << (bit % 8)
				got := checkSum(t, key, b)
				if seen[got] {
					t.Errorf("a key of %d bytes: Sum overlooks bit %d of %d bytes", size, bit, len(part))
				}
				seen[got] = true
				part[bit/8] ^= 1 << (bit % 8)
			}
		}
	}
}

// F1: which keys are the same: zero bytes count only beyond a block, and a longer key is its hash.
func TestSumKeys(t *testing.T) {
	b := some(40)
	for size := range 64 {
		key := some(size)
		if mac.Sum(key, b) != mac.Sum(append(key, make([]byte, 64-size)...), b) {
			t.Errorf("a key of %d bytes is not padded with zeros", size)
		}
		if mac.Sum(key, b) == mac.Sum(append(key, make([]byte, 65-size)...), b) {
			t.Errorf("a key of %d bytes is the same with zeros beyond a block", size)
		}
	}
	for size := 60; size < 200; size++ {
		sum := hash.Sum(some(size))
		if same := mac.Sum(some(size), b) == mac.Sum(sum[:], b); same != (size > 64) {
			t.Errorf("a key of %d bytes and its hash: same is %v", size, same)
		}
	}
}

// F1: Check, of each prefix, with and without a wrong bit.
func TestCheck(t *testing.T) {
	for _, size := range []int{0, 1, 20, 64, 65, 100} {
		key, b := some(size), some(size+3)
		sum := expected(key, b)
		for n := 16; n <= 32; n++ {
			if got, err := mac.Check(key, b, sum[:n]); !got || err != api.OK {
				t.Errorf("a key of %d bytes, a prefix of %d bytes: %v and error %d", size, n, got, err)
			}
			for bit := range 8 * n {
				wrong := slices.Clone(sum[:n])
				wrong[bit/8] ^= 1 << (bit % 8)
				if got, err := mac.Check(key, b, wrong); got || err != api.OK {
					t.Errorf("a key of %d bytes, a prefix of %d bytes with bit %d wrong: %v and error %d", size, n, bit, got, err)
				}
			}
		}
	}
}

// F1: Check, of codes that others than key and b have, and of parts of the code that are not a prefix.
func TestCheckOthers(t *testing.T) {
	key, b := some(20), some(50)
	sum, keyed, other := expected(key, b), expected(some(21), b), expected(key, some(51))
	plain := sha256.Sum256(b)
	for _, c := range []struct {
		name string
		sum  []byte
	}{
		{"another key", keyed[:]},
		{"another key, a prefix", keyed[:16]},
		{"another message", other[:]},
		{"another message, a prefix", other[:20]},
		{"no key", plain[:]},
		{"zeros", make([]byte, 32)},
		{"a suffix", sum[16:]},
		{"a middle", sum[1:31]},
		{"halves exchanged", slices.Concat(sum[16:], sum[:16])},
		{"a prefix and zeros", slices.Concat(sum[:16], make([]byte, 16))},
		{"a prefix twice", slices.Concat(sum[:16], sum[:16])},
	} {
		if got, err := mac.Check(key, b, c.sum); got || err != api.OK {
			t.Errorf("%s: %v and error %d", c.name, got, err)
		}
	}
	if got, err := mac.Check(b, key, sum[:]); got || err != api.OK {
		t.Errorf("key and message exchanged: %v and error %d", got, err)
	}
}

// F1: Check, its errors on both sides of the limits, right codes and wrong ones alike.
func TestCheckErrors(t *testing.T) {
	for _, key := range [][]byte{nil, some(20), some(100)} {
		sum := expected(key, some(9))
		long := slices.Concat(sum[:], some(100))
		for n := range len(long) + 1 {
			want := api.OK
			switch {
			case n < 16:
				want = api.ErrShort
			case n > 32:
				want = api.ErrForm
			}
			if got, err := mac.Check(key, some(9), long[:n]); err != want || got != (want == api.OK) {
				t.Errorf("%d bytes: %v and error %d, want error %d", n, got, err, want)
			}
			if got, err := mac.Check(key, some(9), make([]byte, n)); err != want || got {
				t.Errorf("%d zeros: %v and error %d, want error %d", n, got, err, want)
			}
		}
		if got, err := mac.Check(key, some(9), nil); err != api.ErrShort || got {
			t.Errorf("nothing: %v and error %d", got, err)
		}
	}
}

// F1: Chain, with any number of parts, whose codes are computed here one by one.
func TestChain(t *testing.T) {
	for _, size := range []int{0, 1, 32, 64, 65, 200} {
		for count := range 30 {
			parts := make([][]byte, count)
			for k := range parts {
				parts[k] = some(k * k)
			}
			got := mac.Chain(some(size), parts)
			if len(got) != count {
				t.Fatalf("%d codes for %d parts", len(got), count)
			}
			key := some(size)
			for k, part := range parts {
				want := expected(key, part)
				if got[k] != want {
					t.Errorf("a key of %d bytes, code %d of %d = %x, want %x", size, k, count, got[k], want)
				}
				key = want[:]
			}
		}
	}
}

// F1: Chain, of empty and equal parts, and beyond the limits that other layers have.
func TestChainParts(t *testing.T) {
	for _, parts := range [][][]byte{nil, {}} {
		if got := mac.Chain(some(5), parts); len(got) != 0 {
			t.Errorf("no parts: %x", got)
		}
	}
	first := expected(some(5), nil)
	second := expected(first[:], nil)
	third := expected(second[:], nil)
	if got := mac.Chain(some(5), [][]byte{nil, {}, nil}); !slices.Equal(got, []api.Digest{first, second, third}) {
		t.Errorf("empty parts: %x", got)
	}
	seen := map[api.Digest]bool{}
	for _, sum := range mac.Chain(nil, make([][]byte, 5*api.MaxOps)) {
		seen[sum] = true
	}
	if len(seen) != 5*api.MaxOps {
		t.Errorf("%d different codes of %d", len(seen), 5*api.MaxOps)
	}
}

// AA3: nil and empty arguments are the same.
func TestEmptyArguments(t *testing.T) {
	sum := checkSum(t, nil, nil)
	for _, key := range [][]byte{nil, {}} {
		for _, b := range [][]byte{nil, {}} {
			if checkSum(t, key, b) != sum {
				t.Error("Sum tells nil from empty")
			}
			if got, err := mac.Check(key, b, sum[:]); !got || err != api.OK {
				t.Errorf("Check: %v and error %d", got, err)
			}
			if got := mac.Chain(key, [][]byte{b}); !slices.Equal(got, []api.Digest{sum}) {
				t.Errorf("Chain = %x", got)
			}
		}
	}
	if got, err := mac.Check(nil, nil, []byte{}); got || err != api.ErrShort {
		t.Errorf("Check of an empty code: %v and error %d", got, err)
	}
}

// AA2: arguments stay as they are, and what lies beyond their length is neither read nor modified.
func TestArgumentsStay(t *testing.T) {
	for _, size := range []int{0, 20, 32, 63, 64, 65, 130} {
		key, b := some(200), some(300)
		sum := expected(some(200)[:size], some(300)[:size])
		code := append(some(32), some(32)...)
		copy(code, sum[:])
		before := slices.Clone(code)
		parts := [][]byte{b[:size], key[:size], b[size : 2*size], some(7)}
		room := parts[:3]
		got := mac.Sum(key[:size], b[:size])
		right, err := mac.Check(key[:size], b[:size], code[:20])
		chain := mac.Chain(key[:size], room)
		if !bytes.Equal(key, some(200)) || !bytes.Equal(b, some(300)) || !bytes.Equal(code, before) {
			t.Errorf("%d bytes: an argument was modified", size)
		}
		if !bytes.Equal(parts[3], some(7)) || len(parts[0]) != size || len(parts[2]) != size {
			t.Errorf("%d bytes: the parts were modified", size)
		}
		if got != sum || !right || err != api.OK {
			t.Errorf("%d bytes: a result depends on what follows an argument", size)
		}
		if len(chain) != 3 || chain[0] != sum {
			t.Errorf("%d bytes: Chain = %x", size, chain)
		}
		kept := slices.Clone(chain)
		for _, argument := range [][]byte{key, b, code} {
			for k := range argument {
				argument[k] ^= 255
			}
		}
		if !slices.Equal(chain, kept) {
			t.Errorf("%d bytes: a result shares memory with an argument", size)
		}
	}
}

// AA2: arguments may share memory: one slice as key, message, code and parts.
func TestSharedArguments(t *testing.T) {
	both := some(80)
	checkSum(t, both, both)
	checkSum(t, both[:64], both[32:])
	if got, err := mac.Check(both, both, both[:32]); got || err != api.OK {
		t.Errorf("Check: %v and error %d", got, err)
	}
	first := expected(both, both)
	want := []api.Digest{first, expected(first[:], both)}
	if got := mac.Chain(both, [][]byte{both, both}); !slices.Equal(got, want) {
		t.Errorf("Chain = %x, want %x", got, want)
	}
	if !bytes.Equal(both, some(80)) {
		t.Error("an argument was modified")
	}
}

// AA1: a call leaves nothing behind that a later call, or one at the same time, could see.
func TestCallsAreIndependent(t *testing.T) {
	chain := mac.Chain(some(3), [][]byte{some(1), some(2)})
	want := slices.Clone(chain)
	again := mac.Chain(some(3), [][]byte{some(1), some(2)})
	for k := range chain {
		chain[k] = api.Digest{}
	}
	if !slices.Equal(again, want) {
		t.Error("two results of Chain share memory")
	}
	var wait sync.WaitGroup
	for n := range 8 {
		wait.Go(func() {
			for k := range 50 {
				checkSum(t, some(n*k), some(n+k))
			}
		})
	}
	wait.Wait()
}
