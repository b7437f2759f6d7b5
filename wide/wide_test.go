package wide_test

import (
	"bytes"
	"crypto/sha512"
	"encoding/hex"
	"math"
	"slices"
	"strings"
	"testing"

	"ticketward/api"
	"ticketward/wide"
)

// some returns n bytes that follow a fixed rule, so that every run sees the same ones.
func some(n int) []byte {
	b := make([]byte, n)
	state := uint32(n) + 1
	for k := range b {
		state = state*1664525 + 1013904223
		b[k] = byte(state >> 24)
	}
	return b
}

// checkSum compares the hash of b with the library's and returns it.
func checkSum(t *testing.T, b []byte) api.Wide {
	t.Helper()
	got := wide.Sum(b)
	if want := api.Wide(sha512.Sum512(b)); got != want {
		t.Errorf("Sum of %d bytes = %x, want %x", len(b), got, want)
	}
	return got
}

// checkRows compares the hash of rows with the library's, which is given them one after the other.
func checkRows(t *testing.T, rows ...[]byte) {
	t.Helper()
	library := sha512.New()
	for _, row := range rows {
		library.Write(row)
	}
	if got, want := wide.Rows(rows), api.Wide(library.Sum(nil)); got != want {
		sizes := make([]int, len(rows))
		for k, row := range rows {
			sizes[k] = len(row)
		}
		t.Errorf("Rows of %v bytes = %x, want %x", sizes, got, want)
	}
}

// E1: Sum, of messages whose hashes are published.
func TestSum(t *testing.T) {
	for _, c := range []struct{ in, want string }{
		{"", "cf83e1357eefb8bdf1542850d66d8007d620e4050b5715dc83f4a921d36ce9ce47d0d13c5d85f2b0ff8318d2877eec2f63b931bd47417a81a538327af927da3e"},
		{"abc", "ddaf35a193617abacc417349ae20413112e6fa4e89a97ea20a9eeee64b55d39a2192992a274fc1a836ba3c23a3feebbd454d4423643ce80e2a9ac94fa54ca49f"},
		{
			"abcdefghbcdefghicdefghijdefghijkefghijklfghijklmghijklmnhijklmnoijklmnopjklmnopqklmnopqrlmnopqrsmnopqrstnopqrstu",
			"8e959b75dae313da8cf4f72814fc143f8f7779c6eb9f7fa17299aeadb6889018501d289e4900f7e4331b99dec4b5433ac7d329eeb6dd26545e96e55b874be909",
		},
		{strings.Repeat("a", 1000000), "e718483d0ce769644e2e42c7bc15b4638e1f98b13b2044285632a803afa973ebde0ff244877ea60a4cb0432ce577c31beb009c5c2c49aa2e4eadb217ad8cc09b"},
	} {
		if got := wide.Sum([]byte(c.in)); hex.EncodeToString(got[:]) != c.want {
			t.Errorf("Sum of %d bytes = %x, want %s", len(c.in), got, c.want)
		}
	}
	if wide.Sum(nil) != wide.Sum([]byte{}) {
		t.Error("Sum of nil is not that of no bytes")
	}
}

// E1: Sum, with every padding, and of equal bytes that could be taken for it.
func TestSumEveryLength(t *testing.T) {
	for n := range 700 {
		for _, b := range [][]byte{some(n), make([]byte, n), bytes.Repeat([]byte{128}, n), bytes.Repeat([]byte{255}, n)} {
			checkSum(t, b)
		}
	}
	for _, n := range []int{1<<13 - 1, 1 << 13, 1<<16 + 111, 1<<16 + 112, 1 << 21} {
		checkSum(t, some(n))
	}
}

// E1: each bit of a message counts.
func TestSumEveryBit(t *testing.T) {
	b := some(260)
	seen := map[api.Wide]bool{checkSum(t, b): true}
	for bit := range 8 * len(b) {
		b[bit/8] ^= 1 << (bit % 8)
		got := checkSum(t, b)
		if seen[got] {
			t.Errorf("Sum overlooks bit %d", bit)
		}
		seen[got] = true
		b[bit/8] ^= 1 << (bit % 8)
	}
}

// E1: each bit of a block alone, and each one missing, after no block and after another one.
func TestSumOneBit(t *testing.T) {
	for bit := range 8 * 128 {
		for _, before := range []int{0, 128} {
			zeros := make([]byte, before+128)
			zeros[before+bit/8] = 1 << (bit % 8)
			checkSum(t, zeros)
			ones := bytes.Repeat([]byte{math.MaxUint8}, before+128)
			ones[before+bit/8] ^= 1 << (bit % 8)
			checkSum(t, ones)
		}
	}
}

// E1: Sum, of many blocks, so that the sums overflow in many ways.
func TestSumManyMessages(t *testing.T) {
	for n := range 5000 {
		checkSum(t, some(1000 + n)[n:])
	}
}

// E1: Rows without bytes, however that is written.
func TestRowsEmpty(t *testing.T) {
	for _, rows := range [][][]byte{nil, {}, {nil}, {{}}, {nil, {}, nil}, make([][]byte, 1000)} {
		if got := wide.Rows(rows); got != wide.Sum(nil) {
			t.Errorf("Rows of %d empty rows = %x", len(rows), got)
		}
		checkRows(t, rows...)
	}
}

// E1: Rows, in two parts with every split, with and without empty rows beside them.
func TestRowsTwoParts(t *testing.T) {
	for n := range 400 {
		b := some(n)
		want := wide.Sum(b)
		for k := range n + 1 {
			if got := wide.Rows([][]byte{b[:k], b[k:]}); got != want {
				t.Errorf("Rows of %d bytes and %d = %x, want %x", k, n-k, got, want)
			}
		}
		checkRows(t, b)
		checkRows(t, nil, b, []byte{})
		checkRows(t, nil, b[:n/2], nil, []byte{}, b[n/2:], nil)
	}
}

// E1: Rows, in three parts around the ends of blocks and of their room for the number of bits.
func TestRowsThreeParts(t *testing.T) {
	sizes := []int{0, 1, 2, 15, 16, 17, 111, 112, 113, 127, 128, 129, 239, 240, 255, 256, 257, 384}
	for _, x := range sizes {
		for _, y := range sizes {
			for _, z := range sizes {
				checkRows(t, some(x), some(y), some(z))
			}
		}
	}
}

// E1: Rows, in equal parts of each size, with empty rows between them.
func TestRowsManyParts(t *testing.T) {
	b := some(1500)
	want := wide.Sum(b)
	for size := 1; size <= 400; size++ {
		var rows [][]byte
		for part := range slices.Chunk(b, size) {
			rows = append(rows, part, nil, []byte{})
		}
		if got := wide.Rows(rows); got != want {
			t.Errorf("Rows in parts of %d bytes = %x, want %x", size, got, want)
		}
	}
}

// E1: the order of rows counts, and a row may come again.
func TestRowsOrder(t *testing.T) {
	one, two := some(100), some(70)
	if wide.Rows([][]byte{one, two}) == wide.Rows([][]byte{two, one}) {
		t.Error("Rows overlooks the order")
	}
	checkRows(t, two, one)
	checkRows(t, one, one, two, one)
	checkRows(t, one[10:90], one[:50], one)
}

// E1: a number of bits above 2^32, of rows that all share the memory of one.
func TestRowsLong(t *testing.T) {
	if testing.Short() {
		t.Skip("takes some seconds")
	}
	t.Parallel()
	rows := slices.Repeat([][]byte{some(1 << 20)}, 513)
	checkRows(t, append(rows, some(5))...)
}

// AA2: arguments stay as they are, and what lies beyond their length is neither read nor modified.
func TestArgumentsStay(t *testing.T) {
	for n := range 300 {
		b := some(600)
		if got := wide.Sum(b[:n]); got != sha512.Sum512(some(600)[:n]) {
			t.Errorf("%d bytes: Sum depends on what follows", n)
		}
		rows := [][]byte{b[:n/2], b[n/2 : n], b[n:]}
		if got := wide.Rows(rows[:2]); got != sha512.Sum512(some(600)[:n]) {
			t.Errorf("%d bytes: Rows depends on what follows", n)
		}
		if !bytes.Equal(b, some(600)) {
			t.Errorf("%d bytes: the bytes were modified", n)
		}
		for k, size := range []int{n / 2, n - n/2, 600 - n} {
			if len(rows[k]) != size {
				t.Errorf("%d bytes: row %d has %d bytes", n, k, len(rows[k]))
			}
		}
	}
}

// AA1, AA2: a call does not depend on earlier ones, nor on what their results and arguments were changed to.
func TestCallsAreIndependent(t *testing.T) {
	b := some(200)
	before := wide.Sum(b)
	kept := before
	for k := range before {
		before[k] ^= 255
	}
	for n := range 300 {
		wide.Sum(some(n))
		wide.Rows([][]byte{some(n), some(300 - n)})
		if got := wide.Sum(b); got != kept {
			t.Errorf("Sum after %d bytes = %x, want %x", n, got, kept)
		}
	}
	for k := range b {
		b[k] ^= 255
	}
	if kept != sha512.Sum512(some(200)) {
		t.Error("a result was modified with its argument")
	}
	checkSum(t, b)
}
