package vint_test

import (
	"bytes"
	"encoding/binary"
	"math"
	"slices"
	"testing"

	"ticketward/api"
	"ticketward/vint"
)

// last is the greatest integer that has an encoding.
const last = 1<<62 - 1

// lengths are those of the encodings, the shortest first; the place of a length is what the top bits of its encodings hold.
var lengths = []int{1, 2, 4, 8}

// beyond are integers without an encoding; some of them would have one in fewer bits.
var beyond = []int{-1, -2, -63, -64, -1 << 30, -1 << 32, -1 << 62, math.MinInt, math.MinInt + 1, math.MinInt + 5, last + 1, last + 2, 1<<62 + 5, math.MaxInt - 1, math.MaxInt}

// noLengths are no lengths of encodings; some of them would be in fewer bits.
var noLengths = []int{0, -1, -2, -4, -8, 3, 5, 6, 7, 9, 16, 32, 62, 63, 64, 256, 257, 1<<32 + 1, math.MinInt, math.MinInt + 1, math.MaxInt}

// first returns the least integer whose shortest encoding has lengths[place] bytes.
func first(place int) int {
	return []int{0, 64, 16384, 1073741824}[place]
}

// greatest returns the greatest integer that lengths[place] bytes encode.
func greatest(place int) int {
	return []int{63, 16383, 1073741823, 4611686018427387903}[place]
}

// sample returns the integers next to all powers of two, and some between them that follow a fixed rule.
func sample() []int {
	out := []int{0, 37, 15293, 494878333, 151288809941952652, last}
	state := uint64(1)
	for bit := range 62 {
		state = state*6364136223846793005 + 1442695040888963407
		out = append(out, 1<<bit-1, 1<<bit, 1<<bit|int(state>>(64-bit)))
	}
	return out
}

// encoding returns n in lengths[place] bytes, made by the library; n must have room there.
func encoding(n, place int) []byte {
	k := lengths[place]
	b := binary.BigEndian.AppendUint64(nil, uint64(n))[8-k:]
	b[0] |= byte(place << 6)
	return b
}

// least returns the place in lengths of the shortest encoding of n.
func least(n int) int {
	place := 0
	for n > greatest(place) {
		place++
	}
	return place
}

// C1: Long, on both sides of each boundary.
func TestLong(t *testing.T) {
	for place, k := range lengths {
		for _, n := range []int{first(place), first(place) + 1, greatest(place) - 1, greatest(place)} {
			if got, err := vint.Long(n); err != api.OK || got != k {
				t.Errorf("Long(%d) = %d and error %d, want %d", n, got, err, k)
			}
		}
	}
	for _, n := range sample() {
		if got, err := vint.Long(n); err != api.OK || got != lengths[least(n)] {
			t.Errorf("Long(%d) = %d and error %d, want %d", n, got, err, lengths[least(n)])
		}
	}
	for _, n := range beyond {
		if got, err := vint.Long(n); err != api.ErrRange || got != 0 {
			t.Errorf("Long(%d) = %d and error %d", n, got, err)
		}
	}
}

type coding struct {
	n    int
	want []byte
}

// examples are shortest encodings, written out.
func examples() []coding {
	return []coding{
		{0, []byte{0}},
		{1, []byte{1}},
		{37, []byte{0x25}},
		{63, []byte{0x3f}},
		{64, []byte{0x40, 0x40}},
		{255, []byte{0x40, 0xff}},
		{256, []byte{0x41, 0}},
		{15293, []byte{0x7b, 0xbd}},
		{16383, []byte{0x7f, 0xff}},
		{16384, []byte{0x80, 0, 0x40, 0}},
		{494878333, []byte{0x9d, 0x7f, 0x3e, 0x7d}},
		{1073741823, []byte{0xbf, 0xff, 0xff, 0xff}},
		{1073741824, []byte{0xc0, 0, 0, 0, 0x40, 0, 0, 0}},
		{151288809941952652, []byte{0xc2, 0x19, 0x7c, 0x5e, 0xff, 0x14, 0xe8, 0x8c}},
		{last, []byte{0xff, 0xff, 0xff, 0xff, 0xff, 0xff, 0xff, 0xff}},
	}
}

// C1: Put, of ordinary inputs and at each boundary, and its error.
func TestPut(t *testing.T) {
	for _, c := range examples() {
		if got, err := vint.Put(c.n); err != api.OK || !bytes.Equal(got, c.want) {
			t.Errorf("Put(%d) = %x and error %d, want %x", c.n, got, err, c.want)
		}
	}
	for _, n := range sample() {
		if got, err := vint.Put(n); err != api.OK || !bytes.Equal(got, encoding(n, least(n))) {
			t.Errorf("Put(%d) = %x and error %d, want %x", n, got, err, encoding(n, least(n)))
		}
	}
	for _, n := range beyond {
		if got, err := vint.Put(n); err != api.ErrRange || len(got) != 0 {
			t.Errorf("Put(%d) = %x and error %d", n, got, err)
		}
	}
}

// C1: As, each integer in all lengths that have room for it, and in those that have none.
func TestAs(t *testing.T) {
	for _, c := range []struct {
		n, k int
		want []byte
	}{
		{5, 1, []byte{5}},
		{5, 2, []byte{0x40, 5}},
		{5, 4, []byte{0x80, 0, 0, 5}},
		{5, 8, []byte{0xc0, 0, 0, 0, 0, 0, 0, 5}},
		{0, 8, []byte{0xc0, 0, 0, 0, 0, 0, 0, 0}},
		{15293, 2, []byte{0x7b, 0xbd}},
		{15293, 4, []byte{0x80, 0, 0x3b, 0xbd}},
		{494878333, 8, []byte{0xc0, 0, 0, 0, 0x1d, 0x7f, 0x3e, 0x7d}},
	} {
		if got, err := vint.As(c.n, c.k); err != api.OK || !bytes.Equal(got, c.want) {
			t.Errorf("As(%d, %d) = %x and error %d, want %x", c.n, c.k, got, err, c.want)
		}
	}
	for _, n := range sample() {
		for place, k := range lengths {
			got, err := vint.As(n, k)
			if n <= greatest(place) {
				if err != api.OK || !bytes.Equal(got, encoding(n, place)) {
					t.Errorf("As(%d, %d) = %x and error %d, want %x", n, k, got, err, encoding(n, place))
				}
			} else if err != api.ErrFull || len(got) != 0 {
				t.Errorf("As(%d, %d) = %x and error %d, want no room", n, k, got, err)
			}
		}
	}
}

// C1: As, each error before the later ones.
func TestAsErrors(t *testing.T) {
	for _, n := range beyond {
		for _, k := range append(slices.Clone(lengths), noLengths...) {
			if got, err := vint.As(n, k); err != api.ErrRange || len(got) != 0 {
				t.Errorf("As(%d, %d) = %x and error %d, want wrong range", n, k, got, err)
			}
		}
	}
	for _, n := range sample() {
		for _, k := range noLengths {
			if got, err := vint.As(n, k); err != api.ErrKind || len(got) != 0 {
				t.Errorf("As(%d, %d) = %x and error %d, want wrong kind", n, k, got, err)
			}
		}
	}
	for place, k := range lengths[:3] {
		for _, n := range []int{greatest(place) + 1, last} {
			if got, err := vint.As(n, k); err != api.ErrFull || len(got) != 0 {
				t.Errorf("As(%d, %d) = %x and error %d, want no room", n, k, got, err)
			}
		}
	}
}

type taking struct {
	name   string
	in     []byte
	n, k   int
	err    api.Errno
	strict api.Errno
}

// C1: Take and Strict, of ordinary inputs, and each error in its order.
func TestTake(t *testing.T) {
	for _, c := range []taking{
		{"the example", []byte{0x7b, 0xbd}, 15293, 2, api.OK, api.OK},
		{"something after it", []byte{0x7b, 0xbd, 7}, 15293, 2, api.OK, api.OK},
		{"zero", []byte{0}, 0, 1, api.OK, api.OK},
		{"one byte, more after it", []byte{0x3f, 0xff, 0xff}, 63, 1, api.OK, api.OK},
		{"nil", nil, 0, 0, api.ErrShort, api.ErrShort},
		{"empty", []byte{}, 0, 0, api.ErrShort, api.ErrShort},
		{"one of two bytes", []byte{0x7b}, 0, 0, api.ErrShort, api.ErrShort},
		{"one of two bytes, not the shortest", []byte{0x40}, 0, 0, api.ErrShort, api.ErrShort},
		{"one of four bytes", []byte{0x80}, 0, 0, api.ErrShort, api.ErrShort},
		{"three of four bytes", []byte{0x9d, 0x7f, 0x3e}, 0, 0, api.ErrShort, api.ErrShort},
		{"one of eight bytes", []byte{0xff}, 0, 0, api.ErrShort, api.ErrShort},
		{"seven of eight bytes", []byte{0xc2, 0x19, 0x7c, 0x5e, 0xff, 0x14, 0xe8}, 0, 0, api.ErrShort, api.ErrShort},
		{"seven of eight bytes, not the shortest", []byte{0xc0, 0, 0, 0, 0, 0, 0}, 0, 0, api.ErrShort, api.ErrShort},
		{"zero in two bytes", []byte{0x40, 0}, 0, 2, api.OK, api.ErrForm},
		{"zero in four bytes", []byte{0x80, 0, 0, 0}, 0, 4, api.OK, api.ErrForm},
		{"zero in eight bytes", []byte{0xc0, 0, 0, 0, 0, 0, 0, 0}, 0, 8, api.OK, api.ErrForm},
		{"37 in two bytes", []byte{0x40, 0x25}, 37, 2, api.OK, api.ErrForm},
		{"37 in two bytes, something after it", []byte{0x40, 0x25, 0x25}, 37, 2, api.OK, api.ErrForm},
		{"63 in two bytes", []byte{0x40, 0x3f}, 63, 2, api.OK, api.ErrForm},
		{"64 in two bytes", []byte{0x40, 0x40}, 64, 2, api.OK, api.OK},
		{"16383 in four bytes", []byte{0x80, 0, 0x3f, 0xff}, 16383, 4, api.OK, api.ErrForm},
		{"16384 in four bytes", []byte{0x80, 0, 0x40, 0}, 16384, 4, api.OK, api.OK},
		{"2^30 - 1 in eight bytes", []byte{0xc0, 0, 0, 0, 0x3f, 0xff, 0xff, 0xff}, 1<<30 - 1, 8, api.OK, api.ErrForm},
		{"2^30 in eight bytes", []byte{0xc0, 0, 0, 0, 0x40, 0, 0, 0}, 1 << 30, 8, api.OK, api.OK},
		{"the greatest", bytes.Repeat([]byte{0xff}, 8), last, 8, api.OK, api.OK},
		{"the greatest, something after it", bytes.Repeat([]byte{0xff}, 20), last, 8, api.OK, api.OK},
	} {
		if n, k, err := vint.Take(c.in); n != c.n || k != c.k || err != c.err {
			t.Errorf("%s: Take = %d, %d and error %d, want %d, %d and error %d", c.name, n, k, err, c.n, c.k, c.err)
		}
		if c.strict != api.OK {
			c.n, c.k = 0, 0
		}
		if n, k, err := vint.Strict(c.in); n != c.n || k != c.k || err != c.strict {
			t.Errorf("%s: Strict = %d, %d and error %d, want %d, %d and error %d", c.name, n, k, err, c.n, c.k, c.strict)
		}
	}
}

// C1: Take restores what As encoded, whatever follows, and takes no prefix of it; Strict does so just for the shortest encoding.
func TestAsTake(t *testing.T) {
	for _, want := range sample() {
		for place := least(want); place < len(lengths); place++ {
			in, err := vint.As(want, lengths[place])
			if err != api.OK {
				t.Fatalf("As(%d, %d): error %d", want, lengths[place], err)
			}
			for _, tail := range [][]byte{nil, {0}, {0xff}, {1, 2, 3, 4, 5, 6, 7, 8, 9}} {
				checkDecoding(t, slices.Concat(in, tail), want, len(in), place == least(want))
			}
			for k := range in {
				checkShort(t, in[:k])
			}
		}
	}
}

// checkDecoding checks what Take and Strict return for in, which starts with want in long bytes.
func checkDecoding(t *testing.T, in []byte, want, long int, shortest bool) {
	t.Helper()
	if n, k, err := vint.Take(in); n != want || k != long || err != api.OK {
		t.Errorf("Take(%x) = %d, %d and error %d, want %d, %d", in, n, k, err, want, long)
	}
	n, k, err := vint.Strict(in)
	if shortest && (n != want || k != long || err != api.OK) {
		t.Errorf("Strict(%x) = %d, %d and error %d, want %d, %d", in, n, k, err, want, long)
	}
	if !shortest && (n != 0 || k != 0 || err != api.ErrForm) {
		t.Errorf("Strict(%x) = %d, %d and error %d, want wrong form", in, n, k, err)
	}
}

func checkShort(t *testing.T, in []byte) {
	t.Helper()
	if n, k, err := vint.Take(in); n != 0 || k != 0 || err != api.ErrShort {
		t.Errorf("Take(%x) = %d, %d and error %d, want too short", in, n, k, err)
	}
	if n, k, err := vint.Strict(in); n != 0 || k != 0 || err != api.ErrShort {
		t.Errorf("Strict(%x) = %d, %d and error %d, want too short", in, n, k, err)
	}
}

// C1: every first byte, with every number of bytes after it.
func TestTakeEveryStart(t *testing.T) {
	for c := range 256 {
		long := lengths[c>>6]
		for size := 1; size <= 10; size++ {
			in := append([]byte{byte(c)}, bytes.Repeat([]byte{0xa5}, size-1)...)
			if size < long {
				checkShort(t, in)
				continue
			}
			want := c & 63
			for range long - 1 {
				want = want<<8 | 0xa5
			}
			checkDecoding(t, in, want, long, least(want) == c>>6)
		}
	}
}

// C1: every integer of up to two bytes, and some more: Strict takes just what Put makes.
func TestStrictOnlyPut(t *testing.T) {
	for want := range 1 << 16 {
		in, err := vint.Put(want)
		if err != api.OK || !bytes.Equal(in, encoding(want, least(want))) {
			t.Fatalf("Put(%d) = %x and error %d", want, in, err)
		}
		if n, k, err := vint.Strict(in); n != want || k != len(in) || err != api.OK {
			t.Errorf("Strict(%x) = %d, %d and error %d, want %d", in, n, k, err, want)
		}
		two := []byte{byte(want >> 8), byte(want)}
		n, k, err := vint.Strict(two)
		if err != api.OK {
			continue
		}
		if again, err := vint.Put(n); err != api.OK || !bytes.Equal(again, two[:k]) {
			t.Errorf("Strict(%x) = %d, of which Put makes %x", two, n, again)
		}
	}
}

// AA2: arguments stay as they are, and what lies beyond their length is neither read nor modified.
func TestArgumentsStay(t *testing.T) {
	for _, n := range sample() {
		for size := range 9 {
			room := append(encoding(n, least(n)), bytes.Repeat([]byte{0x55}, 16)...)
			before := bytes.Clone(room)
			alone := append(make([]byte, 0, size), room[:size]...)
			n1, k1, err1 := vint.Take(room[:size])
			n2, k2, err2 := vint.Take(alone)
			if n1 != n2 || k1 != k2 || err1 != err2 {
				t.Errorf("Take(%x) depends on what follows", alone)
			}
			n1, k1, err1 = vint.Strict(room[:size])
			n2, k2, err2 = vint.Strict(alone)
			if n1 != n2 || k1 != k2 || err1 != err2 {
				t.Errorf("Strict(%x) depends on what follows", alone)
			}
			if !bytes.Equal(room, before) {
				t.Errorf("%x: an argument was modified", before)
			}
		}
	}
}

// AA2: two results of the same call share no memory.
func TestResultsAreNew(t *testing.T) {
	for _, n := range sample() {
		one, _ := vint.Put(n)
		for k := range one {
			one[k] ^= 255
		}
		if two, _ := vint.Put(n); !bytes.Equal(two, encoding(n, least(n))) {
			t.Errorf("Put(%d) returns memory of an earlier result", n)
		}
		one, _ = vint.As(n, 8)
		for k := range one {
			one[k] ^= 255
		}
		if two, _ := vint.As(n, 8); !bytes.Equal(two, encoding(n, 3)) {
			t.Errorf("As(%d, 8) returns memory of an earlier result", n)
		}
	}
}
