package vec_test

import (
	"bytes"
	"encoding/binary"
	"math"
	"slices"
	"testing"

	"ticketward/api"
	"ticketward/vec"
)

// wrong are widths that are not between 1 and 3; some of them would be valid in fewer bits.
var wrong = []int{0, -1, -2, -3, 4, 5, 8, 64, 255, 256, 257, 1<<32 + 1, math.MinInt, math.MinInt + 1, math.MaxInt}

// some returns n bytes that follow a fixed rule, so that every run sees the same ones.
func some(n int) []byte {
	b := make([]byte, n)
	state := uint32(n) + 1
	for k := range b {
		state = state*1664525 + 1013904223
		b[k] = byte(state >> 24)
	}
	return b
}

// lists are rows of several numbers and lengths.
func lists() [][][]byte {
	return [][][]byte{
		nil,
		{},
		{nil},
		{{}},
		{{5}},
		{{}, {}, {}},
		{{1}, {2, 3}},
		{{}, {0}, {}, {0, 0}, {}},
		{some(255)},
		{some(255), {7}, some(254)},
		{some(40), some(41), some(42), some(43)},
	}
}

// header is the length n in width bytes, made by the library.
func header(width, n int) []byte {
	return binary.BigEndian.AppendUint32(nil, uint32(n))[4-width:]
}

// vector is what Put is to return for b.
func vector(width int, b []byte) []byte {
	return slices.Concat(header(width, len(b)), b)
}

func sameRows(a, b [][]byte) bool {
	return slices.EqualFunc(a, b, bytes.Equal)
}

type putting struct {
	name  string
	width int
	in    []byte
	want  []byte
	err   api.Errno
}

// B1: Put, of ordinary inputs, and each error.
func TestPut(t *testing.T) {
	cases := []putting{
		{"the example", 2, []byte("abc"), []byte{0, 3, 97, 98, 99}, api.OK},
		{"width 1", 1, []byte("abc"), []byte{3, 97, 98, 99}, api.OK},
		{"width 3", 3, []byte("abc"), []byte{0, 0, 3, 97, 98, 99}, api.OK},
		{"nil, width 1", 1, nil, []byte{0}, api.OK},
		{"nil, width 2", 2, nil, []byte{0, 0}, api.OK},
		{"empty, width 3", 3, []byte{}, []byte{0, 0, 0}, api.OK},
		{"a zero", 1, []byte{0}, []byte{1, 0}, api.OK},
		{"all of width 1", 1, some(255), vector(1, some(255)), api.OK},
		{"too long for width 1", 1, some(256), nil, api.ErrFull},
		{"much too long for width 1", 1, some(1 << 16), nil, api.ErrFull},
		{"256 bytes, width 2", 2, some(256), append([]byte{1, 0}, some(256)...), api.OK},
		{"both bytes of a length", 2, some(0x1234), append([]byte{0x12, 0x34}, some(0x1234)...), api.OK},
		{"all of width 2", 2, some(1<<16 - 1), vector(2, some(1<<16-1)), api.OK},
		{"too long for width 2", 2, some(1 << 16), nil, api.ErrFull},
		{"65536 bytes, width 3", 3, some(1 << 16), append([]byte{1, 0, 0}, some(1<<16)...), api.OK},
		{"all bytes of a length", 3, some(0x012345), append([]byte{1, 0x23, 0x45}, some(0x012345)...), api.OK},
	}
	for _, width := range wrong {
		cases = append(cases,
			putting{"wrong width", width, []byte("abc"), nil, api.ErrRange},
			putting{"wrong width, nil", width, nil, nil, api.ErrRange},
			putting{"wrong width, and long", width, some(1 << 16), nil, api.ErrRange})
	}
	for _, c := range cases {
		got, err := vec.Put(c.width, c.in)
		if err != c.err || !bytes.Equal(got, c.want) {
			t.Errorf("%s (%d): got %d bytes and error %d, want %d bytes and error %d", c.name, c.width, len(got), err, len(c.want), c.err)
		}
	}
}

// B1: the longest vector of width 3, and one byte more.
func TestLongest(t *testing.T) {
	b := some(1 << 24)
	if got, err := vec.Put(3, b); err != api.ErrFull || len(got) != 0 {
		t.Errorf("too long for width 3: %d bytes and error %d", len(got), err)
	}
	if got, err := vec.All(3, [][]byte{b}); err != api.ErrFull || len(got) != 0 {
		t.Errorf("a row too long for width 3: %d bytes and error %d", len(got), err)
	}
	if _, err := vec.Put(0, b); err != api.ErrRange {
		t.Errorf("too long for any width, and a wrong one: error %d", err)
	}
	b = b[1:]
	got, err := vec.Put(3, b)
	if err != api.OK || len(got) != len(b)+3 || !bytes.Equal(got[:3], []byte{255, 255, 255}) || !bytes.Equal(got[3:], b) {
		t.Fatalf("all of width 3: %d bytes and error %d", len(got), err)
	}
	if data, rest, err := vec.Take(3, got); err != api.OK || !bytes.Equal(data, b) || len(rest) != 0 {
		t.Errorf("decoding it: %d and %d bytes, error %d", len(data), len(rest), err)
	}
	if data, rest, err := vec.Take(3, got[:len(got)-1]); err != api.ErrShort || len(data)+len(rest) != 0 {
		t.Errorf("decoding it without its last byte: %d and %d bytes, error %d", len(data), len(rest), err)
	}
}

type taking struct {
	name  string
	width int
	in    []byte
	data  []byte
	rest  []byte
	err   api.Errno
}

// B1: Take, of ordinary inputs, and each error.
func TestTake(t *testing.T) {
	cases := []taking{
		{"the example", 2, []byte{0, 3, 97, 98, 99}, []byte("abc"), nil, api.OK},
		{"something after it", 1, []byte{1, 9, 8}, []byte{9}, []byte{8}, api.OK},
		{"a vector after it", 1, []byte{1, 9, 1, 8}, []byte{9}, []byte{1, 8}, api.OK},
		{"empty", 1, []byte{0}, nil, nil, api.OK},
		{"empty, width 2", 2, []byte{0, 0}, nil, nil, api.OK},
		{"empty, width 3", 3, []byte{0, 0, 0}, nil, nil, api.OK},
		{"empty, something after it", 1, []byte{0, 7, 6}, nil, []byte{7, 6}, api.OK},
		{"empty, width 3, something after it", 3, []byte{0, 0, 0, 7}, nil, []byte{7}, api.OK},
		{"a high length", 1, vector(1, some(255)), some(255), nil, api.OK},
		{"both bytes of a length", 2, append([]byte{0x12, 0x34}, some(0x1234)...), some(0x1234), nil, api.OK},
		{"all bytes of a length", 3, append([]byte{1, 0x23, 0x45}, some(0x012345)...), some(0x012345), nil, api.OK},
		{"the longest of width 2, and more", 2, append(vector(2, some(1<<16-1)), 5), some(1<<16 - 1), []byte{5}, api.OK},
		{"no length", 1, nil, nil, nil, api.ErrShort},
		{"no length, empty", 1, []byte{}, nil, nil, api.ErrShort},
		{"no length, width 2", 2, nil, nil, nil, api.ErrShort},
		{"half a length", 2, []byte{0}, nil, nil, api.ErrShort},
		{"no length, width 3", 3, nil, nil, nil, api.ErrShort},
		{"a third of a length", 3, []byte{0}, nil, nil, api.ErrShort},
		{"two thirds of a length", 3, []byte{0, 0}, nil, nil, api.ErrShort},
		{"nothing after the length", 1, []byte{1}, nil, nil, api.ErrShort},
		{"one byte missing", 1, []byte{2, 9}, nil, nil, api.ErrShort},
		{"one byte missing, width 2", 2, []byte{0, 2, 9}, nil, nil, api.ErrShort},
		{"the length does not count itself", 2, []byte{0, 2, 9, 9, 9}, []byte{9, 9}, []byte{9}, api.OK},
		{"a high length, nothing after it", 3, []byte{255, 255, 255}, nil, nil, api.ErrShort},
	}
	for _, width := range wrong {
		cases = append(cases,
			taking{"wrong width", width, []byte{0, 0, 0, 0, 0, 0, 0, 0, 0}, nil, nil, api.ErrRange},
			taking{"wrong width, no bytes", width, nil, nil, nil, api.ErrRange},
			taking{"wrong width, few bytes", width, []byte{9}, nil, nil, api.ErrRange})
	}
	for _, c := range cases {
		data, rest, err := vec.Take(c.width, c.in)
		if err != c.err || !bytes.Equal(data, c.data) || !bytes.Equal(rest, c.rest) {
			t.Errorf("%s (%d): got %v, %v and error %d, want %v, %v and error %d", c.name, c.width, data, rest, err, c.data, c.rest, c.err)
		}
	}
}

// B1: Take restores what Put encoded, whatever follows, and takes no prefix of it.
func TestPutTake(t *testing.T) {
	for width := 1; width <= 3; width++ {
		for n := range 256 {
			b, tail := some(n), some(n%7)
			in, err := vec.Put(width, b)
			if err != api.OK || !bytes.Equal(in, vector(width, b)) {
				t.Fatalf("Put of %d bytes, width %d: %v and error %d", n, width, in, err)
			}
			data, rest, err := vec.Take(width, slices.Concat(in, tail))
			if err != api.OK || !bytes.Equal(data, b) || !bytes.Equal(rest, tail) {
				t.Errorf("Take of %d bytes, width %d: %v, %v and error %d", n, width, data, rest, err)
			}
			for k := range in {
				if data, rest, err := vec.Take(width, in[:k]); err != api.ErrShort || len(data)+len(rest) != 0 {
					t.Errorf("Take of %d of %d bytes, width %d: %v, %v and error %d", k, len(in), width, data, rest, err)
				}
			}
		}
	}
}

// B2: All, of ordinary inputs, and each error in the order of the rows.
func TestAll(t *testing.T) {
	for _, c := range []struct {
		name  string
		width int
		rows  [][]byte
		want  []byte
		err   api.Errno
	}{
		{"two rows", 1, [][]byte{{1}, {2, 3}}, []byte{1, 1, 2, 2, 3}, api.OK},
		{"two rows, width 2", 2, [][]byte{{1}, {2, 3}}, []byte{0, 1, 1, 0, 2, 2, 3}, api.OK},
		{"two rows, width 3", 3, [][]byte{{1}, {2, 3}}, []byte{0, 0, 1, 1, 0, 0, 2, 2, 3}, api.OK},
		{"empty rows", 1, [][]byte{nil, {}, {0}, {}}, []byte{0, 0, 1, 0, 0}, api.OK},
		{"no rows", 1, nil, nil, api.OK},
		{"no rows, empty", 3, [][]byte{}, nil, api.OK},
		{"no rows, width 0", 0, nil, nil, api.OK},
		{"no rows, width 4", 4, [][]byte{}, nil, api.OK},
		{"no rows, negative width", math.MinInt, nil, nil, api.OK},
		{"longest rows", 1, [][]byte{some(255), some(255)}, slices.Concat(vector(1, some(255)), vector(1, some(255))), api.OK},
		{"too long first", 1, [][]byte{some(256), {1}}, nil, api.ErrFull},
		{"too long last", 1, [][]byte{{1}, {}, some(256)}, nil, api.ErrFull},
		{"too long for width 2", 2, [][]byte{{1}, some(1 << 16)}, nil, api.ErrFull},
		{"wrong width", 0, [][]byte{{1}}, nil, api.ErrRange},
		{"wrong width, an empty row", 4, [][]byte{{}}, nil, api.ErrRange},
		{"wrong width, and a long row", -1, [][]byte{some(1 << 16)}, nil, api.ErrRange},
		{"more rows together than one could be", 1, slices.Repeat([][]byte{some(200)}, 3), bytes.Repeat(vector(1, some(200)), 3), api.OK},
	} {
		got, err := vec.All(c.width, c.rows)
		if err != c.err || !bytes.Equal(got, c.want) {
			t.Errorf("%s (%d): got %v and error %d, want %v and error %d", c.name, c.width, got, err, c.want, c.err)
		}
	}
}

type rowing struct {
	name  string
	width int
	in    []byte
	want  [][]byte
	err   api.Errno
}

// B2: Rows, of ordinary inputs, and each error in the order of the vectors.
func TestRows(t *testing.T) {
	cases := []rowing{
		{"two rows", 1, []byte{1, 1, 2, 2, 3}, [][]byte{{1}, {2, 3}}, api.OK},
		{"two rows, width 2", 2, []byte{0, 1, 1, 0, 2, 2, 3}, [][]byte{{1}, {2, 3}}, api.OK},
		{"two rows, width 3", 3, []byte{0, 0, 1, 1, 0, 0, 2, 2, 3}, [][]byte{{1}, {2, 3}}, api.OK},
		{"empty rows", 1, []byte{0, 0, 1, 0, 0}, [][]byte{{}, {}, {0}, {}}, api.OK},
		{"one empty row", 3, []byte{0, 0, 0}, [][]byte{{}}, api.OK},
		{"no bytes", 1, nil, nil, api.OK},
		{"no bytes, empty", 2, []byte{}, nil, api.OK},
		{"part of a length", 2, []byte{0}, nil, api.ErrShort},
		{"part of a later length", 2, []byte{0, 1, 5, 0}, nil, api.ErrShort},
		{"one byte missing", 1, []byte{2, 9}, nil, api.ErrShort},
		{"one byte missing later", 1, []byte{1, 1, 0, 2, 9}, nil, api.ErrShort},
		{"nothing after the last length", 1, []byte{1, 1, 1}, nil, api.ErrShort},
	}
	for _, width := range wrong {
		cases = append(cases,
			rowing{"no bytes, wrong width", width, nil, nil, api.OK},
			rowing{"no bytes, empty, wrong width", width, []byte{}, nil, api.OK},
			rowing{"wrong width", width, []byte{0, 0, 0, 0}, nil, api.ErrRange},
			rowing{"wrong width, few bytes", width, []byte{9}, nil, api.ErrRange})
	}
	for _, c := range cases {
		got, err := vec.Rows(c.width, c.in)
		if err != c.err || !sameRows(got, c.want) {
			t.Errorf("%s (%d): got %v and error %d, want %v and error %d", c.name, c.width, got, err, c.want, c.err)
		}
	}
}

// B2: bytes are decoded just if they are what All makes of the result.
func TestRowsOnlyAll(t *testing.T) {
	for width := 1; width <= 3; width++ {
		in := make([]byte, 0, 7)
		var visit func()
		visit = func() {
			got, err := vec.Rows(width, in)
			if err == api.OK {
				if again, err := vec.All(width, got); err != api.OK || !bytes.Equal(again, in) {
					t.Errorf("Rows(%d, %v) = %v, of which All makes %v", width, in, got, again)
				}
			} else if err != api.ErrShort || len(got) != 0 {
				t.Errorf("Rows(%d, %v) = %v and error %d", width, in, got, err)
			}
			if len(in) < cap(in) {
				for c := range byte(4) {
					in = append(in, c)
					visit()
					in = in[:len(in)-1]
				}
			}
		}
		visit()
	}
}

// B2: the lists whose encodings are decoded again are the same, with Rows and with Unnest.
func TestLists(t *testing.T) {
	for _, rows := range lists() {
		for inner := 1; inner <= 3; inner++ {
			all, err := vec.All(inner, rows)
			if err != api.OK {
				t.Fatalf("All of %d rows, width %d: error %d", len(rows), inner, err)
			}
			if got, err := vec.Rows(inner, all); err != api.OK || !sameRows(got, rows) {
				t.Errorf("Rows of %d rows, width %d: %v and error %d", len(rows), inner, got, err)
			}
			for outer := 2; outer <= 3; outer++ {
				checkNesting(t, outer, inner, rows, all)
			}
		}
	}
}

// checkNesting checks Nest and Unnest of rows, which All encodes as all.
func checkNesting(t *testing.T, outer, inner int, rows [][]byte, all []byte) {
	t.Helper()
	nest, err := vec.Nest(outer, inner, rows)
	if err != api.OK || !bytes.Equal(nest, vector(outer, all)) {
		t.Errorf("Nest of %d rows, widths %d and %d: %v and error %d", len(rows), outer, inner, nest, err)
	}
	if got, err := vec.Unnest(outer, inner, nest); err != api.OK || !sameRows(got, rows) {
		t.Errorf("Unnest of %d rows, widths %d and %d: %v and error %d", len(rows), outer, inner, got, err)
	}
	if got, err := vec.Unnest(outer, inner, slices.Concat(nest, []byte{0})); err != api.ErrForm || len(got) != 0 {
		t.Errorf("Unnest of %d rows and a byte, widths %d and %d: %v and error %d", len(rows), outer, inner, got, err)
	}
	if got, err := vec.Unnest(outer, inner, nest[:len(nest)-1]); err != api.ErrShort || len(got) != 0 {
		t.Errorf("Unnest of %d rows but a byte, widths %d and %d: %v and error %d", len(rows), outer, inner, got, err)
	}
}

// B2: Nest, the errors of All before those of Put.
func TestNest(t *testing.T) {
	for _, c := range []struct {
		name         string
		outer, inner int
		rows         [][]byte
		want         []byte
		err          api.Errno
	}{
		{"one row", 1, 1, [][]byte{{5}}, []byte{2, 1, 5}, api.OK},
		{"two widths", 2, 1, [][]byte{{5}}, []byte{0, 2, 1, 5}, api.OK},
		{"two widths, the other way", 1, 2, [][]byte{{5}}, []byte{3, 0, 1, 5}, api.OK},
		{"two rows", 3, 1, [][]byte{{1}, {2, 3}}, []byte{0, 0, 5, 1, 1, 2, 2, 3}, api.OK},
		{"an empty row", 1, 1, [][]byte{{}}, []byte{1, 0}, api.OK},
		{"no rows", 1, 1, nil, []byte{0}, api.OK},
		{"no rows, width 2", 2, 1, [][]byte{}, []byte{0, 0}, api.OK},
		{"no rows, inner width 0", 1, 0, nil, []byte{0}, api.OK},
		{"no rows, inner width 4", 2, 4, [][]byte{}, []byte{0, 0}, api.OK},
		{"as long as width 1 allows", 1, 1, [][]byte{some(254)}, vector(1, vector(1, some(254))), api.OK},
		{"a row too long", 2, 1, [][]byte{some(256)}, nil, api.ErrFull},
		{"too long together", 1, 1, [][]byte{some(255)}, nil, api.ErrFull},
		{"too long together, several rows", 1, 1, [][]byte{some(100), some(100), some(100)}, nil, api.ErrFull},
		{"too long together, width 2", 2, 3, [][]byte{some(1<<16 - 3)}, nil, api.ErrFull},
		{"wrong inner width", 1, 0, [][]byte{{5}}, nil, api.ErrRange},
		{"wrong inner width, too long together", 1, 4, [][]byte{some(300)}, nil, api.ErrRange},
		{"wrong outer width", 0, 1, [][]byte{{5}}, nil, api.ErrRange},
		{"wrong outer width, no rows", 4, 1, nil, nil, api.ErrRange},
		{"both widths wrong, no rows", -1, -1, nil, nil, api.ErrRange},
		{"wrong outer width, and a row too long", 0, 1, [][]byte{{5}, some(256)}, nil, api.ErrFull},
	} {
		got, err := vec.Nest(c.outer, c.inner, c.rows)
		if err != c.err || !bytes.Equal(got, c.want) {
			t.Errorf("%s: got %v and error %d, want %v and error %d", c.name, got, err, c.want, c.err)
		}
	}
}

// B2: Unnest, each error before the later ones.
func TestUnnest(t *testing.T) {
	for _, c := range []struct {
		name         string
		outer, inner int
		in           []byte
		want         [][]byte
		err          api.Errno
	}{
		{"one row", 1, 1, []byte{2, 1, 5}, [][]byte{{5}}, api.OK},
		{"two widths", 2, 1, []byte{0, 2, 1, 5}, [][]byte{{5}}, api.OK},
		{"two widths, the other way", 1, 2, []byte{3, 0, 1, 5}, [][]byte{{5}}, api.OK},
		{"two rows", 3, 1, []byte{0, 0, 5, 1, 1, 2, 2, 3}, [][]byte{{1}, {2, 3}}, api.OK},
		{"an empty row", 1, 1, []byte{1, 0}, [][]byte{{}}, api.OK},
		{"no rows", 1, 1, []byte{0}, nil, api.OK},
		{"no rows, inner width 0", 1, 0, []byte{0}, nil, api.OK},
		{"no rows, inner width 4", 3, 4, []byte{0, 0, 0}, nil, api.OK},
		{"no bytes", 1, 1, nil, nil, api.ErrShort},
		{"part of a length", 2, 1, []byte{0}, nil, api.ErrShort},
		{"one byte missing", 1, 1, []byte{3, 1, 5}, nil, api.ErrShort},
		{"one byte missing, wrong inner width", 1, 0, []byte{3, 1, 5}, nil, api.ErrShort},
		{"wrong outer width", 0, 1, []byte{2, 1, 5}, nil, api.ErrRange},
		{"wrong outer width, no bytes", 4, 1, nil, nil, api.ErrRange},
		{"wrong outer width, and a byte follows", 0, 1, []byte{0, 0}, nil, api.ErrRange},
		{"a byte follows", 1, 1, []byte{2, 1, 5, 0}, nil, api.ErrForm},
		{"a byte follows no rows", 1, 1, []byte{0, 0}, nil, api.ErrForm},
		{"a vector follows", 1, 1, []byte{2, 1, 5, 2, 1, 5}, nil, api.ErrForm},
		{"a byte follows, wrong inner width", 1, 0, []byte{2, 1, 5, 0}, nil, api.ErrForm},
		{"a byte follows, a row is short", 1, 1, []byte{2, 2, 5, 5}, nil, api.ErrForm},
		{"a row is short", 1, 1, []byte{2, 2, 5}, nil, api.ErrShort},
		{"a later row is short", 1, 1, []byte{3, 1, 5, 1}, nil, api.ErrShort},
		{"a length of a row is short", 1, 2, []byte{1, 0}, nil, api.ErrShort},
		{"wrong inner width", 1, 0, []byte{2, 1, 5}, nil, api.ErrRange},
		{"wrong inner width, a row is short", 1, 4, []byte{1, 2}, nil, api.ErrRange},
	} {
		got, err := vec.Unnest(c.outer, c.inner, c.in)
		if err != c.err || !sameRows(got, c.want) {
			t.Errorf("%s: got %v and error %d, want %v and error %d", c.name, got, err, c.want, c.err)
		}
	}
}

// B2: many short vectors, which take time in proportion to their number.
func TestManyRows(t *testing.T) {
	const n = 1 << 20
	got, err := vec.Rows(1, make([]byte, n))
	if err != api.OK || len(got) != n {
		t.Fatalf("%d rows and error %d", len(got), err)
	}
	if all, err := vec.All(1, got); err != api.OK || !bytes.Equal(all, make([]byte, n)) {
		t.Errorf("%d bytes and error %d", len(all), err)
	}
}

// outcome is all that the calls of a test return, in one slice of rows.
func outcome(b []byte, rows [][]byte) [][]byte {
	put, _ := vec.Put(1, b)
	data, rest, _ := vec.Take(1, b)
	all, _ := vec.All(1, rows)
	nest, _ := vec.Nest(2, 1, rows)
	out := [][]byte{put, data, rest, all, nest}
	decoded, _ := vec.Rows(1, b)
	out = append(out, decoded...)
	decoded, _ = vec.Unnest(1, 1, b)
	return append(out, decoded...)
}

func cloneRows(rows [][]byte) [][]byte {
	out := slices.Clone(rows)
	for k := range out {
		out[k] = bytes.Clone(out[k])
	}
	return out
}

// AA1, AA2: arguments stay as they are, beyond their length too, and results share no memory with them.
func TestArgumentsStay(t *testing.T) {
	inputs := [][]byte{{}, {0}, {1, 7}, {2, 1, 5}, {1, 0, 2, 8, 9}, {2, 0, 0, 0}, {4, 1, 7, 1, 8, 3, 9, 9, 9}}
	for _, in := range inputs {
		room := append(bytes.Clone(in), bytes.Repeat([]byte{0x55}, 16)...)
		before := bytes.Clone(room)
		b := room[:len(in)]
		list := [][]byte{b, room[len(in) : len(in)+3], {0x66}}
		rows := list[:2]
		got := outcome(b, rows)
		if !bytes.Equal(room, before) || !bytes.Equal(list[2], []byte{0x66}) {
			t.Errorf("%v: an argument was modified", in)
		}
		want := cloneRows(got)
		for k := range room {
			room[k] ^= 255
		}
		if !sameRows(got, want) {
			t.Errorf("%v: a result depends on memory that is not its own", in)
		}
	}
}

// AA2: no two slices of results share memory, spare capacity included.
func TestResultsAreNew(t *testing.T) {
	got := outcome([]byte{4, 1, 7, 1, 8}, [][]byte{{1, 2}, {3}})
	want := cloneRows(got)
	for k, row := range got {
		row = row[:cap(row)]
		for j := range row {
			row[j] ^= 255
		}
		for other := range got {
			if other != k && !bytes.Equal(got[other], want[other]) {
				t.Errorf("result %d shares memory with result %d", k, other)
			}
		}
		for j := range row {
			row[j] ^= 255
		}
	}
}
