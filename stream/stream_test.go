package stream_test

import (
	"bytes"
	"crypto/sha256"
	"encoding/binary"
	"encoding/hex"
	"math"
	"math/bits"
	"slices"
	"sync"
	"testing"

	"ticketward/api"
	"ticketward/stream"
)

// last is the greatest block number.
const last = math.MaxUint32

// wrong are numbers of no block; some of them would be valid in fewer bits.
var wrong = []int{-1, -2, -64, math.MinInt32, -last, -1 << 32, math.MinInt, math.MinInt + 1, last + 1, last + 2, 1<<33 + 1, 1 << 40, 1<<63 - 1<<32, math.MaxInt - 1, math.MaxInt}

// some returns n bytes that follow a fixed rule, so that every run sees the same ones.
func some(n int) []byte {
	b := make([]byte, n)
	state := uint32(n) + 1
	for k := range b {
		state = state*1664525 + 1013904223
		b[k] = byte(state >> 24)
	}
	return b
}

// counted returns the bytes from 0 to n-1.
func counted(n int) []byte {
	b := make([]byte, n)
	for k := range b {
		b[k] = byte(k)
	}
	return b
}

// repeated returns n bytes of one value.
func repeated(n int, value byte) []byte {
	return bytes.Repeat([]byte{value}, n)
}

// with returns n zero bytes but for one.
func with(n, at int, value byte) []byte {
	b := make([]byte, n)
	b[at] = value
	return b
}

// row is a row of the state, a word for each column.
type row [4]uint32

// turn moves the words of a row to the left.
func turn(r row, by int) row {
	return row{r[by%4], r[(by+1)%4], r[(by+2)%4], r[(by+3)%4]}
}

// step adds y to x and then x to z without carrying, turning each word of z.
func step(x, y, z *row, by int) {
	for k := range 4 {
		x[k] += y[k]
		z[k] = bits.RotateLeft32(z[k]^x[k], by)
	}
}

// expected is a block, computed by whole rows, which are turned so that the diagonals become columns.
func expected(t *testing.T, key, nonce []byte, n int) []byte {
	t.Helper()
	first := slices.Concat([]byte("expand 32-byte k"), key, binary.LittleEndian.AppendUint32(nil, uint32(n)), nonce)
	if len(first) != 64 || n < 0 || n > last {
		t.Fatalf("no block %d for a key of %d bytes and a nonce of %d", n, len(key), len(nonce))
	}
	var words [16]uint32
	for k := range words {
		words[k] = binary.LittleEndian.Uint32(first[4*k:])
	}
	a, b, c, d := row(words[:4]), row(words[4:8]), row(words[8:12]), row(words[12:])
	for k := range 20 {
		step(&a, &b, &d, 16)
		step(&c, &d, &b, 12)
		step(&a, &b, &d, 8)
		step(&c, &d, &b, 7)
		by := 1 + k%2*2
		b, c, d = turn(b, by), turn(c, 2), turn(d, 4-by)
	}
	var out []byte
	for k, x := range slices.Concat(a[:], b[:], c[:], d[:]) {
		out = binary.LittleEndian.AppendUint32(out, words[k]+x)
	}
	return out
}

// checkBlock compares the result with the expected one and returns it.
func checkBlock(t *testing.T, key, nonce []byte, n int) []byte {
	t.Helper()
	want := expected(t, key, nonce, n)
	got, err := stream.Block(key, nonce, n)
	if err != api.OK || !bytes.Equal(got, want) {
		t.Errorf("Block %d with the key %x and the nonce %x = %x and error %d, want %x", n, key, nonce, got, err, want)
	}
	return got
}

// checkMix compares the result with b and the expected blocks, and returns it.
func checkMix(t *testing.T, key, nonce []byte, n int, b []byte) []byte {
	t.Helper()
	want := slices.Clone(b)
	k := n
	for part := range slices.Chunk(want, 64) {
		for j, c := range expected(t, key, nonce, k)[:len(part)] {
			part[j] ^= c
		}
		k++
	}
	got, err := stream.Mix(key, nonce, n, b)
	if err != api.OK || !bytes.Equal(got, want) {
		t.Errorf("Mix of %d bytes from block %d on = %x and error %d, want %x", len(b), n, got, err, want)
	}
	return got
}

// numbers returns block numbers on both sides of each power of two, up to the greatest one.
func numbers() []int {
	out := []int{0, last}
	for k := range 32 {
		out = append(out, 1<<k, 1<<k+1, 1<<k-1, last-1<<k, last-1<<k+1)
	}
	return out
}

// H1: Block, the published blocks of RFC 8439, and others that OpenSSL made.
func TestPublishedBlocks(t *testing.T) {
	zeros := make([]byte, 32)
	for _, c := range []struct {
		key, nonce []byte
		n          int
		want       string
	}{
		{counted(32), []byte{0, 0, 0, 9, 0, 0, 0, 0x4a, 0, 0, 0, 0}, 1,
			"10f1e7e4d13b5915500fdd1fa32071c4c7d1f4c733c068030422aa9ac3d46c4ed2826446079faa0914c2d705d98b02a2b5129cd1de164eb9cbd083e8a2503c4e"},
		{zeros, zeros[:12], 0,
			"76b8e0ada0f13d90405d6ae55386bd28bdd219b8a08ded1aa836efcc8b770dc7da41597c5157488d7724e03fb8d84a376a43b8f41518a11cc387b669b2ee6586"},
		{zeros, zeros[:12], 1,
			"9f07e7be5551387a98ba977c732d080dcb0f29a048e3656912c6533e32ee7aed29b721769ce64e43d57133b074d839d531ed1f28510afb45ace10a1f4b794d6f"},
		{with(32, 31, 1), zeros[:12], 1,
			"3aeb5224ecf849929b9d828db1ced4dd832025e8018b8160b82284f3c949aa5a8eca00bbb4a73bdad192b5c42f73f2fd4e273644c8b36125a64addeb006c13a0"},
		{with(32, 1, 255), zeros[:12], 2,
			"72d54dfbf12ec44b362692df94137f328fea8da73990265ec1bbbea1ae9af0ca13b25aa26cb4a648cb9b9d1be65b2c0924a66c54d545ec1b7374f4872e99f096"},
		{zeros, with(12, 11, 2), 0,
			"c2c64d378cd536374ae204b9ef933fcd1a8b2288b3dfa49672ab765b54ee27c78a970e0e955c14f3a88e741b97c286f75f8fc299e8148362fa198a39531bed6d"},
		{counted(32), counted(12), 0x80000001,
			"45d54e8fc0d72266be8bc9285c01392517adb6d87482c42743f6720aedf4e0c7ab458b12b532edb76877b4fe09bb860af7a35f238ed41532ca00a963b8007586"},
		{counted(32), counted(12), last,
			"14eed149cd60a456f359e704f9d4b07f940a2f5c6c971747df044f3475b769595bdb46b77c657b6c9369512a23d0d16e8cd2b886d11b4d66c9b328b3725463e2"},
		{repeated(32, 255), repeated(12, 255), last,
			"d72b21cfa4b6b0c41d61f62b8a11159c6a4f63bc56c2035796c7ad37811121bbec56d54a530f3a933dd28a50feb23bfaf64f405be985f3718bdf4683e96be749"},
	} {
		if got := checkBlock(t, c.key, c.nonce, c.n); hex.EncodeToString(got) != c.want {
			t.Errorf("Block %d with the key %x and the nonce %x = %x, want %s", c.n, c.key, c.nonce, got, c.want)
		}
	}
}

// H1: Block, of every size of number and of many keys and nonces.
func TestBlock(t *testing.T) {
	seen := map[string]int{}
	for _, n := range numbers() {
		got := checkBlock(t, some(32), some(12), n)
		if before, ok := seen[string(got)]; ok && before != n {
			t.Errorf("the blocks %d and %d are the same", before, n)
		}
		seen[string(got)] = n
	}
	for n := range 1000 {
		checkBlock(t, some(32 + n)[n:], some(1000 + n)[:12], n)
		checkBlock(t, repeated(32, byte(n)), some(12), n)
		checkBlock(t, some(32), repeated(12, byte(n)), last-n)
	}
}

// H1: each bit of the key, the nonce and the block number counts.
func TestBlockEveryBit(t *testing.T) {
	key, nonce := some(32), some(12)
	seen := map[string]bool{string(checkBlock(t, key, nonce, 0)): true}
	see := func(part string, bit int, got []byte) {
		if seen[string(got)] {
			t.Errorf("Block overlooks bit %d of the %s", bit, part)
		}
		seen[string(got)] = true
	}
	for bit := range 8 * len(key) {
		key[bit/8] ^= 1 << (bit % 8)
		see("key", bit, checkBlock(t, key, nonce, 0))
		key[bit/8] ^= 1 << (bit % 8)
	}
	for bit := range 8 * len(nonce) {
		nonce[bit/8] ^= 1 << (bit % 8)
		see("nonce", bit, checkBlock(t, key, nonce, 0))
		nonce[bit/8] ^= 1 << (bit % 8)
	}
	for bit := range 32 {
		see("number", bit, checkBlock(t, key, nonce, 1<<bit))
	}
}

// H1 and H2: lengths of keys and nonces, on both sides of the right ones, and the order of errors.
func TestFormErrors(t *testing.T) {
	for size := range 100 {
		for _, long := range []int{0, 1, 8, 11, 12, 13, 16, 24, 32, 100} {
			key, nonce := some(size), some(long)
			want := api.ErrForm
			if size == 32 && long == 12 {
				want = api.OK
			}
			for _, b := range [][]byte{nil, some(10), some(api.MaxText + 1)} {
				for _, n := range append([]int{0, 1, last}, wrong...) {
					errBlock, errMix := want, want
					if want == api.OK && slices.Contains(wrong, n) {
						errBlock, errMix = api.ErrRange, api.ErrRange
					}
					if want == api.OK && len(b) > api.MaxText {
						errMix = api.ErrRange
					}
					if got, err := stream.Block(key, nonce, n); err != errBlock || err != api.OK && len(got) != 0 {
						t.Errorf("a key of %d bytes, a nonce of %d: Block %d = %x and error %d, want error %d", size, long, n, got, err, errBlock)
					}
					if got, err := stream.Mix(key, nonce, n, b); err != errMix || err != api.OK && len(got) != 0 {
						t.Errorf("a key of %d bytes, a nonce of %d: Mix of %d bytes from block %d on = %x and error %d, want error %d", size, long, len(b), n, got, err, errMix)
					}
				}
			}
		}
	}
}

// H1 and H2: a length that is right only with the room after a slice.
func TestFormErrorsRoom(t *testing.T) {
	for _, c := range []struct{ key, nonce []byte }{
		{some(32)[:31], some(12)},
		{some(32)[:0], some(12)},
		{some(32), some(12)[:11]},
		{some(32), some(12)[:0]},
		{some(12), some(32)},
	} {
		if got, err := stream.Block(c.key, c.nonce, 0); err != api.ErrForm || len(got) != 0 {
			t.Errorf("a key of %d bytes, a nonce of %d: Block = %x and error %d", len(c.key), len(c.nonce), got, err)
		}
		if got, err := stream.Mix(c.key, c.nonce, 0, some(5)); err != api.ErrForm || len(got) != 0 {
			t.Errorf("a key of %d bytes, a nonce of %d: Mix = %x and error %d", len(c.key), len(c.nonce), got, err)
		}
	}
}

// H1: Block, its error for a wrong number, and the first and last numbers.
func TestBlockErrors(t *testing.T) {
	for _, n := range wrong {
		if got, err := stream.Block(some(32), some(12), n); err != api.ErrRange || len(got) != 0 {
			t.Errorf("Block %d = %x and error %d", n, got, err)
		}
	}
	for _, n := range []int{0, 1, last - 1, last} {
		if got := checkBlock(t, some(32), some(12), n); len(got) != 64 {
			t.Errorf("Block %d has %d bytes", n, len(got))
		}
	}
}

// H2: Mix, the published text of RFC 8439, there and back.
func TestPublishedMix(t *testing.T) {
	plain := "Ladies and Gentlemen of the class of '99: If I could offer you only one tip for the future, sunscreen would be it."
	mixed := "6e2e359a2568f98041ba0728dd0d6981e97e7aec1d4360c20a27afccfd9fae0bf91b65c5524733ab8f593dabcd62b3571639d624e65152ab8f530c359f0861d807ca0dbf500d6a6156a38e088a22b65e52bc514d16ccf806818ce91ab77937365af90bbf74a35be6b40b8eedf2785e42874d"
	nonce := with(12, 7, 0x4a)
	got := checkMix(t, counted(32), nonce, 1, []byte(plain))
	if hex.EncodeToString(got) != mixed {
		t.Errorf("Mix = %x, want %s", got, mixed)
	}
	if back := checkMix(t, counted(32), nonce, 1, got); string(back) != plain {
		t.Errorf("Mix back = %q", back)
	}
}

// H2: Mix, the hashes of what OpenSSL made of bytes of several lengths.
func TestMixedElsewhere(t *testing.T) {
	for _, c := range []struct {
		n, long int
		want    string
	}{
		{0, 1, "452ba1ddef80246c48be7690193c76c1d61185906be9401014fe14f1be64b74f"},
		{0, 63, "5cd95d90b3b91822b3fb95345044ec781cc979a7a46f7a2f6c90466e572aa288"},
		{0, 64, "3eb1a20948db64d6e0734eec4fcc47fa216b2af5985ec0b1106ce9e3b34fc359"},
		{1, 65, "e775edfdbbce25acb3745e2cb4824d3e3d672744336c0f4f3195c4a74da9a14c"},
		{7, 128, "42d85c672b0a72e5f2d394306b7c8420c85129c36e3f0f980056b23ef6da12b4"},
		{0x7fffffff, 200, "ce97fbe17be7d8ddc8fb3a6b68042b729a15401a08b3c301ec44c94b303a6f80"},
		{0x80000000, 1000, "8f38dd674c4763a06f24ad46a43fd0a5b63f483001f0c2190996e19963089292"},
		{0xfffffff0, 1023, "7c4dd1ffd7739bf1c8efc4aedfbd73f9e9749eea45ae2c26ee30e22e07ad1774"},
		{0xfffffff0, 1024, "f2062d8fc8ff859004fd8f570a4c022fdf1109c4d9abf81744a13fa1adca7f3c"},
		{last, 64, "edbcbf665f12c4e4bace2d7d5b8ffe7d8c9f911534776ce09957c262dee99da7"},
		{last, 1, "457e4854863e7efaa03266ad781822ecce69df31a511786118c10771a87e69f2"},
		{0, 16383, "00f9ed825ad608416bd4db81ee1e54317a2cfbcf1f18ff168ed49197eef9862a"},
		{1, 16384, "28ee58b68a02d1ac2c04771dd736745134f8f51bbd6649e7cbc3d4228e7423a6"},
		{0xffffff00, 16384, "81cb84cec0e41b5aba190853bf595da5545f6d16d71ba36eb67380d9ad621abc"},
	} {
		got := sha256.Sum256(checkMix(t, some(32), some(12), c.n, some(c.long)))
		if hex.EncodeToString(got[:]) != c.want {
			t.Errorf("the hash of Mix of %d bytes from block %d on = %x, want %s", c.long, c.n, got, c.want)
		}
	}
}

// H2: Mix, of every length, is the exclusive or with Block, and twice restores the bytes.
func TestMixEveryLength(t *testing.T) {
	key, nonce := some(32), some(12)
	for _, n := range []int{0, 1, 255, 1<<16 - 2, 1<<31 - 3, last - 6} {
		var row []byte
		for k := range 7 {
			block, _ := stream.Block(key, nonce, n+k)
			row = append(row, block...)
		}
		for long := range len(row) + 1 {
			if got := checkMix(t, key, nonce, n, make([]byte, long)); !bytes.Equal(got, row[:long]) {
				t.Errorf("Mix of %d zeros from block %d on = %x, want %x", long, n, got, row[:long])
			}
			b := some(long)
			if back := checkMix(t, key, nonce, n, checkMix(t, key, nonce, n, b)); !bytes.Equal(back, b) {
				t.Errorf("Mix of %d bytes from block %d on, twice = %x, want %x", long, n, back, b)
			}
		}
	}
}

// H2: Mix, of every bit by itself: no byte depends on another one.
func TestMixEveryBit(t *testing.T) {
	key, nonce, b := some(32), some(12), some(150)
	whole := checkMix(t, key, nonce, 9, b)
	for bit := range 8 * len(b) {
		b[bit/8] ^= 1 << (bit % 8)
		whole[bit/8] ^= 1 << (bit % 8)
		if got := checkMix(t, key, nonce, 9, b); !bytes.Equal(got, whole) {
			t.Errorf("Mix with another bit %d = %x, want %x", bit, got, whole)
		}
	}
}

// H2: Mix, of parts that start with a block, is Mix of the whole.
func TestMixParts(t *testing.T) {
	key, nonce, b := some(32), some(12), some(api.MaxText)
	for _, n := range []int{0, 1<<32 - 256} {
		whole := checkMix(t, key, nonce, n, b)
		for _, blocks := range []int{1, 2, 3, 100, 255, 256} {
			var got []byte
			k := n
			for part := range slices.Chunk(b, 64*blocks) {
				got = append(got, checkMix(t, key, nonce, k, part)...)
				k += blocks
			}
			if !bytes.Equal(got, whole) {
				t.Errorf("parts of %d blocks from block %d on are not the whole", blocks, n)
			}
		}
	}
}

// H2: Mix, its errors, on both sides of the limits of its number, its bytes and its blocks.
func TestMixErrors(t *testing.T) {
	for _, c := range []struct {
		n, long int
		err     api.Errno
	}{
		{0, 0, api.OK},
		{0, api.MaxText, api.OK},
		{0, api.MaxText + 1, api.ErrRange},
		{0, api.MaxText + 64, api.ErrRange},
		{0, 1 << 20, api.ErrRange},
		{last, 0, api.OK},
		{last, 1, api.OK},
		{last, 63, api.OK},
		{last, 64, api.OK},
		{last, 65, api.ErrRange},
		{last, 128, api.ErrRange},
		{last, api.MaxText, api.ErrRange},
		{last - 1, 64, api.OK},
		{last - 1, 65, api.OK},
		{last - 1, 128, api.OK},
		{last - 1, 129, api.ErrRange},
		{last - 254, api.MaxText - 64, api.OK},
		{last - 254, api.MaxText - 63, api.ErrRange},
		{last - 254, api.MaxText, api.ErrRange},
		{last - 255, api.MaxText, api.OK},
		{last - 255, api.MaxText + 1, api.ErrRange},
		{last - 256, api.MaxText, api.OK},
		{last - 256, api.MaxText + 1, api.ErrRange},
		{1 << 31, api.MaxText, api.OK},
	} {
		if c.err == api.OK {
			checkMix(t, some(32), some(12), c.n, some(c.long))
		} else if got, err := stream.Mix(some(32), some(12), c.n, some(c.long)); err != c.err || len(got) != 0 {
			t.Errorf("Mix of %d bytes from block %d on: %d bytes and error %d", c.long, c.n, len(got), err)
		}
	}
	for _, n := range wrong {
		for _, long := range []int{0, 1, 64, 65, 128, api.MaxText, api.MaxText + 1} {
			if got, err := stream.Mix(some(32), some(12), n, some(long)); err != api.ErrRange || len(got) != 0 {
				t.Errorf("Mix of %d bytes from block %d on: %d bytes and error %d", long, n, len(got), err)
			}
		}
	}
}

// AA3: nil and empty arguments are the same.
func TestEmptyArguments(t *testing.T) {
	for _, b := range [][]byte{nil, {}, some(3)[:0]} {
		for _, n := range []int{0, 1, last} {
			if got := checkMix(t, some(32), some(12), n, b); len(got) != 0 {
				t.Errorf("Mix of nothing = %x", got)
			}
		}
		if got, err := stream.Block(b, some(12), 0); err != api.ErrForm || len(got) != 0 {
			t.Errorf("Block with an empty key = %x and error %d", got, err)
		}
		if got, err := stream.Block(some(32), b, 0); err != api.ErrForm || len(got) != 0 {
			t.Errorf("Block with an empty nonce = %x and error %d", got, err)
		}
		if got, err := stream.Mix(b, b, 0, b); err != api.ErrForm || len(got) != 0 {
			t.Errorf("Mix with an empty key and nonce = %x and error %d", got, err)
		}
	}
}

// AA2: arguments stay as they are, and what lies beyond their length is neither read nor modified.
func TestArgumentsStay(t *testing.T) {
	for _, size := range []int{0, 1, 63, 64, 65, 200} {
		key, nonce, b := some(100), some(50), some(300)
		checkBlock(t, key[:32], nonce[:12], size)
		before := slices.Clone(checkMix(t, key[:32], nonce[:12], size, b[:size]))
		if !bytes.Equal(key, some(100)) || !bytes.Equal(nonce, some(50)) || !bytes.Equal(b, some(300)) {
			t.Errorf("%d bytes: an argument was modified", size)
		}
		for _, rest := range [][]byte{key[32:], nonce[12:], b[size:]} {
			for k := range rest {
				rest[k] ^= 255
			}
		}
		if got := checkMix(t, key[:32], nonce[:12], size, b[:size]); !bytes.Equal(got, before) {
			t.Errorf("%d bytes: a result depends on what follows an argument", size)
		}
	}
}

// AA2: results share no memory with arguments, and none with each other.
func TestResultsAreNew(t *testing.T) {
	key, nonce, b := some(32), some(12), some(100)
	block, mixed := checkBlock(t, key, nonce, 3), checkMix(t, key, nonce, 3, b)
	keptBlock, keptMixed := slices.Clone(block), slices.Clone(mixed)
	blockAgain, mixedAgain := checkBlock(t, key, nonce, 3), checkMix(t, key, nonce, 3, b)
	for _, other := range [][]byte{key, nonce, b, blockAgain[:cap(blockAgain)], mixedAgain[:cap(mixedAgain)]} {
		for k := range other {
			other[k] ^= 255
		}
	}
	if !bytes.Equal(block, keptBlock) || !bytes.Equal(mixed, keptMixed) {
		t.Error("a result shares memory with an argument or another result")
	}
	checkBlock(t, some(32), some(12), 3)
	checkMix(t, some(32), some(12), 3, some(100))
}

// AA2: arguments may share memory: one slice as key, nonce and bytes.
func TestSharedArguments(t *testing.T) {
	all := some(150)
	checkBlock(t, all[:32], all[:12], 0)
	checkBlock(t, all[5:37], all[30:42], 1)
	checkMix(t, all[:32], all[:12], 1, all)
	checkMix(t, all[5:37], all[30:42], 1, all[10:100])
	if !bytes.Equal(all, some(150)) {
		t.Error("an argument was modified")
	}
}

// AA1: a call sees nothing of an earlier one, or of one at the same time.
func TestCallsAreIndependent(t *testing.T) {
	key, nonce, b := some(32), some(12), some(500)
	var wait sync.WaitGroup
	for n := range 8 {
		wait.Go(func() {
			for k := range 50 {
				checkBlock(t, key, nonce, n*k)
				checkMix(t, key, nonce, last-n-k, b[:n*k%64])
				checkMix(t, some(32 + n)[:32], some(12 + k)[:12], n*k, b[:n*k])
			}
		})
	}
	wait.Wait()
}
