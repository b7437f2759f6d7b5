package kdf_test

import (
	"bytes"
	"crypto/hkdf"
	"crypto/hmac"
	"crypto/sha256"
	"encoding/binary"
	"encoding/hex"
	"math"
	"slices"
	"strings"
	"sync"
	"testing"

	"ticketward/api"
	"ticketward/kdf"
	"ticketward/mac"
)

// longest is the greatest length that Expand and Label take.
const longest = 8160

// wrong are lengths that are not between 0 and 8160; some of them would be valid in fewer bits.
var wrong = []int{-1, -2, -32, -8160, 8161, 8162, 8192, 1<<16 - 1, 1 << 16, 1<<16 + 32, 1 << 32, 1<<32 + 32, -1 << 32, math.MinInt, math.MinInt + 32, math.MaxInt}

// some returns n bytes that follow a fixed rule, so that every run sees the same ones.
func some(n int) []byte {
	b := make([]byte, n)
	state := uint32(n) + 1
	for k := range b {
		state = state*1664525 + 1013904223
		b[k] = byte(state >> 24)
	}
	return b
}

// counted returns the bytes from first to last.
func counted(first, last int) []byte {
	var b []byte
	for c := first; c <= last; c++ {
		b = append(b, byte(c))
	}
	return b
}

// repeated returns n bytes of one value.
func repeated(n int, value byte) []byte {
	return bytes.Repeat([]byte{value}, n)
}

// unhex returns the bytes of published hexadecimal digits.
func unhex(t *testing.T, s string) []byte {
	t.Helper()
	b, err := hex.DecodeString(s)
	if err != nil {
		t.Fatal(err)
	}
	return b
}

// code is the library's HMAC.
func code(key []byte, parts ...[]byte) []byte {
	library := hmac.New(sha256.New, key)
	for _, part := range parts {
		library.Write(part)
	}
	return library.Sum(nil)
}

// checkExtract compares the result with the library's and returns it.
func checkExtract(t *testing.T, salt, secret []byte) api.Digest {
	t.Helper()
	want, err := hkdf.Extract(sha256.New, secret, salt)
	if err != nil {
		t.Fatal(err)
	}
	got := kdf.Extract(salt, secret)
	if got != api.Digest(want) {
		t.Errorf("Extract with a salt of %d bytes, of %d bytes = %x, want %x", len(salt), len(secret), got, want)
	}
	return got
}

// checkExpand compares the result with the library's and returns it.
func checkExpand(t *testing.T, key, info []byte, long int) []byte {
	t.Helper()
	want, err := hkdf.Expand(sha256.New, key, string(info), long)
	if err != nil {
		t.Fatal(err)
	}
	got, errno := kdf.Expand(key, info, long)
	if errno != api.OK || !bytes.Equal(got, want) {
		t.Errorf("Expand of %d bytes, with %d bytes, to %d = %x and error %d, want %x", len(key), len(info), long, got, errno, want)
	}
	return got
}

// labelInfo is the info of a label, made byte by byte.
func labelInfo(label string, context []byte, long int) []byte {
	info := binary.BigEndian.AppendUint16(nil, uint16(long))
	info = append(info, byte(6+len(label)))
	info = append(info, "tls13 "...)
	info = append(info, label...)
	info = append(info, byte(len(context)))
	return append(info, context...)
}

// checkLabel compares the result with the library's and returns it.
func checkLabel(t *testing.T, key []byte, label string, context []byte, long int) []byte {
	t.Helper()
	want, err := hkdf.Expand(sha256.New, key, string(labelInfo(label, context, long)), long)
	if err != nil {
		t.Fatal(err)
	}
	got, errno := kdf.Label(key, label, context, long)
	if errno != api.OK || !bytes.Equal(got, want) {
		t.Errorf("Label %q with %d bytes, to %d = %x and error %d, want %x", label, len(context), long, got, errno, want)
	}
	return got
}

// schedule is what Steps is to return, computed by the library.
func schedule(t *testing.T, inputs [][]byte) []api.Digest {
	t.Helper()
	var out []api.Digest
	salt := make([]byte, 32)
	for _, input := range inputs {
		if len(input) == 0 {
			input = make([]byte, 32)
		}
		sum := code(salt, input)
		out = append(out, api.Digest(sum))
		salt = code(sum, []byte("\x00\x20\x0dtls13 derived\x00"), []byte{1})
	}
	return out
}

// checkSteps compares the result with the library's and returns it.
func checkSteps(t *testing.T, inputs [][]byte) []api.Digest {
	t.Helper()
	want := schedule(t, inputs)
	got, err := kdf.Steps(inputs)
	if err != api.OK || !slices.Equal(got, want) {
		t.Errorf("Steps of %d inputs = %x and error %d, want %x", len(inputs), got, err, want)
	}
	return got
}

// G1: Extract and Expand, the published keys of RFC 5869.
func TestPublishedKeys(t *testing.T) {
	for _, c := range []struct {
		name               string
		secret, salt, info []byte
		long               int
		extracted          string
		expanded           string
	}{
		{"ordinary", repeated(22, 11), counted(0, 12), counted(0xf0, 0xf9), 42,
			"077709362c2e32df0ddc3f0dc47bba6390b6c73bb50f9c3122ec844ad7c2b3e5",
			"3cb25f25faacd57a90434f64d0362f2a2d2d0a90cf1a5a4c5db02d56ecc4c5bf34007208d5b887185865"},
		{"longer", counted(0, 0x4f), counted(0x60, 0xaf), counted(0xb0, 0xff), 82,
			"06a6b88c5853361a06104c9ceb35b45cef760014904671014a193f40c15fc244",
			"b11e398dc80327a1c8e7f78c596a49344f012eda2d4efad8a050cc4c19afa97c59045a99cac7827271cb41c65e590e09da3275600c2f09b8367793a9aca3db71cc30c58179ec3e87c14c01d5c1f3434f1d87"},
		{"no salt, no info", repeated(22, 11), nil, nil, 42,
			"19ef24a32c717b167f33a91d6f648bdf96596776afdb6377ac434c1c293ccb04",
			"8da4e775a563c18f715f802a063c5a31b8a11f5c5ee1879ec3454e5f3c738d2d9d201395faa4b61a96c8"},
	} {
		key := checkExtract(t, c.salt, c.secret)
		if hex.EncodeToString(key[:]) != c.extracted {
			t.Errorf("%s: Extract = %x, want %s", c.name, key, c.extracted)
		}
		if got := checkExpand(t, key[:], c.info, c.long); hex.EncodeToString(got) != c.expanded {
			t.Errorf("%s: Expand = %x, want %s", c.name, got, c.expanded)
		}
	}
}

// G1: Extract is the code of the secret under the salt, of salts on both sides of a block.
func TestExtract(t *testing.T) {
	for size := range 140 {
		for _, n := range []int{0, 1, 31, 32, 33, 55, 56, 63, 64, 65, 300} {
			salt, secret := some(size), some(n)
			if got := checkExtract(t, salt, secret); got != mac.Sum(salt, secret) {
				t.Errorf("Extract with a salt of %d bytes, of %d bytes is not the code", size, n)
			}
		}
	}
	if checkExtract(t, some(20), some(30)) == checkExtract(t, some(30), some(20)) {
		t.Error("salt and secret can be exchanged")
	}
}

// G1: Extract, the published key of RFC 8448 for the secret that its parties agree on.
func TestPublishedExtract(t *testing.T) {
	salt := unhex(t, "6f2615a108c702c5678f54fc9dbab69716c076189c48250cebeac3576c3611ba")
	secret := unhex(t, "8bd4054fb55b9d63fdfbacf9f04b9f0d35e6d63f537563efd46272900f89492d")
	got := checkExtract(t, salt, secret)
	if want := "1dc826e93606aa6fdc0aadc12f741b01046aa6b99f691ed221a9f0ca043fbeac"; hex.EncodeToString(got[:]) != want {
		t.Errorf("Extract = %x, want %s", got, want)
	}
}

// G1: Extract, an empty salt stands for 32 zero bytes, but an empty secret for itself.
func TestExtractEmpty(t *testing.T) {
	for n := range 100 {
		want := api.Digest(code(make([]byte, 32), some(n)))
		for _, salt := range [][]byte{nil, {}, some(5)[:0], make([]byte, 32)} {
			if got := checkExtract(t, salt, some(n)); got != want {
				t.Errorf("a salt of %d bytes: Extract of %d bytes = %x, want %x", len(salt), n, got, want)
			}
		}
	}
	for _, salt := range [][]byte{nil, some(32)} {
		if checkExtract(t, salt, nil) == checkExtract(t, salt, make([]byte, 32)) {
			t.Error("an empty secret stands for zeros")
		}
	}
}

// G1: Expand, each code that it may need, computed here one by one.
func TestExpandCodes(t *testing.T) {
	for _, size := range []int{0, 1, 32, 64, 65} {
		key, info := some(size), some(size+7)
		var want, last []byte
		for n := 1; n <= 255; n++ {
			last = code(key, last, info, []byte{byte(n)})
			want = append(want, last...)
		}
		if got, err := kdf.Expand(key, info, longest); err != api.OK || !bytes.Equal(got, want) {
			t.Errorf("a key of %d bytes: %d bytes and error %d", size, len(got), err)
		}
	}
}

// G1: Expand, to every length: shorter keys are prefixes of longer ones.
func TestExpandEveryLength(t *testing.T) {
	key, info := some(32), some(10)
	whole := checkExpand(t, key, info, longest)
	for long := range longest + 1 {
		if long > 600 && long < longest-70 && long%97 != 0 {
			continue
		}
		got, err := kdf.Expand(key, info, long)
		if err != api.OK || len(got) != long || !bytes.Equal(got, whole[:long]) {
			t.Errorf("Expand to %d: %d bytes and error %d", long, len(got), err)
		}
	}
}

// G1: Expand, with infos and keys of every length.
func TestExpandEveryInfo(t *testing.T) {
	for n := range 200 {
		for _, long := range []int{1, 31, 32, 33, 64, 100} {
			checkExpand(t, some(32), some(n), long)
			checkExpand(t, some(n), some(32), long)
			checkExpand(t, repeated(n, 1), repeated(n, 1), long)
		}
	}
	checkExpand(t, some(1<<16), some(1<<16), 1000)
	one, two := checkExpand(t, some(32), []byte{1}, 64), checkExpand(t, some(32), nil, 64)
	if bytes.Equal(one[32:], two[32:]) || bytes.Equal(one[:32], two[:32]) || bytes.Equal(one[:32], two[32:]) {
		t.Error("the counter can be taken for the info")
	}
}

// G1: Expand, its error, on both sides of the limits.
func TestExpandErrors(t *testing.T) {
	for _, key := range [][]byte{nil, some(32), some(100)} {
		for _, info := range [][]byte{nil, some(10), some(9000)} {
			for _, long := range wrong {
				if got, err := kdf.Expand(key, info, long); err != api.ErrRange || len(got) != 0 {
					t.Errorf("Expand to %d: %d bytes and error %d", long, len(got), err)
				}
			}
			for _, long := range []int{0, 1, longest - 1, longest} {
				if got := checkExpand(t, key, info, long); len(got) != long {
					t.Errorf("Expand to %d: %d bytes", long, len(got))
				}
			}
		}
	}
}

// G2: Label, the published keys of RFC 8448.
func TestPublishedLabels(t *testing.T) {
	nothing := sha256.Sum256(nil)
	secret := "b67b7d690cc16c4e75e54213cb2d37b4e9c912bcded9105d42befd59d391ad38"
	for _, c := range []struct {
		key, label string
		context    []byte
		want       string
	}{
		{"33ad0a1c607ec03b09e6cd9893680ce210adf300aa1f2660e1b22e10f170f92a", "derived", nothing[:],
			"6f2615a108c702c5678f54fc9dbab69716c076189c48250cebeac3576c3611ba"},
		{"1dc826e93606aa6fdc0aadc12f741b01046aa6b99f691ed221a9f0ca043fbeac", "derived", nothing[:],
			"43de77e0c77713859a944db9db2590b53190a65b3ee2e4f12dd7a0bb7ce254b4"},
		{secret, "key", nil, "3fce516009c21727d0f2e4e86ee403bc"},
		{secret, "iv", nil, "5d313eb2671276ee13000b30"},
		{secret, "finished", nil, "008d3b66f816ea559f96b537e885c31fc068bf492c652f01f288a1d8cdc19fc8"},
	} {
		got := checkLabel(t, unhex(t, c.key), c.label, c.context, len(c.want)/2)
		if hex.EncodeToString(got) != c.want {
			t.Errorf("Label %q = %x, want %s", c.label, got, c.want)
		}
	}
}

// G2: Label, with labels and contexts of every length, and any bytes in them.
func TestLabelEveryLength(t *testing.T) {
	for n := range 250 {
		checkLabel(t, some(32), string(some(n)), some(n%40), 32)
		checkLabel(t, some(n), strings.Repeat("x", n), some(249-n), n)
	}
	for n := range 256 {
		checkLabel(t, some(32), "label", some(n), 32)
		checkLabel(t, some(32), string([]byte{byte(n)}), []byte{byte(n)}, n)
	}
	checkLabel(t, some(32), string(some(249)), some(255), longest)
}

// G2: Label, to every length, both bytes of which count: shorter results are no prefixes of longer ones.
func TestLabelLengths(t *testing.T) {
	key := some(32)
	for long := range 600 {
		checkLabel(t, key, "key", some(3), long)
	}
	for _, long := range []int{0x1000, 0x1001, 0x1010, 0x1f00, 0x1fdf, longest - 1, longest} {
		checkLabel(t, key, "key", some(3), long)
	}
	seen := map[string]bool{}
	for long := 16; long < 1100; long++ {
		start := string(checkLabel(t, key, "key", nil, long)[:16])
		if seen[start] {
			t.Errorf("a result of %d bytes starts as a shorter one", long)
		}
		seen[start] = true
	}
}

// G2: where the label ends and where the context starts counts.
func TestLabelParts(t *testing.T) {
	seen := map[string]bool{}
	letters := "abcdefgh"
	for n := range len(letters) + 1 {
		seen[string(checkLabel(t, some(32), letters[:n], []byte(letters[n:]), 32))] = true
	}
	seen[string(checkLabel(t, some(32), "tls13 ", nil, 32))] = true
	seen[string(checkLabel(t, some(32), "tls13", nil, 32))] = true
	seen[string(checkLabel(t, some(32), "", nil, 32))] = true
	seen[string(checkLabel(t, some(32), "\x00", nil, 32))] = true
	seen[string(checkLabel(t, some(32), "", []byte{0}, 32))] = true
	if len(seen) != len(letters)+6 {
		t.Errorf("only %d different keys", len(seen))
	}
}

// G2: Label, its errors on both sides of the limits, and their order.
func TestLabelErrors(t *testing.T) {
	for _, label := range []int{0, 1, 7, 248, 249, 250, 251, 255, 256, 506, 1 << 16, 1<<16 + 1} {
		for _, context := range []int{0, 1, 32, 254, 255, 256, 257, 512, 1 << 16} {
			for _, long := range append([]int{0, 32, longest}, wrong...) {
				want := api.OK
				switch {
				case slices.Contains(wrong, long):
					want = api.ErrRange
				case label > 249, context > 255:
					want = api.ErrFull
				default:
					checkLabel(t, some(32), string(some(label)), some(context), long)
				}
				got, err := kdf.Label(some(32), string(some(label)), some(context), long)
				if err != want || err != api.OK && len(got) != 0 {
					t.Errorf("a label of %d bytes, a context of %d, to %d: %d bytes and error %d, want error %d", label, context, long, len(got), err, want)
				}
			}
		}
	}
}

// G2: Steps, the first keys as in RFC 8448, the later ones by other functions.
func TestStepsPublished(t *testing.T) {
	got := checkSteps(t, [][]byte{nil, some(32), nil})
	if want := "33ad0a1c607ec03b09e6cd9893680ce210adf300aa1f2660e1b22e10f170f92a"; hex.EncodeToString(got[0][:]) != want {
		t.Errorf("the first key = %x, want %s", got[0], want)
	}
	for k, input := range [][]byte{some(32), make([]byte, 32)} {
		salt, err := kdf.Label(got[k][:], "derived", nil, 32)
		if want := kdf.Extract(salt, input); err != api.OK || got[k+1] != want {
			t.Errorf("key %d = %x, want %x", k+1, got[k+1], want)
		}
	}
}

// G2: Steps, with inputs of any number and length: fewer inputs lead to the first results of more.
func TestSteps(t *testing.T) {
	inputs := make([][]byte, 60)
	for k := range inputs {
		inputs[k] = some(k * 7 % 150)
	}
	whole := checkSteps(t, inputs)
	for n := range len(inputs) {
		if got := checkSteps(t, inputs[:n]); !slices.Equal(got, whole[:n]) {
			t.Errorf("%d inputs: %x, want %x", n, got, whole[:n])
		}
	}
	for k := range inputs {
		changed := slices.Clone(inputs)
		changed[k] = some(200)
		got := checkSteps(t, changed)
		for j := range got {
			if same := got[j] == whole[j]; same != (j < k) {
				t.Errorf("another input %d: key %d is the same: %v", k, j, same)
			}
		}
	}
}

// G2: Steps, an empty input stands for 32 zero bytes, at every place.
func TestStepsEmptyInputs(t *testing.T) {
	zeros := make([]byte, 32)
	for n := 1; n < 10; n++ {
		want := checkSteps(t, slices.Repeat([][]byte{zeros}, n))
		for _, empty := range [][]byte{nil, {}, some(3)[:0]} {
			if got := checkSteps(t, slices.Repeat([][]byte{empty}, n)); !slices.Equal(got, want) {
				t.Errorf("%d empty inputs: %x, want %x", n, got, want)
			}
		}
	}
	for size := range 70 {
		for _, before := range [][][]byte{nil, {some(5)}, {some(5), nil}} {
			want := schedule(t, slices.Concat(before, [][]byte{nil}))
			got := checkSteps(t, slices.Concat(before, [][]byte{make([]byte, size)}))
			if same := slices.Equal(got, want); same != (size == 0 || size == 32) {
				t.Errorf("%d zeros as input %d stand for an empty one: %v", size, len(before), same)
			}
		}
	}
}

// G2: Steps, its error, on both sides of the limit.
func TestStepsErrors(t *testing.T) {
	for _, inputs := range [][][]byte{nil, {}} {
		if got, err := kdf.Steps(inputs); err != api.OK || len(got) != 0 {
			t.Errorf("no inputs: %x and error %d", got, err)
		}
	}
	inputs := slices.Repeat([][]byte{some(9), nil}, api.MaxOps)
	for _, n := range []int{api.MaxOps - 1, api.MaxOps} {
		seen := map[api.Digest]bool{}
		for _, key := range checkSteps(t, inputs[:n]) {
			seen[key] = true
		}
		if len(seen) != n {
			t.Errorf("%d different keys of %d", len(seen), n)
		}
	}
	for _, n := range []int{api.MaxOps + 1, api.MaxOps + 2, 2 * api.MaxOps} {
		if got, err := kdf.Steps(inputs[:n]); err != api.ErrRange || len(got) != 0 {
			t.Errorf("%d inputs: %d keys and error %d", n, len(got), err)
		}
	}
}

// AA3: nil and empty arguments are the same.
func TestEmptyArguments(t *testing.T) {
	for _, key := range [][]byte{nil, {}} {
		for _, b := range [][]byte{nil, {}} {
			checkExtract(t, key, b)
			for _, long := range []int{0, 1, 100} {
				checkExpand(t, key, b, long)
				checkLabel(t, key, "", b, long)
			}
		}
	}
}

// AA2: arguments stay as they are, and what lies beyond their length is neither read nor modified.
func TestArgumentsStay(t *testing.T) {
	for _, size := range []int{0, 1, 20, 32, 64, 65, 130} {
		key, b := some(300), some(400)
		inputs := [][]byte{b[:size], key[:size], b[size : 2*size], some(7)}
		exactly := func(b []byte) []byte { return slices.Clip(slices.Clone(b)) }
		wantSum := kdf.Extract(exactly(key[:size]), exactly(b[:size]))
		wantKey, _ := kdf.Expand(exactly(key[:size]), exactly(b[:size]), 100)
		wantLabel, _ := kdf.Label(exactly(key[:size]), "label", exactly(b[:size]), 100)
		wantSteps := schedule(t, inputs[:3])
		if checkExtract(t, key[:size], b[:size]) != wantSum ||
			!bytes.Equal(checkExpand(t, key[:size], b[:size], 100), wantKey) ||
			!bytes.Equal(checkLabel(t, key[:size], "label", b[:size], 100), wantLabel) ||
			!slices.Equal(checkSteps(t, inputs[:3]), wantSteps) {
			t.Errorf("%d bytes: a result depends on what follows an argument", size)
		}
		if !bytes.Equal(key, some(300)) || !bytes.Equal(b, some(400)) || !bytes.Equal(inputs[3], some(7)) || len(inputs[0]) != size {
			t.Errorf("%d bytes: an argument was modified", size)
		}
	}
}

// AA2: results share no memory with arguments, and none with each other.
func TestResultsAreNew(t *testing.T) {
	key, b := some(32), some(40)
	expanded, _ := kdf.Expand(key, b, 50)
	again, _ := kdf.Expand(key, b, 50)
	labelled, _ := kdf.Label(key, "label", b, 50)
	steps, _ := kdf.Steps([][]byte{key, b})
	more, _ := kdf.Steps([][]byte{key, b})
	kept, label, keys := slices.Clone(expanded), slices.Clone(labelled), slices.Clone(steps)
	for _, other := range [][]byte{key, b, again[:cap(again)]} {
		for k := range other {
			other[k] ^= 255
		}
	}
	more[0], more[1] = api.Digest{}, api.Digest{}
	if !bytes.Equal(expanded, kept) || !bytes.Equal(labelled, label) || !slices.Equal(steps, keys) {
		t.Error("a result shares memory with an argument or another result")
	}
}

// AA2: arguments may share memory: one slice as key, info, context and inputs.
func TestSharedArguments(t *testing.T) {
	both := some(80)
	checkExtract(t, both, both)
	checkExpand(t, both, both, 200)
	checkExpand(t, both[:32], both[20:], 200)
	checkLabel(t, both, string(both), both, 200)
	checkSteps(t, [][]byte{both, both, both[:40], both[20:60]})
	if !bytes.Equal(both, some(80)) {
		t.Error("an argument was modified")
	}
}

// AA1: a call sees nothing of an earlier one, or of one at the same time.
func TestCallsAreIndependent(t *testing.T) {
	var wait sync.WaitGroup
	for n := range 8 {
		wait.Go(func() {
			for k := range 40 {
				checkExtract(t, some(n*k), some(n+k))
				checkExpand(t, some(n*k), some(n+k), n+k*5)
				checkLabel(t, some(n+k), string(some(n+k)), some(n*k%256), n+k*5)
				checkSteps(t, [][]byte{some(n), some(k), nil})
			}
		})
	}
	wait.Wait()
}
