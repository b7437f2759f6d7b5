package field_test

import (
	"math/big"
	"slices"
	"sync"
	"testing"

	"ticketward/api"
	"ticketward/field"
)

// pair is an operation of two operands, and one is an operation of one.
type (
	pair func(a, b api.Num) (api.Num, api.Errno)
	one  func(a api.Num) (api.Num, api.Errno)
)

// small returns n as an integer of the library.
func small(n int64) *big.Int {
	return big.NewInt(n)
}

// power returns 2^n.
func power(n int) *big.Int {
	return new(big.Int).Lsh(small(1), uint(n))
}

// prime returns 2^255 - 19.
func prime() *big.Int {
	return minus(power(255), small(19))
}

// plus returns the sum of integers, which may be negative.
func plus(x ...*big.Int) *big.Int {
	out := new(big.Int)
	for _, y := range x {
		out.Add(out, y)
	}
	return out
}

// minus returns what is left of x without y.
func minus(x, y *big.Int) *big.Int {
	return new(big.Int).Sub(x, y)
}

// times returns the product of integers.
func times(x, y *big.Int) *big.Int {
	return new(big.Int).Mul(x, y)
}

// mod returns x modulo the prime.
func mod(x *big.Int) *big.Int {
	return new(big.Int).Mod(x, prime())
}

// decimal returns the integer of a string of digits.
func decimal(t *testing.T, s string) *big.Int {
	t.Helper()
	out, ok := new(big.Int).SetString(s, 10)
	if !ok {
		t.Fatalf("%q is no integer", s)
	}
	return out
}

// num returns x as an operand. It must be below 2^256, but need not be reduced.
func num(x *big.Int) api.Num {
	var out api.Num
	x.FillBytes(out[:])
	slices.Reverse(out[:])
	return out
}

// integer returns the integer of a.
func integer(a api.Num) *big.Int {
	slices.Reverse(a[:])
	return new(big.Int).SetBytes(a[:])
}

// some returns the n-th of many operands that follow a fixed rule, so that every run sees the same ones; not all of them are reduced.
func some(n int) api.Num {
	var out api.Num
	state := uint32(n) + 1
	for k := range out {
		state = state*1664525 + 1013904223
		out[k] = byte(state >> 24)
	}
	return out
}

// reduced returns the n-th of many reduced integers.
func reduced(n int) *big.Int {
	return mod(integer(some(n)))
}

// unreduced returns integers below 2^256 that are the prime or more.
func unreduced() []*big.Int {
	out := []*big.Int{plus(power(256), small(-1)), plus(power(255), prime())}
	for k := range int64(60) {
		out = append(out, plus(prime(), small(k)), plus(power(256), small(-1-k)), plus(prime(), prime(), small(k-22)))
	}
	for k := range 255 {
		out = append(out, plus(power(255), power(k)), minus(power(256), power(k)), plus(prime(), power(k)))
	}
	return out
}

// edges returns reduced integers near the ends, near each power of two, and with words whose bits are all set, all clear or in between.
func edges() []*big.Int {
	out := []*big.Int{new(big.Int).Rsh(prime(), 1), plus(new(big.Int).Rsh(prime(), 1), small(1))}
	for k := range int64(40) {
		out = append(out, small(k), plus(prime(), small(-1-k)))
	}
	for _, k := range []int{8, 16, 31, 32, 33, 63, 64, 65, 127, 128, 129, 191, 192, 193, 247, 248, 250, 252, 253, 254} {
		x := power(k)
		y := minus(prime(), x)
		out = append(out, x, plus(x, small(1)), plus(x, small(-1)), y, plus(y, small(1)), plus(y, small(-1)))
	}
	for choice := range 256 {
		x := new(big.Int)
		for k := range 4 {
			word := [][]byte{{}, {1}, {128, 0, 0, 0, 0, 0, 0, 0}, {255, 255, 255, 255, 255, 255, 255, 255}}[choice>>(2*k)&3]
			x.Lsh(x, 64).Add(x, new(big.Int).SetBytes(word))
		}
		out = append(out, mod(x))
	}
	return out
}

// many returns the edges and other reduced integers.
func many() []*big.Int {
	out := edges()
	for k := range 60 {
		out = append(out, reduced(k))
	}
	return out
}

// checkPair compares the result of the operation of that name with the expected integer.
func checkPair(t *testing.T, name string, f pair, a, b, want *big.Int) {
	t.Helper()
	if got, err := f(num(a), num(b)); err != api.OK || got != num(want) {
		t.Errorf("%s of %d and %d = %d and error %d, want %d", name, a, b, integer(got), err, want)
	}
}

// checkPairs compares sum, difference and product with those of the library.
func checkPairs(t *testing.T, a, b *big.Int) {
	t.Helper()
	checkPair(t, "Add", field.Add, a, b, mod(plus(a, b)))
	checkPair(t, "Sub", field.Sub, a, b, mod(minus(a, b)))
	checkPair(t, "Mul", field.Mul, a, b, mod(times(a, b)))
}

// checkOne compares the result of the operation of that name with the expected integer, or with ErrNone if that is nil.
func checkOne(t *testing.T, name string, f one, a, want *big.Int) {
	t.Helper()
	got, err := f(num(a))
	switch {
	case want == nil && (err != api.ErrNone || got != api.Num{}):
		t.Errorf("%s of %d = %d and error %d, want none", name, a, integer(got), err)
	case want != nil && (err != api.OK || got != num(want)):
		t.Errorf("%s of %d = %d and error %d, want %d", name, a, integer(got), err, want)
	}
}

// checkInv compares the inverse with that of the library.
func checkInv(t *testing.T, a *big.Int) {
	t.Helper()
	checkOne(t, "Inv", field.Inv, a, new(big.Int).ModInverse(a, prime()))
}

// checkRoot compares the root with the even one of the library, and reports whether there is one.
func checkRoot(t *testing.T, a *big.Int) bool {
	t.Helper()
	want := new(big.Int).ModSqrt(a, prime())
	if want != nil && want.Bit(0) == 1 {
		want = minus(prime(), want)
	}
	checkOne(t, "Root", field.Root, a, want)
	return want != nil
}

// K1: Right, on both sides of the prime and of what differs from it in one place.
func TestRight(t *testing.T) {
	check := func(x *big.Int) {
		t.Helper()
		if got, want := field.Right(num(x)), x.Cmp(prime()) < 0; got != want {
			t.Errorf("Right of %x = %v", x, got)
		}
	}
	for k := range int64(100) {
		check(small(k))
		check(plus(prime(), small(k)))
		check(plus(prime(), small(-k)))
		check(plus(power(256), small(-1-k)))
	}
	for k := range 255 {
		check(power(k))
		check(plus(power(255), power(k)))
		check(plus(prime(), power(k)))
		check(minus(prime(), power(k)))
		check(new(big.Int).SetBit(prime(), k, 1-prime().Bit(k)))
	}
	check(power(255))
	for _, x := range slices.Concat(many(), unreduced()) {
		check(x)
	}
	for k := range 2000 {
		check(integer(some(k)))
	}
}

// K1: the first byte is the least one, the last one the greatest.
func TestOrder(t *testing.T) {
	for _, c := range []struct {
		a     api.Num
		right bool
	}{
		{api.Num{128}, true},
		{api.Num{255}, true},
		{api.Num{31: 127}, true},
		{api.Num{31: 128}, false},
		{api.Num{31: 255}, false},
	} {
		if got := field.Right(c.a); got != c.right {
			t.Errorf("Right of %v = %v", c.a, got)
		}
	}
	if got, err := field.Add(api.Num{255}, api.Num{1}); err != api.OK || got != (api.Num{1: 1}) {
		t.Errorf("Add of 255 and 1 = %v and error %d", got, err)
	}
	if got, err := field.Sub(api.Num{31: 1}, api.Num{30: 1}); err != api.OK || got != (api.Num{30: 255}) {
		t.Errorf("Sub of 2^248 and 2^240 = %v and error %d", got, err)
	}
	if got, err := field.Mul(api.Num{1: 1}, api.Num{30: 1}); err != api.OK || got != (api.Num{31: 1}) {
		t.Errorf("Mul of 2^8 and 2^240 = %v and error %d", got, err)
	}
	if got, err := field.Mul(api.Num{16: 1}, api.Num{16: 1}); err != api.OK || got != (api.Num{38}) {
		t.Errorf("Mul of 2^128 and itself = %v and error %d", got, err)
	}
}

// K1: the constants and base points of edwards25519 and Curve25519, and a half.
func TestKnownNumbers(t *testing.T) {
	d := decimal(t, "37095705934669439343138083508754565189542113879843219016388785533085940283555")
	y := decimal(t, "46316835694926478169428394003475163141307993866256225615783033603165251855960")
	x := decimal(t, "15112221349535400772501151409588531511454012693041857206046113283949847762202")
	v := decimal(t, "14781619447589544791020593568409986887264606134616475288964881837755586237401")
	i := decimal(t, "19681161376707505956807079304988542015446066515923890162744021073123829784752")
	half := decimal(t, "28948022309329048855892746252171976963317496166410141009864396001978282409975")
	last := minus(prime(), small(1))

	checkOne(t, "Inv", field.Inv, small(121666), plus(d, small(1)))
	checkPair(t, "Mul", field.Mul, d, small(121666), minus(prime(), small(121665)))
	checkPair(t, "Mul", field.Mul, y, small(5), small(4))
	checkOne(t, "Inv", field.Inv, small(2), half)
	checkOne(t, "Root", field.Root, last, i)
	checkPair(t, "Mul", field.Mul, i, i, last)

	square := mod(times(y, y))
	under := mod(plus(times(d, square), small(1)))
	inverse, err := field.Inv(num(under))
	if err != api.OK {
		t.Fatalf("Inv = error %d", err)
	}
	quotient, err := field.Mul(num(plus(square, small(-1))), inverse)
	if err != api.OK {
		t.Fatalf("Mul = error %d", err)
	}
	checkOne(t, "Root", field.Root, integer(quotient), x)
	checkOne(t, "Root", field.Root, small(9*9*9+486662*9*9+9), minus(prime(), v))
	checkOne(t, "Root", field.Root, minus(prime(), small(486664)),
		decimal(t, "6853475219497561581579357271197624642482790079785650197046958215289687604742"))
}

// K1: Add, Sub and Mul, of every two edges.
func TestPairs(t *testing.T) {
	all := edges()
	for _, a := range all {
		for _, b := range all {
			checkPairs(t, a, b)
		}
	}
}

// K1: Add, Sub and Mul, of many operands.
func TestManyPairs(t *testing.T) {
	for k := range 20000 {
		checkPairs(t, reduced(k), reduced(7*k+100000))
	}
	for k := range 255 {
		for j := range 255 {
			checkPair(t, "Mul", field.Mul, power(k), power(j), mod(power(k+j)))
		}
		checkPairs(t, power(k), reduced(k))
		checkPairs(t, reduced(k), power(k))
	}
}

// K1: Add and Sub, with sums and differences on both sides of 0 and of the prime.
func TestSums(t *testing.T) {
	for _, a := range many() {
		for k := int64(-45); k <= 45; k++ {
			checkPairs(t, a, mod(minus(small(k), a)))
			checkPairs(t, a, mod(plus(a, small(k))))
		}
	}
}

// K1: Mul, with each remainder near 0 and near the prime, of factors of every size: these products pass the prime by the least or miss it.
func TestProducts(t *testing.T) {
	factors := []*big.Int{small(2), small(19), small(38), power(128), power(254), plus(prime(), small(-1)), plus(prime(), small(-2))}
	for k := range 6 {
		factors = append(factors, reduced(k))
	}
	for _, a := range factors {
		inverse := new(big.Int).ModInverse(a, prime())
		for k := int64(-200); k < 1700; k++ {
			want := mod(small(k))
			b := mod(times(inverse, want))
			checkPair(t, "Mul", field.Mul, a, b, want)
			checkPair(t, "Mul", field.Mul, b, a, want)
		}
	}
}

// K1: Inv, of edges, of all small numbers and their negatives, and of many others.
func TestInv(t *testing.T) {
	for _, a := range many() {
		checkInv(t, a)
	}
	for k := range int64(1000) {
		checkInv(t, small(k))
		checkInv(t, plus(prime(), small(-1-k)))
		checkInv(t, reduced(int(k)+1000))
	}
	for k := range 255 {
		checkInv(t, power(k))
	}
	checkOne(t, "Inv", field.Inv, small(0), nil)
	checkOne(t, "Inv", field.Inv, small(1), small(1))
}

// K1: Root, of edges, of all small numbers and their negatives, and of many others, about half of which have a root.
func TestRoot(t *testing.T) {
	var all []*big.Int
	for k := range int64(1000) {
		all = append(all, small(k), plus(prime(), small(-1-k)), reduced(int(k)+1000))
	}
	for k := range 255 {
		all = append(all, power(k))
	}
	all = append(all, many()...)
	roots := 0
	for _, a := range all {
		if checkRoot(t, a) {
			roots++
		}
	}
	if roots < 1000 || len(all)-roots < 1000 {
		t.Errorf("%d of %d numbers have roots", roots, len(all))
	}
	checkOne(t, "Root", field.Root, small(0), small(0))
	checkOne(t, "Root", field.Root, small(1), plus(prime(), small(-1)))
	checkOne(t, "Root", field.Root, small(2), nil)
	checkOne(t, "Root", field.Root, small(4), small(2))
	checkOne(t, "Root", field.Root, small(9), plus(prime(), small(-3)))
}

// K1: Root, of a square, is the even one of its two roots; twice a square has none.
func TestRootOfSquares(t *testing.T) {
	for _, a := range many() {
		want := a
		if a.Bit(0) == 1 {
			want = minus(prime(), a)
		}
		square := mod(times(a, a))
		checkOne(t, "Root", field.Root, square, want)
		if a.Sign() != 0 {
			checkOne(t, "Root", field.Root, mod(plus(square, square)), nil)
		}
	}
}

// K1: ErrRange comes first, whichever operand is not reduced, and though it may be 0 or no square modulo the prime.
func TestRangeErrors(t *testing.T) {
	others := append(unreduced()[:8], small(0), small(1), small(2), plus(prime(), small(-1)), reduced(5))
	for _, x := range unreduced() {
		a := num(x)
		for name, f := range map[string]pair{"Add": field.Add, "Sub": field.Sub, "Mul": field.Mul} {
			for _, y := range others {
				if got, err := f(a, num(y)); err != api.ErrRange || got != (api.Num{}) {
					t.Errorf("%s of %x and %x = %v and error %d", name, x, y, got, err)
				}
				if got, err := f(num(y), a); err != api.ErrRange || got != (api.Num{}) {
					t.Errorf("%s of %x and %x = %v and error %d", name, y, x, got, err)
				}
			}
		}
		for name, f := range map[string]one{"Inv": field.Inv, "Root": field.Root} {
			if got, err := f(a); err != api.ErrRange || got != (api.Num{}) {
				t.Errorf("%s of %x = %v and error %d", name, x, got, err)
			}
		}
	}
}

// must returns the result of an operation that cannot fail.
func must(t *testing.T) func(a api.Num, err api.Errno) api.Num {
	return func(a api.Num, err api.Errno) api.Num {
		t.Helper()
		if err != api.OK || !field.Right(a) {
			t.Fatalf("a result is %v and error %d", a, err)
		}
		return a
	}
}

// K1: the axioms of a field.
func TestAxioms(t *testing.T) {
	ok := must(t)
	zero, unit := api.Num{}, api.Num{1}
	all := many()
	for k := range all {
		a, b, c := num(all[k]), num(all[(k+7)%len(all)]), num(all[(k*k+3)%len(all)])
		for _, same := range [][2]api.Num{
			{ok(field.Add(a, b)), ok(field.Add(b, a))},
			{ok(field.Mul(a, b)), ok(field.Mul(b, a))},
			{ok(field.Add(ok(field.Add(a, b)), c)), ok(field.Add(a, ok(field.Add(b, c))))},
			{ok(field.Mul(ok(field.Mul(a, b)), c)), ok(field.Mul(a, ok(field.Mul(b, c))))},
			{ok(field.Mul(a, ok(field.Add(b, c)))), ok(field.Add(ok(field.Mul(a, b)), ok(field.Mul(a, c))))},
			{ok(field.Mul(a, ok(field.Sub(b, c)))), ok(field.Sub(ok(field.Mul(a, b)), ok(field.Mul(a, c))))},
			{ok(field.Sub(ok(field.Add(a, b)), b)), a},
			{ok(field.Add(ok(field.Sub(a, b)), b)), a},
			{ok(field.Sub(a, b)), ok(field.Sub(zero, ok(field.Sub(b, a))))},
			{ok(field.Add(a, zero)), a},
			{ok(field.Sub(a, a)), zero},
			{ok(field.Mul(a, unit)), a},
			{ok(field.Mul(a, zero)), zero},
		} {
			if same[0] != same[1] {
				t.Errorf("%v and %v should be the same", same[0], same[1])
			}
		}
		if a == zero {
			continue
		}
		if inverse := ok(field.Inv(a)); ok(field.Mul(a, inverse)) != unit || ok(field.Inv(inverse)) != a {
			t.Errorf("the inverse of %v is %v", a, inverse)
		}
	}
}

// AA1: a call sees nothing of an earlier one, or of one at the same time.
func TestCallsAreIndependent(t *testing.T) {
	var wait sync.WaitGroup
	for n := range 8 {
		wait.Go(func() {
			for k := range 200 {
				checkPairs(t, reduced(n), reduced(k))
				checkInv(t, reduced(n*k))
				checkRoot(t, reduced(n+k))
			}
		})
	}
	wait.Wait()
}
