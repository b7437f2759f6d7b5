package curve_test

import (
	"crypto/ecdh"
	"crypto/ed25519"
	"crypto/sha512"
	"encoding/hex"
	"math/big"
	"slices"
	"sync"
	"testing"

	"ticketward/api"
	"ticketward/curve"
)

// place is a point with coordinates of the library's large integers. Its functions compute as the document says, one fraction after the other.
type place struct{ x, y *big.Int }

// small returns n as an integer of the library.
func small(n int64) *big.Int {
	return big.NewInt(n)
}

// power returns 2^n.
func power(n int) *big.Int {
	return new(big.Int).Lsh(small(1), uint(n))
}

// plus returns the sum of integers, which may be negative.
func plus(x ...*big.Int) *big.Int {
	out := new(big.Int)
	for _, y := range x {
		out.Add(out, y)
	}
	return out
}

// minus returns what is left of x without y.
func minus(x, y *big.Int) *big.Int {
	return new(big.Int).Sub(x, y)
}

// prime returns 2^255 - 19.
var prime = sync.OnceValue(func() *big.Int {
	return minus(power(255), small(19))
})

// order returns the order of the base point.
func order() *big.Int {
	c, _ := new(big.Int).SetString("27742317777372353535851937790883648493", 10)
	return plus(power(252), c)
}

// mod returns x modulo the prime.
func mod(x *big.Int) *big.Int {
	return new(big.Int).Mod(x, prime())
}

// times returns the product of integers modulo the prime.
func times(x ...*big.Int) *big.Int {
	out := small(1)
	for _, y := range x {
		out = mod(out.Mul(out, y))
	}
	return out
}

// over returns x divided by y modulo the prime.
func over(x, y *big.Int) *big.Int {
	return times(x, new(big.Int).ModInverse(mod(y), prime()))
}

// factor returns D.
var factor = sync.OnceValue(func() *big.Int {
	return over(small(-121665), small(121666))
})

// even returns the even one of x and its negative.
func even(x *big.Int) *big.Int {
	if x.Bit(0) == 1 {
		return minus(prime(), x)
	}
	return x
}

// num returns the number of x, which must be below 2^256, but need not be reduced.
func num(x *big.Int) api.Num {
	var out api.Num
	x.FillBytes(out[:])
	slices.Reverse(out[:])
	return out
}

// integer returns the integer of a.
func integer(a api.Num) *big.Int {
	slices.Reverse(a[:])
	return new(big.Int).SetBytes(a[:])
}

// some returns the n-th of many numbers that follow a fixed rule, so that every run sees the same ones; not all of them are reduced.
func some(n int) api.Num {
	var out api.Num
	state := uint32(n) + 1
	for k := range out {
		state = state*1664525 + 1013904223
		out[k] = byte(state >> 24)
	}
	return out
}

func (p place) point() api.Point {
	return api.Point{X: num(p.x), Y: num(p.y)}
}

// read returns the place of a point.
func read(p api.Point) place {
	return place{integer(p.X), integer(p.Y)}
}

func (p place) on() bool {
	if p.x.Cmp(prime()) >= 0 || p.y.Cmp(prime()) >= 0 {
		return false
	}
	x, y := times(p.x, p.x), times(p.y, p.y)
	return mod(minus(y, x)).Cmp(mod(plus(small(1), times(factor(), x, y)))) == 0
}

func (p place) add(q place) place {
	t := times(factor(), p.x, q.x, p.y, q.y)
	return place{
		over(plus(times(p.x, q.y), times(q.x, p.y)), plus(small(1), t)),
		over(plus(times(p.y, q.y), times(p.x, q.x)), minus(small(1), t)),
	}
}

func (p place) negative() place {
	return place{mod(minus(small(0), p.x)), p.y}
}

func neutral() place {
	return place{small(0), small(1)}
}

func (p place) times(n *big.Int) place {
	out := neutral()
	for k := n.BitLen() - 1; k >= 0; k-- {
		out = out.add(out)
		if n.Bit(k) == 1 {
			out = out.add(p)
		}
	}
	return out
}

func (p place) pack() api.Num {
	return num(plus(p.y, new(big.Int).Lsh(small(int64(p.x.Bit(0))), 255)))
}

func (p place) same(q place) bool {
	return p.x.Cmp(q.x) == 0 && p.y.Cmp(q.y) == 0
}

// lift returns the place with this y and an even x, and whether there is one.
func lift(y *big.Int) (place, bool) {
	square := times(y, y)
	x := new(big.Int).ModSqrt(over(plus(square, small(-1)), plus(times(factor(), square), small(1))), prime())
	if x == nil {
		return place{}, false
	}
	return place{even(x), y}, true
}

// side returns a place with this x, and whether there is one.
func side(x *big.Int) (place, bool) {
	square := times(x, x)
	y := new(big.Int).ModSqrt(over(plus(square, small(1)), minus(small(1), times(factor(), square))), prime())
	if y == nil {
		return place{}, false
	}
	return place{x, y}, true
}

// base returns the base point, from its definition.
func base() place {
	out, _ := lift(over(small(4), small(5)))
	return out
}

// eighths returns the 8 places whose order divides 8, each the sum of the one before it and of the second one.
func eighths() []place {
	out := []place{neutral()}
	p, _ := lift(small(3))
	p = p.times(order())
	for range 7 {
		out = append(out, p.add(out[len(out)-1]))
	}
	return out
}

// places returns places of every order, with coordinates near 0 and near the prime among them.
var places = sync.OnceValue(func() []place {
	out := eighths()
	for _, p := range eighths() {
		out = append(out, p.add(base()), p.add(base().times(integer(some(1)))))
	}
	for k := range int64(6) {
		out = append(out, base().times(small(k+1)), base().times(minus(order(), small(k+1))))
	}
	for k := range int64(24) {
		for _, c := range []*big.Int{small(k), minus(prime(), small(k+1)), mod(integer(some(int(k))))} {
			if p, ok := lift(c); ok {
				out = append(out, p, p.negative())
			}
			if p, ok := side(c); ok {
				out = append(out, p, place{p.x, mod(minus(small(0), p.y))})
			}
		}
	}
	return out
})

// few returns every n-th of places.
func few(n int) []place {
	var out []place
	for k, p := range places() {
		if k%n == 0 {
			out = append(out, p)
		}
	}
	return out
}

// numbers returns numbers of copies: near 0, near the order of the base point, near the greatest one, and others.
func numbers() []*big.Int {
	last := plus(power(256), small(-1))
	out := []*big.Int{last, minus(last, small(1)), power(255), power(254), plus(power(255), small(-1))}
	for k := int64(-2); k <= 2; k++ {
		out = append(out, plus(order(), small(k)), plus(new(big.Int).Lsh(order(), 3), small(k)), small(k+2))
	}
	for k := range 12 {
		out = append(out, integer(some(k+100)))
	}
	return out
}

// unreduced returns points that are p but for a multiple of the prime in one coordinate or in both.
func unreduced(p place) []api.Point {
	var out []api.Point
	for k := range int64(9) {
		q := place{plus(p.x, new(big.Int).Mul(small(k/3), prime())), plus(p.y, new(big.Int).Mul(small(k%3), prime()))}
		if k > 0 && q.x.BitLen() <= 256 && q.y.BitLen() <= 256 {
			out = append(out, q.point())
		}
	}
	return out
}

// strangers returns points that are not on the curve.
func strangers() []api.Point {
	out := []api.Point{
		{},
		{X: api.Num{1}},
		{X: api.Num{1}, Y: api.Num{1}},
		{X: curve.Base().Y, Y: curve.Base().X},
		{X: some(1), Y: some(2)},
		{X: num(prime()), Y: num(plus(prime(), small(1)))},
	}
	for _, p := range few(5) {
		out = append(out, unreduced(p)...)
		for k := range 32 {
			q := p.point()
			q.X[k] ^= 1 << (k % 8)
			out = append(out, q)
			q = p.point()
			q.Y[k] ^= 1 << (k % 8)
			out = append(out, q)
		}
	}
	return slices.DeleteFunc(out, func(p api.Point) bool { return read(p).on() })
}

// checkPoint compares a point and its error with the expected place.
func checkPoint(t *testing.T, name string, want place) func(got api.Point, err api.Errno) {
	return func(got api.Point, err api.Errno) {
		t.Helper()
		if err != api.OK || got != want.point() {
			t.Errorf("%s = %x and error %d, want %x", name, got, err, want.point())
		}
	}
}

// checkTimes compares n copies of p with the expected place.
func checkTimes(t *testing.T, n *big.Int, p, want place) {
	t.Helper()
	if got, err := curve.Times(num(n), p.point()); err != api.OK || got != want.point() {
		t.Errorf("Times of %x and %x = %x and error %d, want %x", n, p.point(), got, err, want.point())
	}
}

// checkUnpack compares the point of a y and of a bit with the one of the library, and reports whether there is one.
func checkUnpack(t *testing.T, y *big.Int, set bool) bool {
	t.Helper()
	b := num(y)
	p, ok := lift(y)
	want := api.OK
	switch {
	case !ok:
		want = api.ErrNone
	case set && p.x.Sign() == 0:
		want = api.ErrForm
	case set:
		p = p.negative()
	}
	if set {
		b[31] |= 128
	}
	got, err := curve.Unpack(b)
	if err != want || want == api.OK && got != p.point() || want != api.OK && got != (api.Point{}) {
		t.Errorf("Unpack of %x = %x and error %d, want error %d", b, got, err, want)
	}
	return want == api.OK
}

// fromHex returns the number with these bytes.
func fromHex(t *testing.T, s string) api.Num {
	t.Helper()
	b, err := hex.DecodeString(s)
	if err != nil || len(b) != 32 {
		t.Fatalf("%q is no number", s)
	}
	return api.Num(b)
}

// must returns the result of a call that cannot fail.
func must[T any](t *testing.T) func(got T, err api.Errno) T {
	return func(got T, err api.Errno) T {
		t.Helper()
		if err != api.OK {
			t.Fatalf("error %d", err)
		}
		return got
	}
}

// clamped returns the number of copies that a secret of a key agreement or of a signature stands for.
func clamped(b []byte) api.Num {
	out := api.Num(b)
	out[0] &^= 7
	out[31] = out[31]&127 | 64
	return out
}

// L1: On, of points and of what is one bit away from them.
func TestOn(t *testing.T) {
	check := func(p api.Point) {
		t.Helper()
		if got, want := curve.On(p), read(p).on(); got != want {
			t.Errorf("On of %x = %v", p, got)
		}
	}
	for _, p := range places() {
		if !curve.On(p.point()) {
			t.Errorf("On of %x = false", p.point())
		}
	}
	for _, p := range few(9) {
		for k := range 256 {
			q := p.point()
			q.X[k/8] ^= 1 << (k % 8)
			check(q)
			q = p.point()
			q.Y[k/8] ^= 1 << (k % 8)
			check(q)
		}
	}
	for k := range 2000 {
		check(api.Point{X: some(k), Y: some(k + 5000)})
	}
}

// L1: On, of coordinates that belong to other points, to one another, and to curves of other equations.
func TestOnMixed(t *testing.T) {
	i := new(big.Int).ModSqrt(mod(small(-1)), prime())
	for _, p := range few(3) {
		for _, q := range few(4) {
			for _, r := range []place{{p.x, q.y}, {p.y, q.x}, {p.x, q.x}, {p.y, q.y}} {
				if got := curve.On(r.point()); got != r.on() {
					t.Errorf("On of %x = %v", r.point(), got)
				}
			}
		}
		for _, r := range []place{{times(i, p.x), p.y}, {p.x, times(i, p.y)}, {p.y, p.x}, {times(i, p.y), times(i, p.x)}} {
			if got := curve.On(r.point()); got != r.on() {
				t.Errorf("On of %x = %v", r.point(), got)
			}
		}
	}
	for _, want := range []place{neutral(), {small(0), mod(small(-1))}, {i, small(0)}, {mod(minus(small(0), i)), small(0)}} {
		if !curve.On(want.point()) {
			t.Errorf("On of %x = false", want.point())
		}
	}
}

// L1: On, of coordinates that are not reduced, but would belong to a point if they were.
func TestOnReduced(t *testing.T) {
	for _, p := range places() {
		for _, q := range unreduced(p) {
			if curve.On(q) {
				t.Errorf("On of %x = true", q)
			}
		}
	}
}

// L1: Base, by its definition and by its digits.
func TestBase(t *testing.T) {
	if got := curve.Base(); got != base().point() {
		t.Errorf("Base = %x", got)
	}
	x, _ := new(big.Int).SetString("15112221349535400772501151409588531511454012693041857206046113283949847762202", 10)
	y, _ := new(big.Int).SetString("46316835694926478169428394003475163141307993866256225615783033603165251855960", 10)
	if got := curve.Base(); got != (place{x, y}).point() {
		t.Errorf("Base = %x", got)
	}
	changed := curve.Base()
	changed.X[0]++
	if curve.Base() == changed {
		t.Errorf("Base has changed")
	}
}

// L1, L2: encodings of multiples of the base point, and of the points whose order divides 8.
func TestKnownPoints(t *testing.T) {
	last := plus(power(256), small(-1))
	for _, c := range []struct {
		n    *big.Int
		want string
	}{
		{small(0), "0100000000000000000000000000000000000000000000000000000000000000"},
		{small(1), "5866666666666666666666666666666666666666666666666666666666666666"},
		{small(2), "c9a3f86aae465f0e56513864510f3997561fa2c9e85ea21dc2292309f3cd6022"},
		{small(3), "d4b4f5784868c3020403246717ec169ff79e26608ea126a1ab69ee77d1b16712"},
		{small(4), "2f1132ca61ab38dff00f2fea3228f24c6c71d58085b80e47e19515cb27e8d047"},
		{small(5), "edc876d6831fd2105d0b4389ca2e283166469289146e2ce06faefe98b22548df"},
		{small(16), "eb2767c137ab7ad8279c078eff116ab0786ead3a2e0f989f72c37f82f2969670"},
		{small(17), "04be97ec9bfe6ccd01f9343b7288b117b79f91cc45c24af2f93e0060ca2b6d6f"},
		{plus(order(), small(-1)), "58666666666666666666666666666666666666666666666666666666666666e6"},
		{order(), "0100000000000000000000000000000000000000000000000000000000000000"},
		{plus(order(), small(1)), "5866666666666666666666666666666666666666666666666666666666666666"},
		{power(255), "6e4b94a41ca8bd8c8e68ae0970e953eea2824beb01692cfd821625e07f828b41"},
		{last, "db27fe4b7a4beb8c1b8c38a21e943a852304c9bb3035a5f36626b51162a68f9c"},
	} {
		p := must[api.Point](t)(curve.Times(num(c.n), curve.Base()))
		if got, err := curve.Pack(p); err != api.OK || got != fromHex(t, c.want) {
			t.Errorf("Pack of %d times Base = %x and error %d, want %s", c.n, got, err, c.want)
		}
	}
	turn := must[api.Point](t)(curve.Unpack(fromHex(t, "c7176a703d4dd84fba3c0b760d10670f2a2053fa2c39ccc64ec7fd7792ac037a")))
	for n, want := range []string{
		"0100000000000000000000000000000000000000000000000000000000000000",
		"c7176a703d4dd84fba3c0b760d10670f2a2053fa2c39ccc64ec7fd7792ac037a",
		"0000000000000000000000000000000000000000000000000000000000000080",
		"26e8958fc2b227b045c3f489f2ef98f0d5dfac05d3c63339b13802886d53fc05",
		"ecffffffffffffffffffffffffffffffffffffffffffffffffffffffffffff7f",
		"26e8958fc2b227b045c3f489f2ef98f0d5dfac05d3c63339b13802886d53fc85",
		"0000000000000000000000000000000000000000000000000000000000000000",
		"c7176a703d4dd84fba3c0b760d10670f2a2053fa2c39ccc64ec7fd7792ac03fa",
		"0100000000000000000000000000000000000000000000000000000000000000",
	} {
		p := must[api.Point](t)(curve.Times(num(small(int64(n))), turn))
		if got, err := curve.Pack(p); err != api.OK || got != fromHex(t, want) {
			t.Errorf("Pack of %d times a point of order 8 = %x and error %d, want %s", n, got, err, want)
		}
	}
}

// L1: Add, of every two places, a place and itself or its negative among them.
func TestAdd(t *testing.T) {
	for _, p := range places() {
		for _, q := range few(3) {
			checkPoint(t, "Add", p.add(q))(curve.Add(p.point(), q.point()))
			checkPoint(t, "Add", p.add(q))(curve.Add(q.point(), p.point()))
		}
		checkPoint(t, "Add", p.add(p))(curve.Add(p.point(), p.point()))
		checkPoint(t, "Add", neutral())(curve.Add(p.point(), p.negative().point()))
		checkPoint(t, "Add", p)(curve.Add(p.point(), neutral().point()))
		checkPoint(t, "Add", p)(curve.Add(neutral().point(), p.point()))
	}
}

// L1: the axioms of a group.
func TestAxioms(t *testing.T) {
	ok := must[api.Point](t)
	all := places()
	for k := range all {
		p, q, r := all[k].point(), all[(k+7)%len(all)].point(), all[(k*k+3)%len(all)].point()
		if ok(curve.Add(p, q)) != ok(curve.Add(q, p)) {
			t.Errorf("Add of %x and %x depends on their order", p, q)
		}
		if ok(curve.Add(ok(curve.Add(p, q)), r)) != ok(curve.Add(p, ok(curve.Add(q, r)))) {
			t.Errorf("Add of %x, %x and %x depends on which comes first", p, q, r)
		}
		if ok(curve.Add(p, ok(curve.Neg(p)))) != neutral().point() {
			t.Errorf("the sum of %x and its negative is not (0, 1)", p)
		}
		if !curve.On(ok(curve.Add(p, q))) {
			t.Errorf("Add of %x and %x is not on the curve", p, q)
		}
	}
}

// L1: Neg, which leaves an X of 0 as it is.
func TestNeg(t *testing.T) {
	for _, p := range places() {
		checkPoint(t, "Neg", p.negative())(curve.Neg(p.point()))
		checkPoint(t, "Neg", p)(curve.Neg(p.negative().point()))
	}
	for _, p := range []place{neutral(), {small(0), mod(small(-1))}} {
		checkPoint(t, "Neg", p)(curve.Neg(p.point()))
	}
}

// L1: Times, of the first numbers, added up one by one.
func TestTimesSmall(t *testing.T) {
	for _, p := range few(20) {
		sum := neutral()
		for n := range int64(40) {
			checkTimes(t, small(n), p, sum)
			sum = sum.add(p)
		}
	}
}

// L1: Times, of each digit at each place, and of each bit and all bits below it.
func TestTimesDigits(t *testing.T) {
	p := base()
	for k := range 64 {
		sum := neutral()
		for digit := range int64(16) {
			checkTimes(t, new(big.Int).Lsh(small(digit), uint(4*k)), base(), sum)
			sum = sum.add(p)
		}
		p = sum
	}
	p, _ = lift(small(3))
	bit := p
	for k := range 257 {
		if k < 256 {
			checkTimes(t, power(k), p, bit)
		}
		checkTimes(t, plus(power(k), small(-1)), p, bit.add(p.negative()))
		bit = bit.add(bit)
	}
}

// L1: Times, of long numbers and of points of every order.
func TestTimesLong(t *testing.T) {
	for _, p := range few(25) {
		for _, n := range numbers() {
			checkTimes(t, n, p, p.times(n))
		}
	}
	for _, p := range eighths() {
		for _, n := range append(numbers(), small(4), small(5), small(6), small(7), small(8), small(9)) {
			checkTimes(t, n, p, p.times(new(big.Int).And(n, small(7))))
		}
	}
}

// L1: Times, of no copies, of the order of the base point, and of 8 times that, which is the number of points, so that nothing is left of any.
func TestTimesOrder(t *testing.T) {
	for _, p := range places() {
		checkTimes(t, small(0), p, neutral())
		checkTimes(t, small(1), p, p)
		checkTimes(t, new(big.Int).Lsh(order(), 3), p, neutral())
	}
	checkTimes(t, order(), base(), neutral())
	checkTimes(t, plus(order(), small(-1)), base(), base().negative())
	checkTimes(t, plus(new(big.Int).Lsh(order(), 3), small(1)), base(), base())
}

// L1: Times, of a sum or of a product of numbers.
func TestTimesOfSums(t *testing.T) {
	ok := must[api.Point](t)
	for k := range 100 {
		p := places()[k].point()
		a, b := integer(some(k)), integer(some(k+200))
		a.Rsh(a, uint(1+k))
		b.Rsh(b, uint(200-k))
		first, second := ok(curve.Times(num(a), p)), ok(curve.Times(num(b), p))
		if got := ok(curve.Times(num(plus(a, b)), p)); got != ok(curve.Add(first, second)) {
			t.Errorf("Times of %x and %x, and of their sum, is %x, %x and %x", a, b, first, second, got)
		}
		product := new(big.Int).Mul(a, b)
		if product.BitLen() > 256 {
			continue
		}
		if got := ok(curve.Times(num(b), first)); got != ok(curve.Times(num(product), p)) {
			t.Errorf("Times of %x and of %x is %x, but not that of their product", a, b, got)
		}
	}
}

// L1, L2: the library's keys of signatures are multiples of the base point.
func TestKeysOfSignatures(t *testing.T) {
	for k := range 300 {
		seed := some(k)
		hash := sha512.Sum512(seed[:])
		p := must[api.Point](t)(curve.Times(clamped(hash[:32]), curve.Base()))
		want := ed25519.NewKeyFromSeed(seed[:]).Public().(ed25519.PublicKey)
		if got, err := curve.Pack(p); err != api.OK || got != api.Num(want) {
			t.Errorf("the key of %x is %x and error %d, want %x", seed, got, err, want)
		}
		if got, err := curve.Unpack(api.Num(want)); err != api.OK || got != p {
			t.Errorf("Unpack of %x = %x and error %d, want %x", want, got, err, p)
		}
	}
}

// L1: the library's key agreement multiplies points on another form of the curve, whose u is (1 + Y)/(1 - Y). Its numbers of copies are multiples of 8, which leave nothing of a point whose order divides that.
func TestKeyAgreement(t *testing.T) {
	across := func(p place) []byte {
		out := num(over(plus(small(1), p.y), minus(small(1), p.y)))
		return out[:]
	}
	for k, p := range places() {
		if p.times(small(8)).same(neutral()) {
			continue
		}
		secret := some(k)
		private, err := ecdh.X25519().NewPrivateKey(secret[:])
		if err != nil {
			t.Fatal(err)
		}
		got := must[api.Point](t)(curve.Times(clamped(secret[:]), p.point()))
		public, err := ecdh.X25519().NewPublicKey(across(p))
		if err != nil {
			t.Fatal(err)
		}
		want, err := private.ECDH(public)
		if err != nil {
			t.Fatal(err)
		}
		if !slices.Equal(across(read(got)), want) {
			t.Errorf("Times of %x and %x = %x, whose u is not %x", secret, p.point(), got, want)
		}
	}
}

// L1, L2: ErrForm, whichever point is not on the curve.
func TestFormErrors(t *testing.T) {
	none := api.Point{}
	for k, p := range strangers() {
		for _, q := range []api.Point{curve.Base(), neutral().point(), p, {X: some(k), Y: some(k)}} {
			if got, err := curve.Add(p, q); err != api.ErrForm || got != none {
				t.Errorf("Add of %x and %x = %x and error %d", p, q, got, err)
			}
			if got, err := curve.Add(q, p); err != api.ErrForm || got != none {
				t.Errorf("Add of %x and %x = %x and error %d", q, p, got, err)
			}
		}
		if got, err := curve.Neg(p); err != api.ErrForm || got != none {
			t.Errorf("Neg of %x = %x and error %d", p, got, err)
		}
		for _, n := range []api.Num{{}, {1}, some(k)} {
			if got, err := curve.Times(n, p); err != api.ErrForm || got != none {
				t.Errorf("Times of %x and %x = %x and error %d", n, p, got, err)
			}
		}
		if got, err := curve.Pack(p); err != api.ErrForm || got != (api.Num{}) {
			t.Errorf("Pack of %x = %x and error %d", p, got, err)
		}
	}
}

// L2: Pack, and Unpack of what it made.
func TestPack(t *testing.T) {
	for _, p := range places() {
		got, err := curve.Pack(p.point())
		if err != api.OK || got != p.pack() {
			t.Errorf("Pack of %x = %x and error %d, want %x", p.point(), got, err, p.pack())
		}
		checkPoint(t, "Unpack", p)(curve.Unpack(got))
	}
}

// L2: Unpack, of every Y near 0 and near the prime and of many others, about half of which have a point, with either bit; Pack makes the same bytes again.
func TestUnpack(t *testing.T) {
	var all []*big.Int
	for k := range int64(300) {
		all = append(all, small(k), minus(prime(), small(k+1)), mod(integer(some(int(k)))))
	}
	for k := range 255 {
		all = append(all, power(k))
	}
	points := 0
	for _, y := range all {
		for _, set := range []bool{false, true} {
			if checkUnpack(t, y, set) {
				points++
			}
		}
	}
	if points < len(all)/2 || points > len(all)*3/2 {
		t.Errorf("%d of %d numbers have points", points, 2*len(all))
	}
	for k := range 1000 {
		b := some(k)
		if p, err := curve.Unpack(b); err == api.OK {
			if got := must[api.Num](t)(curve.Pack(p)); got != b {
				t.Errorf("Pack of Unpack of %x = %x", b, got)
			}
		}
	}
}

// L2: the errors of Unpack in their order. The prime and what is above it have no points, though 0, 1 and others have some.
func TestUnpackErrors(t *testing.T) {
	check := func(name string, y *big.Int, set bool, want api.Errno) {
		t.Helper()
		b := num(y)
		if set {
			b[31] |= 128
		}
		if got, err := curve.Unpack(b); err != want || want != api.OK && got != (api.Point{}) {
			t.Errorf("Unpack of %x (%s) = %x and error %d, want %d", b, name, got, err, want)
		}
	}
	for k := range int64(19) {
		check("not reduced", plus(prime(), small(k)), false, api.ErrRange)
		check("not reduced", plus(prime(), small(k)), true, api.ErrRange)
	}
	check("not reduced", plus(power(255), small(-1)), true, api.ErrRange)
	check("no point", small(2), false, api.ErrNone)
	check("no point", small(2), true, api.ErrNone)
	check("no point", small(7), false, api.ErrNone)
	check("no point", small(7), true, api.ErrNone)
	check("neutral", small(1), false, api.OK)
	check("neutral, with a bit", small(1), true, api.ErrForm)
	check("order 2", plus(prime(), small(-1)), false, api.OK)
	check("order 2, with a bit", plus(prime(), small(-1)), true, api.ErrForm)
	check("order 4", small(0), false, api.OK)
	check("order 4, with a bit", small(0), true, api.OK)
}

// AA1: a call sees nothing of an earlier one, or of one at the same time.
func TestCallsAreIndependent(t *testing.T) {
	all := places()
	var sums []place
	for _, p := range all {
		sums = append(sums, p.add(base()))
	}
	n := small(12345)
	multiple := base().times(n)
	var wait sync.WaitGroup
	for range 8 {
		wait.Go(func() {
			for k, p := range all {
				checkPoint(t, "Add", sums[k])(curve.Add(p.point(), base().point()))
				checkPoint(t, "Unpack", p)(curve.Unpack(p.pack()))
				checkTimes(t, n, base(), multiple)
			}
		})
	}
	wait.Wait()
}
