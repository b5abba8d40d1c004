package dice_test

import (
	"math"
	"math/big"
	"testing"

	"doubletake/dice"
)

// The calls are just these.
var (
	_ func(int) uint64                = dice.Seed
	_ func(uint64) (uint64, int)      = dice.Next
	_ func(uint64, int) (uint64, int) = dice.Roll
)

// numbers is how many numbers a state can have: 2^31.
const numbers = 1 << 31

// whole is 2^64, at which states go round.
func whole() *big.Int { return new(big.Int).Lsh(big.NewInt(1), 64) }

func factor() *big.Int { return new(big.Int).SetUint64(6364136223846793005) }

func more() *big.Int { return new(big.Int).SetUint64(1442695040888963407) }

// round is n modulo 2^64, 0 or more, of a number without any bound.
func round(n *big.Int) uint64 {
	return new(big.Int).Mod(n, whole()).Uint64() // big's Mod is 0 or more, whatever the sign
}

// seedOf is the Seed of n, worked out without any number that goes round.
func seedOf(n int) uint64 {
	double := new(big.Int).Mul(big.NewInt(int64(n)), big.NewInt(2))
	return round(double.Add(double, big.NewInt(1)))
}

// stateBehind is the state behind s, worked out without any number that goes round.
func stateBehind(s uint64) uint64 {
	product := new(big.Int).Mul(new(big.Int).SetUint64(s), factor())
	return round(product.Add(product, more()))
}

// numberOf is the number of a state: how many whole 2^33 it has, which are its highest 31 bits.
func numberOf(state uint64) int { return int(state / (1 << 33)) }

// stateAhead is the one state behind which there is this one.
func stateAhead(behind uint64) uint64 {
	less := new(big.Int).Sub(new(big.Int).SetUint64(behind), more())
	return round(less.Mul(less, new(big.Int).ModInverse(factor(), whole())))
}

// rounds is how often the product of s and the factor goes round.
func rounds(s uint64) uint64 {
	product := new(big.Int).Mul(new(big.Int).SetUint64(s), factor())
	return product.Div(product, whole()).Uint64()
}

// states are some about each power of two, and others.
func states() []uint64 {
	all := []uint64{5, 6, 7, 12345, 88172645463325252, 6364136223846793005, 1442695040888963407, 0xaaaaaaaaaaaaaaaa, 0x5555555555555555}
	for bit := range 64 {
		at := uint64(1) << bit
		all = append(all, at-1, at, at+1, -at, -at-1)
	}
	return all
}

// seeds are numbers about 0, each power of two and each end of int, both signs.
func seeds() []int {
	all := []int{5, -5, 100, -100, 12345, -12345, 2026, -2026}
	for bit := range 64 {
		at := 1 << bit // of bit 63: the least int
		all = append(all, at-1, at, at+1, -at, -at-1, -at+1)
	}
	return all
}

// sides are numbers to roll below: 1 and more.
func sides() []int {
	all := []int{3, 5, 6, 7, 10, 12, 20, 100, 1000, 4096, 65521, 1000000, 999999937, numbers - 2, numbers - 1, numbers, numbers + 1, numbers + 2,
		1 << 32, 1<<32 + 1, 3 << 31, 1<<33 - 1, 1 << 33, 1 << 40, 1<<53 + 1, math.MaxInt / 2, math.MaxInt - 1, math.MaxInt}
	for bit := range 63 {
		all = append(all, 1<<bit)
	}
	return all
}

// noSides are numbers below 1, of which nothing is rolled.
func noSides() []int {
	return []int{0, -1, -2, -3, -6, -7, -100, -65536, -numbers + 1, -numbers, -numbers - 1, -1 << 32, -1 << 33, -1 << 62, math.MinInt + 1, math.MinInt}
}

func wantSeed(t *testing.T, n int, want uint64) {
	t.Helper()
	if got := dice.Seed(n); got != want {
		t.Errorf("10.1: Seed(%d): %d, not %d", n, got, want)
	}
}

func wantNext(t *testing.T, s, behind uint64, number int) {
	t.Helper()
	if got, n := dice.Next(s); got != behind || n != number {
		t.Errorf("10.1: Next(%d): %d and %d, not %d and %d", s, got, n, behind, number)
	}
}

func wantRoll(t *testing.T, s uint64, n int, behind uint64, number int) {
	t.Helper()
	if got, rolled := dice.Roll(s, n); got != behind || rolled != number {
		t.Errorf("10.1: Roll(%d, %d): %d and %d, not %d and %d", s, n, got, rolled, behind, number)
	}
}

// Seeds that are worked out by hand: 0, numbers below 0, and each end of int among them.
func TestSeedOfFew(t *testing.T) {
	for _, c := range []struct {
		n    int
		want uint64
	}{
		{0, 1}, {1, 3}, {2, 5}, {3, 7}, {7, 15}, {100, 201}, {2026, 4053}, {1000000, 2000001},
		{1 << 31, 1<<32 + 1}, {1 << 32, 1<<33 + 1}, {1<<53 + 1, 1<<54 + 3},
		{-1, 18446744073709551615}, {-2, 18446744073709551613}, {-3, 18446744073709551611}, {-100, 18446744073709551417},
		{-1 << 31, 18446744069414584321}, {-1 << 62, 1<<63 + 1},
		{1<<62 - 1, 1<<63 - 1}, {1 << 62, 1<<63 + 1},
		{math.MaxInt, 18446744073709551615}, {math.MaxInt - 1, 18446744073709551613}, {math.MinInt, 1}, {math.MinInt + 1, 3},
	} {
		wantSeed(t, c.n, c.want)
	}
}

func TestSeedOfEdges(t *testing.T) {
	for _, n := range seeds() {
		wantSeed(t, n, seedOf(n))
	}
}

// Numbers that differ by 2^63 alone have one Seed, and no others.
func TestSeedOfNumbersHalfAWholeApart(t *testing.T) {
	for _, n := range []int{0, 1, 2, 3, 100, 12345, 1 << 31, 1<<62 - 1, 1 << 62, 1<<62 + 1, math.MaxInt - 1, math.MaxInt} {
		wantSeed(t, n+math.MinInt, dice.Seed(n))
	}
	of := map[uint64]uint64{}
	for _, n := range seeds() {
		s, low := dice.Seed(n), uint64(n)%(1<<63)
		if other, was := of[s]; was && other != low {
			t.Errorf("10.1: Seed is %d of %d, and of %d", s, low, other)
		}
		of[s] = low
	}
}

// Nexts that were worked out apart, by a program with integers without bound: 0, 1, the greatest state, and states whose product goes round never, once, and more often.
func TestNextOfFew(t *testing.T) {
	for _, c := range []struct {
		s, behind uint64
		number    int
	}{
		{0, 1442695040888963407, 167951807},
		{1, 7806831264735756412, 908834774},
		{2, 14170967488582549417, 1649717740},
		{3, 2088359638719790806, 243117059},
		{12345, 2021368500568277588, 235318264},
		{1 << 32, 6961151790551630159, 810384725},
		{88172645463325252, 13679095844690443075, 1592456345},
		{1<<63 - 1, 4301930853896946210, 500810664},
		{1 << 63, 10666067077743739215, 1241693631},
		{math.MaxUint64 - 1, 7161166666904929013, 833669522},
		{math.MaxUint64, 13525302890751722018, 1574552488},
	} {
		wantNext(t, c.s, c.behind, c.number)
	}
}

func TestNextOfEdges(t *testing.T) {
	often := 0
	for _, s := range states() {
		behind := stateBehind(s)
		wantNext(t, s, behind, numberOf(behind))
		if rounds(s) > 1 {
			often++
		}
	}
	if often < 100 {
		t.Errorf("only %d of the states have a product that goes round more than once", often)
	}
}

// Runs of states, each behind the one before, that were worked out apart in the same way.
func TestNextOfRuns(t *testing.T) {
	for _, c := range []struct {
		n    int
		want []uint64
	}{
		{0, []uint64{7806831264735756412, 9396908728118811419, 11960119808228829710, 7062582979898595269,
			14673421054488193520, 9232803539723513983, 10218303843513747618, 1206773305466921929}},
		{7, []uint64{4671018030043100402, 4009012426206191065, 4627631249310082932, 2322887909383453875,
			10347794910643059142, 12094319526169617181, 3716751678833102952, 18402063368008039319}},
		{-2, []uint64{797030443058136008, 16206805978296574839, 8784618232574314042, 8416781571474349953,
			2733068471508552188, 13685725850370213531, 12075890176279646094, 4199580747759267653}},
	} {
		s := dice.Seed(c.n)
		for _, behind := range c.want {
			wantNext(t, s, behind, numberOf(behind))
			s = behind
		}
	}
}

func TestNextOfLongRuns(t *testing.T) {
	for _, n := range []int{0, 1, -1, 2026, math.MinInt, math.MaxInt} {
		s := dice.Seed(n)
		for range 2000 {
			behind := stateBehind(s)
			wantNext(t, s, behind, numberOf(behind))
			s, _ = dice.Next(s)
		}
	}
}

// The number at each of its ends, of states behind which it just is, or just is not, so great.
func TestNextAtEndsOfNumbers(t *testing.T) {
	for _, c := range []struct {
		behind uint64
		number int
	}{
		{0, 0}, {1, 0}, {1<<31 - 1, 0}, {1 << 31, 0}, {1 << 32, 0}, {1<<33 - 1, 0},
		{1 << 33, 1}, {1<<34 - 1, 1}, {1 << 34, 2}, {3 << 33, 3},
		{1<<63 - 1, 1<<30 - 1}, {1 << 63, 1 << 30}, {1<<63 + 1<<33 - 1, 1 << 30}, {1<<63 + 1<<33, 1<<30 + 1},
		{math.MaxUint64 - 1<<33, numbers - 2}, {math.MaxUint64 - 1<<33 + 1, numbers - 1}, {math.MaxUint64, numbers - 1},
	} {
		wantNext(t, stateAhead(c.behind), c.behind, c.number)
	}
}

// Each bit of the state behind by itself, and each left out: the highest 31 tell, and the others nothing.
func TestNextOfEachBit(t *testing.T) {
	for bit := range 64 {
		number := 0
		if bit >= 33 {
			number = 1 << (bit - 33)
		}
		alone := uint64(1) << bit
		wantNext(t, stateAhead(alone), alone, number)
		wantNext(t, stateAhead(^alone), ^alone, numbers-1-number)
	}
}

// The number is of the state behind, and not of s, nor of the one behind that; it has its highest bit, and has it not.
func TestNextNumberIsOfStateBehind(t *testing.T) {
	high, low := 0, 0
	for _, s := range states() {
		behind, n := dice.Next(s)
		further, _ := dice.Next(behind)
		if n == numberOf(s) || n == numberOf(further) {
			t.Errorf("10.1: Next(%d): %d is of another state than %d", s, n, behind)
		}
		if n < 0 || n >= numbers {
			t.Errorf("10.1: Next(%d): %d has more than 31 bits", s, n)
		}
		if (n >= numbers/2) != (behind >= 1<<63) {
			t.Errorf("10.1: Next(%d): %d, of %d", s, n, behind)
		}
		if n >= numbers/2 {
			high++
		} else {
			low++
		}
	}
	if high < 50 || low < 50 {
		t.Errorf("of the numbers %d have their highest bit, and %d have not", high, low)
	}
}

// Runs of rolls that were worked out apart in the same way.
func TestRollOfRuns(t *testing.T) {
	for _, c := range []struct {
		seed, n int
		want    []int
	}{
		{0, 2, []int{0, 1, 0, 0, 0, 1, 0, 0}},
		{0, 6, []int{2, 3, 0, 0, 0, 5, 2, 4}},
		{0, 1000, []int{774, 153, 196, 870, 34, 795, 130, 902}},
		{1, 6, []int{5, 1, 5, 4, 0, 5, 1, 5}},
		{1, 10, []int{9, 3, 5, 8, 4, 3, 5, 5}},
		{7, 100, []int{67, 71, 81, 43, 74, 99, 42, 29}},
		{-1, 6, []int{4, 5, 1, 2, 0, 5, 3, 5}},
		{-1, 2, []int{0, 1, 1, 0, 0, 1, 1, 1}},
		{-2, 1, []int{0, 0, 0, 0, 0, 0, 0, 0}},
		{2026, 10, []int{4, 8, 0, 3, 3, 0, 6, 1}},
		{2026, numbers, []int{784475734, 1170355578, 65542180, 37074923, 1069446473, 2080900700, 1170118836, 1537334921}},
		{2026, math.MaxInt, []int{784475734, 1170355578, 65542180, 37074923, 1069446473, 2080900700, 1170118836, 1537334921}},
	} {
		s := dice.Seed(c.seed)
		for _, number := range c.want {
			behind, _ := dice.Next(s)
			wantRoll(t, s, c.n, behind, number)
			s = behind
		}
	}
}

// Of each n of at least 1 the state is Next's, and the number is Next's modulo n: at least 0, and below n.
func TestRollOfEachState(t *testing.T) {
	for _, s := range states() {
		behind, number := dice.Next(s)
		for _, n := range sides() {
			wantRoll(t, s, n, behind, number%n)
			if _, rolled := dice.Roll(s, n); rolled < 0 || rolled >= n {
				t.Errorf("10.1: Roll(%d, %d): %d", s, n, rolled)
			}
		}
	}
}

// The same, held against states and numbers of no call of the package.
func TestRollOfEdges(t *testing.T) {
	for _, s := range states() {
		behind := stateBehind(s)
		for _, n := range sides() {
			left := new(big.Int).Mod(big.NewInt(int64(numberOf(behind))), big.NewInt(int64(n)))
			wantRoll(t, s, n, behind, int(left.Int64()))
		}
	}
}

// The greatest number, the least ones and those about the middle, below an n that is next to each of them.
func TestRollAtEndsOfNumbers(t *testing.T) {
	for _, c := range []struct{ number, n, want int }{
		{0, 1, 0}, {0, 2, 0}, {0, numbers, 0}, {0, math.MaxInt, 0},
		{1, 1, 0}, {1, 2, 1}, {1, 3, 1}, {2, 2, 0}, {2, 3, 2}, {5, 6, 5}, {6, 6, 0}, {7, 6, 1},
		{1<<30 - 1, 1 << 30, 1<<30 - 1}, {1 << 30, 1 << 30, 0}, {1<<30 + 1, 1 << 30, 1},
		{numbers - 1, 1, 0}, {numbers - 1, 2, 1}, {numbers - 1, 6, 1}, {numbers - 1, 1 << 30, 1<<30 - 1},
		{numbers - 1, numbers - 2, 1}, {numbers - 1, numbers - 1, 0}, {numbers - 1, numbers, numbers - 1},
		{numbers - 1, numbers + 1, numbers - 1}, {numbers - 1, 1 << 32, numbers - 1}, {numbers - 1, 1<<32 + 1, numbers - 1},
		{numbers - 1, math.MaxInt, numbers - 1}, {numbers - 2, numbers - 1, numbers - 2},
	} {
		// The 33 bits below the number tell nothing, whether they are all 0 or all 1.
		for _, rest := range []uint64{0, 1<<33 - 1} {
			behind := uint64(c.number)<<33 + rest
			wantRoll(t, stateAhead(behind), c.n, behind, c.want)
		}
	}
}

// Of an n below 1 the state is s itself, and the number is 0.
func TestRollOfNoSides(t *testing.T) {
	for _, s := range states() {
		for _, n := range noSides() {
			wantRoll(t, s, n, s, 0)
		}
	}
}

// A run goes on from where it is, with nothing rolled in between.
func TestRollOfNoSidesWithinRun(t *testing.T) {
	s, plain := dice.Seed(7), dice.Seed(7)
	for k := range 200 {
		s, _ = dice.Roll(s, noSides()[k%len(noSides())])
		behind, number := dice.Next(plain)
		wantRoll(t, s, 6, behind, number%6)
		s, _ = dice.Roll(s, 6)
		plain = behind
	}
}

// The same call again answers the same, whatever was called in between.
func TestSameAgain(t *testing.T) {
	for range 3 {
		wantSeed(t, -3, 18446744073709551611)
		wantNext(t, 12345, 2021368500568277588, 235318264)
		wantRoll(t, 12345, 1000, 2021368500568277588, 264)
		wantRoll(t, 12345, 0, 12345, 0)
	}
	for _, s := range states() {
		behind, number := dice.Next(s)
		rolled, below := dice.Roll(s, 1000)
		dice.Next(behind)
		dice.Roll(behind, 6)
		dice.Seed(int(s))
		wantNext(t, s, behind, number)
		wantRoll(t, s, 1000, rolled, below)
	}
	for _, n := range seeds() {
		first := dice.Seed(n)
		dice.Next(first)
		wantSeed(t, n, first)
	}
}
