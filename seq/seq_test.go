package seq_test

import (
	"math"
	"math/big"
	"testing"

	"doubletake/seq"
)

const (
	round = 65536
	half  = round / 2
)

// Round is a plain number: it fits into each kind that has room for it.
const (
	_ int     = seq.Round
	_ uint32  = seq.Round
	_ float64 = seq.Round
)

// edges are numbers about each end: of a round, of its half, of many rounds, of narrower kinds, and of int; both signs.
func edges() []int {
	all := []int{math.MinInt, math.MinInt + 1, math.MinInt + half, math.MaxInt, math.MaxInt - 1, math.MaxInt - half}
	for _, middle := range []int{0, half, round, round + half, 2 * round, 3 * round, 1000 * round, 1 << 31, 1 << 32, 1 << 40, 1 << 53, 1 << 62} {
		for away := -2; away <= 2; away++ {
			all = append(all, middle+away, -middle-away)
		}
	}
	return append(all, 5, 100, 12345, 54321, 70000, -5, -100, -12345, -54321, -70000)
}

// modulo is n modulo Round, 0 or more, of a number without any bound.
func modulo(n *big.Int) int {
	return int(new(big.Int).Mod(n, big.NewInt(round)).Int64()) // big's Mod is 0 or more, whatever the sign
}

// plus is the sum of two ints, without any bound.
func plus(a, b int) *big.Int {
	return new(big.Int).Add(big.NewInt(int64(a)), big.NewInt(int64(b)))
}

// minus is the difference of two ints, without any bound.
func minus(a, b int) *big.Int {
	return new(big.Int).Sub(big.NewInt(int64(a)), big.NewInt(int64(b)))
}

// shorter is how far a is ahead of b, worked out without any number that goes round.
func shorter(a, b int) int {
	far := modulo(minus(a, b))
	if far >= half {
		return far - round
	}
	return far
}

func wantNorm(t *testing.T, n, want int) {
	t.Helper()
	if got := seq.Norm(n); got != want {
		t.Errorf("6.1: Norm(%d): %d, not %d", n, got, want)
	}
}

func wantNext(t *testing.T, n, want int) {
	t.Helper()
	if got := seq.Next(n); got != want {
		t.Errorf("6.1: Next(%d): %d, not %d", n, got, want)
	}
}

// wantAhead holds Ahead against what it should be, and Newer against the same.
func wantAhead(t *testing.T, a, b, want int) {
	t.Helper()
	if got := seq.Ahead(a, b); got != want {
		t.Errorf("6.1: Ahead(%d, %d): %d, not %d", a, b, got, want)
	}
	if got := seq.Newer(a, b); got != (want > 0) {
		t.Errorf("6.1: Newer(%d, %d): %v, where Ahead is %d", a, b, got, want)
	}
}

func TestRound(t *testing.T) {
	if seq.Round != round {
		t.Errorf("6.1: Round is %d", seq.Round)
	}
}

// Norms that are worked out by hand.
func TestNormOfFew(t *testing.T) {
	for _, c := range [][2]int{
		{0, 0}, {1, 1}, {5, 5}, {32767, 32767}, {32768, 32768}, {32769, 32769}, {65534, 65534}, {65535, 65535},
		{65536, 0}, {65537, 1}, {70000, 4464}, {131071, 65535}, {131072, 0}, {131073, 1},
		{-1, 65535}, {-2, 65534}, {-5, 65531}, {-32767, 32769}, {-32768, 32768}, {-32769, 32767},
		{-65535, 1}, {-65536, 0}, {-65537, 65535}, {-131072, 0}, {-131073, 65535},
		{math.MaxInt, 65535}, {math.MaxInt - 1, 65534}, {math.MinInt, 0}, {math.MinInt + 1, 1},
	} {
		wantNorm(t, c[0], c[1])
	}
}

// Each number of a round is its own Norm, with whole rounds more and less too.
func TestNormOfEachNumber(t *testing.T) {
	for n := range round {
		for _, rounds := range []int{0, 1, -1, 2, -2, 1000, -1000, 1 << 40, -1 << 40, math.MaxInt / round, math.MinInt / round} {
			wantNorm(t, n+rounds*round, n)
		}
	}
}

func TestNormOfEdges(t *testing.T) {
	for _, n := range edges() {
		wantNorm(t, n, modulo(big.NewInt(int64(n))))
	}
}

// What is normed stays as it is.
func TestNormTwice(t *testing.T) {
	for _, n := range edges() {
		wantNorm(t, seq.Norm(n), seq.Norm(n))
	}
}

// Nexts that are worked out by hand: the last of a round, ahead of 0, and the greatest int among them.
func TestNextOfFew(t *testing.T) {
	for _, c := range [][2]int{
		{0, 1}, {1, 2}, {100, 101}, {32766, 32767}, {32767, 32768}, {32768, 32769}, {65533, 65534}, {65534, 65535},
		{65535, 0}, {65536, 1}, {65537, 2}, {131071, 0}, {131072, 1},
		{-1, 0}, {-2, 65535}, {-3, 65534}, {-32769, 32768}, {-65536, 1}, {-65537, 0}, {-65538, 65535},
		{math.MaxInt, 0}, {math.MaxInt - 1, 65535}, {math.MinInt, 1}, {math.MinInt + 1, 2},
	} {
		wantNext(t, c[0], c[1])
	}
}

func TestNextOfEdges(t *testing.T) {
	for _, n := range edges() {
		wantNext(t, n, modulo(plus(n, 1)))
	}
}

// Step by step a round goes through each number once, and is where it began.
func TestNextGoesRound(t *testing.T) {
	for _, start := range []int{0, 1, half, round - 1} {
		n := start
		for k := range 2 * round {
			if want := (start + k) % round; n != want {
				t.Fatalf("6.1: %d steps from %d on: %d, not %d", k, start, n, want)
			}
			n = seq.Next(n)
		}
	}
}

// Aheads that are worked out by hand.
func TestAheadOfFew(t *testing.T) {
	for _, c := range [][3]int{
		// Within a round.
		{1, 0, 1}, {0, 1, -1}, {7, 4, 3}, {4, 7, -3}, {1000, 200, 800}, {200, 1000, -800}, {40000, 39000, 1000}, {65535, 65534, 1},
		// The round's end is between them.
		{1, 65535, 2}, {65535, 1, -2}, {0, 65535, 1}, {65535, 0, -1}, {100, 65000, 636}, {65000, 100, -636}, {3, 65533, 6},
		// Two that are alike.
		{0, 0, 0}, {5, 5, 0}, {65535, 65535, 0}, {32768, 32768, 0}, {-1, -1, 0},
		{65536, 0, 0}, {0, 65536, 0}, {-65536, 0, 0}, {65535, -1, 0}, {-1, 65535, 0}, {70000, 4464, 0},
		// Below 0.
		{-1, 0, -1}, {0, -1, 1}, {-5, -8, 3}, {-8, -5, -3}, {-1, 1, -2}, {1, -1, 2}, {-65537, 65535, 0}, {3, -65533, 0},
		// The ends of int.
		{math.MaxInt, math.MinInt, -1}, {math.MinInt, math.MaxInt, 1}, {math.MaxInt, math.MaxInt, 0}, {math.MinInt, math.MinInt, 0},
		{math.MaxInt, 0, -1}, {0, math.MaxInt, 1}, {math.MinInt, 0, 0}, {0, math.MinInt, 0}, {math.MaxInt, -1, 0}, {-1, math.MaxInt, 0},
		{math.MinInt, 1, -1}, {1, math.MinInt, 1}, {math.MinInt, -1, 1}, {-1, math.MinInt, -1}, {math.MaxInt, 65535, 0}, {2, math.MaxInt, 3},
		{math.MinInt, half, -half}, {half, math.MinInt, -half}, {math.MaxInt, half, 32767}, {half, math.MaxInt, -32767},
	} {
		wantAhead(t, c[0], c[1], c[2])
	}
}

// Just half a round, one less and one more, asked both ways, wherever the two are.
func TestAheadAtHalfRound(t *testing.T) {
	for _, b := range []int{0, 1, 5, half - 1, half, half + 1, round - 1, round, -1, -half, -round, 1 << 40, -1 << 40} {
		wantAhead(t, b+half-1, b, 32767)
		wantAhead(t, b, b+half-1, -32767)
		wantAhead(t, b+half, b, -32768)
		wantAhead(t, b, b+half, -32768)
		wantAhead(t, b+half+1, b, -32767)
		wantAhead(t, b, b+half+1, 32767)
	}
}

// Each way that there is, ahead and behind, from places with and without the round's end between.
func TestAheadOfEachWay(t *testing.T) {
	for _, b := range []int{0, 1, half, round - 1, -3, 1 << 40} {
		for far := -half; far < half; far++ {
			wantAhead(t, b+far, b, far)
			wantAhead(t, seq.Norm(b+far), b, far)
		}
	}
}

func TestAheadOfEdges(t *testing.T) {
	for _, a := range edges() {
		for _, b := range edges() {
			wantAhead(t, a, b, shorter(a, b))
			got := seq.Ahead(a, b)
			if got < -32768 || got > 32767 {
				t.Errorf("6.1: Ahead(%d, %d): %d is not the shorter way", a, b, got)
			}
			if modulo(big.NewInt(int64(got))) != modulo(minus(a, b)) {
				t.Errorf("6.1: Ahead(%d, %d): %d is not a - b modulo Round", a, b, got)
			}
		}
	}
}

// Whole rounds more or less, of each of the two, tell nothing.
func TestAheadOfWholeRounds(t *testing.T) {
	for _, c := range [][3]int{{1, 65535, 2}, {65535, 1, -2}, {9, 4, 5}, {half, 0, -half}, {0, half, -half}, {half - 1, 0, half - 1}, {6, 6, 0}} {
		for _, more := range []int{0, 1, -1, 2, -2, 1 << 20, -1 << 20, 1<<47 - 1, -1 << 47} {
			for _, other := range []int{0, 1, -1, 1 << 30, -1 << 30, 1<<47 - 1, -1 << 47} {
				wantAhead(t, c[0]+more*round, c[1]+other*round, c[2])
			}
		}
	}
}

// So many steps on is so far ahead, up to where the other way is the shorter one.
func TestAheadCountsSteps(t *testing.T) {
	for _, start := range []int{0, 65530, 32760} {
		n := start
		for k := range half {
			wantAhead(t, n, start, k)
			wantAhead(t, start, n, -k)
			n = seq.Next(n)
		}
		wantAhead(t, n, start, -half)
		wantAhead(t, start, n, -half)
	}
}

// Newers that are worked out by hand.
func TestNewerOfFew(t *testing.T) {
	for _, c := range []struct {
		a, b int
		want bool
	}{
		{1, 0, true}, {0, 1, false}, {0, 0, false}, {65535, 65535, false}, {65536, 0, false}, {0, 65536, false},
		{0, 65535, true}, {65535, 0, false}, {1, 65535, true}, {65535, 1, false}, {0, -1, true}, {-1, 0, false},
		{32767, 0, true}, {0, 32767, false}, {32768, 0, false}, {0, 32768, false}, {32769, 0, false}, {0, 32769, true},
		{math.MaxInt, math.MinInt, false}, {math.MinInt, math.MaxInt, true},
		{math.MaxInt, math.MaxInt, false}, {math.MinInt, math.MinInt, false}, {math.MinInt, 0, false}, {0, math.MinInt, false},
	} {
		if got := seq.Newer(c.a, c.b); got != c.want {
			t.Errorf("6.1: Newer(%d, %d): %v", c.a, c.b, got)
		}
	}
}

// Newer is just where Ahead is above 0: of two that are neither alike nor half a round apart one is newer, and of those none.
func TestNewerOfEdges(t *testing.T) {
	for _, a := range edges() {
		for _, b := range edges() {
			one, other := seq.Newer(a, b), seq.Newer(b, a)
			if one != (seq.Ahead(a, b) > 0) || other != (seq.Ahead(b, a) > 0) {
				t.Errorf("6.1: Newer(%d, %d): %v and %v, where Ahead is %d", a, b, one, other, seq.Ahead(a, b))
			}
			far := modulo(minus(a, b))
			if neither := far == 0 || far == half; neither == (one || other) || one && other {
				t.Errorf("6.1: Newer of %d and %d: %v and %v, %d apart", a, b, one, other, far)
			}
		}
	}
}
