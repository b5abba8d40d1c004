package bucket_test

import (
	"math"
	"math/big"
	"math/rand"
	"testing"

	"doubletake/api"
	"doubletake/bucket"
)

const maxTick = 1000000

var (
	nan    = math.NaN()
	oddNaN = math.Float64frombits(0xfff8000000000005) // a NaN with a sign and a payload
	inf    = math.Inf(1)
	minus  = math.Copysign(0, -1)
	tiny   = math.SmallestNonzeroFloat64
	huge   = math.MaxFloat64
	below1 = math.Nextafter(1, 0)
	above1 = math.Nextafter(1, 2)
)

// rates are such as may be, depths too; the wrong ones may not.
var (
	rates       = []float64{0, minus, tiny, 0x1p-1022, 1e-9, 0.1, 0.5, below1, 1, above1, 3, 1000, 1e9, 1e300, math.Nextafter(huge, 0), huge}
	depths      = []float64{1, above1, 1.5, 2, 2.5, 10, 0.1 + 7, 999, 999.75, math.Nextafter(1000, 0), 1000}
	wrongRates  = []float64{-tiny, -0x1p-1022, -0.5, -1, -1000, -huge, inf, -inf, nan, -nan, oddNaN}
	wrongDepths = []float64{below1, 0.5, tiny, 0, minus, -tiny, -1, -5, -1000, -huge, math.Nextafter(1000, 2000), 1001, 1e9, huge, inf, -inf, nan, -nan, oddNaN}
)

// same tells if two floats are the same bit by bit, so that 0 and -0 differ.
func same(a, b float64) bool { return math.Float64bits(a) == math.Float64bits(b) }

func wantLevel(t *testing.T, what string, b *bucket.Bucket, want float64) {
	t.Helper()
	if got := b.Level(); !same(got, want) {
		t.Errorf("8.1: %s: level %v, not %v", what, got, want)
	}
}

// wantTake asks for one, and holds the Level behind it against what is wanted; asked twice, as asking turns nothing.
func wantTake(t *testing.T, what string, b *bucket.Bucket, tick int, want bool, level float64) {
	t.Helper()
	if got := b.Take(tick); got != want {
		t.Errorf("8.1: %s: Take(%d): %v", what, tick, got)
	}
	wantLevel(t, what, b, level)
	wantLevel(t, what+", asked again", b, level)
}

func mustNew(t *testing.T, rate, depth float64) *bucket.Bucket {
	t.Helper()
	b, errno := bucket.New(rate, depth)
	if errno != api.OK || b == nil {
		t.Fatalf("8.1: New(%v, %v): %v, %d", rate, depth, b, errno)
	}
	return b
}

// emptied answers a Bucket of a whole depth from which all was taken at tick 0.
func emptied(t *testing.T, rate float64, depth int) *bucket.Bucket {
	t.Helper()
	b := mustNew(t, rate, float64(depth))
	for k := range depth {
		wantTake(t, "emptying", b, 0, true, float64(depth-k-1))
	}
	return b
}

func TestNew(t *testing.T) {
	for _, rate := range rates {
		for _, depth := range depths {
			wantLevel(t, "a new one", mustNew(t, rate, depth), depth)
		}
	}
}

func wantErrArg(t *testing.T, rate, depth float64) {
	t.Helper()
	if b, errno := bucket.New(rate, depth); b != nil || errno != 1 {
		t.Errorf("8.1: New(%v, %v): %v, %d", rate, depth, b, errno)
	}
}

func TestNewOfAWrongRate(t *testing.T) {
	for _, rate := range wrongRates {
		for _, depth := range depths {
			wantErrArg(t, rate, depth)
		}
	}
}

func TestNewOfAWrongDepth(t *testing.T) {
	for _, depth := range wrongDepths {
		for _, rate := range rates {
			wantErrArg(t, rate, depth)
		}
		for _, rate := range wrongRates {
			wantErrArg(t, rate, depth)
		}
	}
}

// turn is a tick, what Take answers, and the Level behind it.
type turn struct {
	tick  int
	want  bool
	level float64
}

func wantRun(t *testing.T, what string, rate, depth float64, run []turn) {
	t.Helper()
	b := mustNew(t, rate, depth)
	for _, x := range run {
		wantTake(t, what, b, x.tick, x.want, x.level)
	}
}

func TestExample(t *testing.T) {
	wantRun(t, "the example", 0.5, 2, []turn{{0, true, 1}, {0, true, 0}, {0, false, 0}, {2, true, 0}})
}

// Runs that are worked out by hand; each number in them is told by few bits, so that nothing is rounded.
func TestTake(t *testing.T) {
	wantRun(t, "one behind the other", 0.5, 2, []turn{{0, true, 1}, {1, true, 0.5}, {2, true, 0}, {3, false, 0.5}, {4, true, 0}, {5, false, 0.5}, {6, true, 0}})
	wantRun(t, "the same one again", 1, 3, []turn{{0, true, 2}, {0, true, 1}, {0, true, 0}, {0, false, 0}, {0, false, 0}, {1, true, 0}, {1, false, 0}, {1, false, 0}, {2, true, 0}})
	wantRun(t, "ones left out", 0.25, 4, []turn{{0, true, 3}, {2, true, 2.5}, {3, true, 1.75}, {6, true, 1.5}, {6, true, 0.5}, {7, false, 0.75}, {12, true, 1}, {12, true, 0}, {15, false, 0.75}, {16, true, 0}})
	wantRun(t, "no whole depth", 0.5, 2.75, []turn{{0, true, 1.75}, {0, true, 0.75}, {0, false, 0.75}, {1, true, 0.25}, {2, false, 0.75}, {3, true, 0.25}, {100, true, 1.75}})
	wantRun(t, "more than one a tick", 2.5, 5, []turn{{0, true, 4}, {0, true, 3}, {0, true, 2}, {1, true, 3.5}, {1, true, 2.5}, {1, true, 1.5}, {1, true, 0.5}, {1, false, 0.5}, {2, true, 2}, {3, true, 3.5}})
	wantRun(t, "a depth of 1", 0.5, 1, []turn{{0, true, 0}, {1, false, 0.5}, {2, true, 0}, {9, true, 0}, {9, false, 0}, {10, false, 0.5}, {11, true, 0}})
	wantRun(t, "a depth of 1000", 0.25, 1000, []turn{{0, true, 999}, {1, true, 998.25}, {4, true, 998}, {12, true, 999}, {16, true, 999}})
	wantRun(t, "not from tick 0 on", 1, 4, []turn{{7, true, 3}, {7, true, 2}, {8, true, 2}, {10, true, 3}})
}

// Each Take is true while a whole one is left; behind a depth of 1000 too.
func TestTakeAll(t *testing.T) {
	for _, depth := range []int{1, 2, 3, 10, 999, 1000} {
		b := emptied(t, 1, depth)
		for range 3 {
			wantTake(t, "an empty one", b, 0, false, 0)
		}
	}
}

// A level just 1 is enough, the next number below is not, nor is 0.
func TestLevelAtLeast1(t *testing.T) {
	wantRun(t, "just 1 of the depth", 0, 1, []turn{{0, true, 0}, {0, false, 0}})
	wantRun(t, "just 1 of one tick", 1, 1, []turn{{0, true, 0}, {1, true, 0}})
	wantRun(t, "just 1 of many ticks", 0.125, 1, []turn{{0, true, 0}, {7, false, 0.875}, {8, true, 0}})
	wantRun(t, "just below 1", below1, 1, []turn{{0, true, 0}, {1, false, below1}, {1, false, below1}, {2, true, 0}})
	wantRun(t, "just above 1", 0, above1, []turn{{0, true, above1 - 1}, {0, false, above1 - 1}})
	wantRun(t, "just below 2", 0, math.Nextafter(2, 0), []turn{{0, true, below1 - 0x1p-53}, {0, false, below1 - 0x1p-53}})
}

// A Take that is false has filled the Bucket all the same, and its tick is the last one.
func TestFalseFills(t *testing.T) {
	wantRun(t, "false one by one", 0.25, 1, []turn{{0, true, 0}, {1, false, 0.25}, {2, false, 0.5}, {2, false, 0.5}, {1, false, 0.5}, {3, false, 0.75}, {4, true, 0}})
	b := mustNew(t, 0.25, 1)
	b.Take(0)
	b.Take(3)
	wantTake(t, "behind a false one", b, 4, true, 0)
}

// The level stays at the depth, if it would be above it; at the depth itself nothing is cut off.
func TestNeverMoreThanDepth(t *testing.T) {
	wantRun(t, "just at the depth", 0.5, 3, []turn{{0, true, 2}, {2, true, 2}, {2, true, 1}, {6, true, 2}})
	wantRun(t, "one tick less", 0.5, 3, []turn{{0, true, 2}, {1, true, 1.5}})
	wantRun(t, "one tick more", 0.5, 3, []turn{{0, true, 2}, {3, true, 2}, {3, true, 1}, {3, true, 0}, {3, false, 0}})
	wantRun(t, "a full one", 1, 2, []turn{{50, true, 1}, {50, true, 0}, {50, false, 0}})
	wantRun(t, "a rate above the depth", 7, 2.5, []turn{{0, true, 1.5}, {1, true, 1.5}, {1, true, 0.5}, {1, false, 0.5}, {2, true, 1.5}})
	wantRun(t, "just above the depth", 0.5, above1, []turn{{0, true, 0x1p-52}, {2, true, 0x1p-52}, {5, true, 0x1p-52}, {5, false, 0x1p-52}})
}

// A full one does not save up: the tick at which it was full is the last one.
func TestFullOneKeepsTheTick(t *testing.T) {
	b := mustNew(t, 1, 2)
	wantTake(t, "full at 10", b, 10, true, 1)
	wantTake(t, "at 10 again", b, 10, true, 0)
	wantTake(t, "ahead of it", b, 9, false, 0)
	wantTake(t, "at 10 once more", b, 10, false, 0)
	wantTake(t, "one on", b, 11, true, 0)
	wantTake(t, "back again", b, 10, false, 0)
}

// A tick that is not more than the last one brings nothing, and the last one stays; one may be taken still.
func TestTicksThatAreNotMore(t *testing.T) {
	for _, back := range []int{0, 1, 2, 19, 20, 21, 1000, 1 << 40, math.MaxInt, math.MaxInt - 100} {
		b := mustNew(t, 0.25, 3)
		wantTake(t, "the last tick", b, 20, true, 2)
		wantTake(t, "not more", b, 20-back, true, 1)
		wantTake(t, "not more, again", b, 20-back, true, 0)
		wantTake(t, "none left", b, 20-back, false, 0)
		wantTake(t, "the last one still", b, 20, false, 0)
		wantTake(t, "one more", b, 21, false, 0.25)
		wantTake(t, "three more", b, 24, true, 0)
	}
}

// The last tick of a new one is 0: 0 itself and all below bring nothing, and are not the last one afterwards.
func TestTicksOfANewOne(t *testing.T) {
	for _, tick := range []int{0, -1, -2, -maxTick, -maxTick - 1, math.MinInt32, math.MinInt + 1, math.MinInt} {
		wantRun(t, "not above 0", 0.5, 2, []turn{{tick, true, 1}, {tick, true, 0}, {tick, false, 0}, {0, false, 0}, {1, false, 0.5}, {tick, false, 0.5}, {2, true, 0}})
	}
	wantRun(t, "from 0 on", 0.5, 2, []turn{{-5, true, 1}, {1, true, 0.5}, {-5, false, 0.5}, {2, true, 0}})
}

// A tick above MaxTick counts as that: as it is told, and as the last one.
func TestTicksAboveMaxTick(t *testing.T) {
	if api.MaxTick != maxTick {
		t.Fatalf("MaxTick is %d", api.MaxTick)
	}
	const rate = 0x1p-15 // 30.517578125 come up to MaxTick
	const all = maxTick * rate
	for _, tick := range []int{maxTick, maxTick + 1, maxTick + 2, 2 * maxTick, math.MaxInt32, 1 << 40, math.MaxInt - 1, math.MaxInt} {
		b := emptied(t, rate, 40)
		wantTake(t, "from 0 on", b, tick, true, all-1)
		wantTake(t, "MaxTick behind it", b, maxTick, true, all-2)
		wantTake(t, "one more behind it", b, maxTick+1, true, all-3)
		wantTake(t, "the greatest behind it", b, math.MaxInt, true, all-4)
		wantTake(t, "one less behind it", b, maxTick-1, true, all-5)
		wantTake(t, "the least behind it", b, math.MinInt, true, all-6)
		wantTake(t, "again", b, tick, true, all-7)
	}
	b := emptied(t, rate, 40)
	wantTake(t, "one less than MaxTick", b, maxTick-1, true, all-rate-1)
	wantTake(t, "one less, again", b, maxTick-1, true, all-rate-2)
	wantTake(t, "MaxTick", b, maxTick, true, all-3)
	wantTake(t, "one more than MaxTick", b, maxTick+1, true, all-4)
}

func TestLastTickOneLessThanMaxTick(t *testing.T) {
	for _, tick := range []int{maxTick, maxTick + 1, maxTick + 50, math.MaxInt} {
		wantRun(t, "one tick is left", 0.5, 5, []turn{{maxTick - 1, true, 4}, {maxTick - 1, true, 3}, {tick, true, 2.5}, {tick, true, 1.5}, {math.MaxInt, true, 0.5}, {math.MaxInt, false, 0.5}})
	}
}

// With a rate of 0, either one, nothing comes ever; a level of 0 stays the plain zero.
func TestRateOf0(t *testing.T) {
	for _, rate := range []float64{0, minus} {
		wantRun(t, "a rate of 0", rate, 2.5, []turn{{0, true, 1.5}, {1, true, 0.5}, {2, false, 0.5}, {maxTick, false, 0.5}, {math.MaxInt, false, 0.5}})
		wantRun(t, "a rate of 0, to the last", rate, 2, []turn{{3, true, 1}, {4, true, 0}, {5, false, 0}, {maxTick, false, 0}, {0, false, 0}})
	}
}

// The least rates still add up where the level is 0, and are lost where it is not.
func TestLeastRate(t *testing.T) {
	wantRun(t, "tiny", tiny, 1, []turn{{0, true, 0}, {1, false, tiny}, {3, false, 3 * tiny}, {maxTick, false, maxTick * tiny}})
	wantRun(t, "tiny, lost", tiny, 1.5, []turn{{0, true, 0.5}, {1, false, 0.5}, {maxTick, false, 0.5}})
}

// Rate times ticks may be more than any number; the level is the depth all the same.
func TestGreatestRate(t *testing.T) {
	for _, rate := range []float64{huge, math.Nextafter(huge, 0), huge / 2, huge / maxTick * 1.5, 1e303, 1e300} {
		wantRun(t, "the greatest rates", rate, 3, []turn{{0, true, 2}, {0, true, 1}, {0, true, 0}, {0, false, 0}, {1, true, 2}, {3, true, 2}, {3, true, 1}, {maxTick, true, 2}, {maxTick, true, 1}, {math.MaxInt, true, 0}, {maxTick, false, 0}})
		wantRun(t, "the greatest rates at once", rate, 2.5, []turn{{0, true, 1.5}, {0, true, 0.5}, {math.MaxInt, true, 1.5}, {0, true, 0.5}, {0, false, 0.5}})
	}
}

// A tenth at a time is less than 1 behind ten ticks; ten ticks at once are 1.
func TestOneAtATimeAndManyAtOnce(t *testing.T) {
	b := mustNew(t, 0.1, 1)
	wantTake(t, "a tenth at a time", b, 0, true, 0)
	for k, level := range []float64{0.1, 0.2, 0.30000000000000004, 0.4, 0.5, 0.6, 0.7, 0.7999999999999999, 0.8999999999999999, 0.9999999999999999} {
		wantTake(t, "a tenth at a time", b, k+1, false, level)
	}
	wantTake(t, "a tenth at a time", b, 11, true, 0)
	wantRun(t, "ten tenths at once", 0.1, 1, []turn{{0, true, 0}, {10, true, 0}})
	wantRun(t, "three tenths at once", 0.1, 1, []turn{{0, true, 0}, {3, false, 0.30000000000000004}, {10, true, 0}})
	wantRun(t, "seven tenths, then three", 0.1, 1, []turn{{0, true, 0}, {7, false, 0.7000000000000001}, {10, true, 0}})
}

// exact is a number with room for every bit of the sums and products here.
func exact(x float64) *big.Float { return new(big.Float).SetPrec(3000).SetFloat64(x) }

// nearest is the float64 nearest to x, an infinity if there is none that is.
func nearest(x *big.Float) float64 {
	near, _ := x.Float64()
	return near
}

// twoRoundings is the level that the promise asks for behind some ticks, but for the depth.
func twoRoundings(level, rate float64, ticks int) float64 {
	part := nearest(exact(0).Mul(exact(rate), exact(float64(ticks))))
	if math.IsInf(part, 1) {
		return part
	}
	return nearest(exact(0).Add(exact(level), exact(part)))
}

// oneRounding is what the level would be, if rate times ticks were not rounded by itself.
func oneRounding(level, rate float64, ticks int) float64 {
	part := exact(0).Mul(exact(rate), exact(float64(ticks)))
	return nearest(exact(0).Add(exact(level), part))
}

// tickByTick is what the level would be, if each tick were added by itself.
func tickByTick(level, rate float64, ticks int) float64 {
	for range ticks {
		level = twoRoundings(level, rate, 1)
	}
	return level
}

// Rate times ticks is rounded by itself: the cases hold enough for which the other ways tell another level.
func TestTwoRoundings(t *testing.T) {
	fewer, more := 0, 0
	for r := 1; r < 60; r++ {
		for d := range 30 {
			for _, ticks := range []int{1, 2, 3, 5, 6, 7} {
				rate, depth := float64(r)/61, 9+float64(d)/7
				b, level := mustNew(t, rate, depth), depth
				for range 9 {
					level-- // exact, as the level is not below 1
					wantTake(t, "ahead of the ticks", b, 0, true, level)
				}
				want := twoRoundings(level, rate, ticks)
				if want >= 1 {
					wantTake(t, "two roundings", b, ticks, true, want-1)
				} else {
					wantTake(t, "two roundings", b, ticks, false, want)
				}
				if want != oneRounding(level, rate, ticks) {
					fewer++
				}
				if want != tickByTick(level, rate, ticks) {
					more++
				}
			}
		}
	}
	if fewer < 300 || more < 300 {
		t.Errorf("8.1: too few cases tell the roundings apart: %d, %d", fewer, more)
	}
}

// The two roundings may tell whether there is a whole one at all.
func TestRoundingsThatTurnTheAnswer(t *testing.T) {
	turned := 0
	for r := 1; r < 400; r++ {
		for ticks := 2; ticks < 40; ticks++ {
			for k := range 8 {
				rate := float64(r) / 401
				depth := 2 - float64(rate*float64(ticks)) + float64(float64(k-4)*0x1p-53)
				if depth < 1 {
					continue
				}
				level := depth - 1 // exact, as depth is at most 2
				want := twoRoundings(level, rate, ticks) >= 1
				b := mustNew(t, rate, depth)
				wantTake(t, "the first one", b, 0, true, level)
				if got := b.Take(ticks); got != want {
					t.Errorf("8.1: New(%v, %v): Take(0), Take(%d): %v", rate, depth, ticks, got)
				}
				if want != (oneRounding(level, rate, ticks) >= 1) {
					turned++
				}
			}
		}
	}
	if turned < 30 {
		t.Errorf("8.1: too few cases turn the answer: %d", turned)
	}
}

// model works a Bucket out by big floats.
type model struct {
	rate, depth, level float64
	last               int
}

func (m *model) take(tick int) bool {
	if tick > maxTick {
		tick = maxTick
	}
	if tick > m.last {
		m.level = twoRoundings(m.level, m.rate, tick-m.last)
		if m.level > m.depth {
			m.level = m.depth
		}
		m.last = tick
	}
	if m.level < 1 {
		return false
	}
	m.level = nearest(exact(0).Sub(exact(m.level), exact(1)))
	return true
}

// pick answers some tick: mostly one near to the one before.
func pick(random *rand.Rand, at int) int {
	switch random.Intn(24) {
	case 0:
		return []int{0, -1, maxTick - 1, maxTick, maxTick + 1, math.MinInt, math.MaxInt}[random.Intn(7)]
	case 1:
		return random.Intn(maxTick)
	case 2, 3, 4:
		return at - random.Intn(5)
	case 5, 6, 7, 8, 9:
		return at
	}
	return at + 1 + random.Intn(4)
}

func TestRunsAgainstModel(t *testing.T) {
	random := rand.New(rand.NewSource(8))
	for range 400 {
		rate, depth := rates[random.Intn(len(rates))], depths[random.Intn(len(depths))]
		if random.Intn(3) > 0 {
			rate, depth = random.Float64(), 1+9*random.Float64()
		}
		b, m := mustNew(t, rate, depth), &model{rate: rate, depth: depth, level: depth}
		at := 0
		for range 60 {
			tick := pick(random, at)
			want := m.take(tick)
			wantTake(t, "against the model", b, tick, want, m.level)
			if tick >= 0 && tick < maxTick/2 {
				at = tick
			}
		}
	}
}

// Of two side by side one alone is asked; the other one is as it was, and goes on as if it were alone.
func TestTwoSideBySide(t *testing.T) {
	asked, other := mustNew(t, 0.5, 2), mustNew(t, 0.5, 2)
	for _, x := range []turn{{0, true, 1}, {0, true, 0}, {0, false, 0}, {3, true, 0.5}, {9, true, 1}, {math.MaxInt, true, 1}} {
		wantTake(t, "the one that is asked", asked, x.tick, x.want, x.level)
		wantLevel(t, "the other one", other, 2)
	}
	third := mustNew(t, 4, 7)
	bucket.New(nan, 2)
	for _, x := range []turn{{0, true, 1}, {0, true, 0}, {1, false, 0.5}, {2, true, 0}} {
		wantTake(t, "the other one, alone", other, x.tick, x.want, x.level)
		wantLevel(t, "the one that was asked", asked, 1)
		wantLevel(t, "a third one", third, 7)
	}
	wantTake(t, "the third one at last", third, 1, true, 6)
}

// Of a nil Bucket there is no answer; it does not panic, nor does one that New did not make.
func TestNil(t *testing.T) {
	var none *bucket.Bucket
	for _, tick := range []int{0, 1, math.MinInt, math.MaxInt} {
		if none.Take(tick) {
			t.Errorf("R1: Take(%d) of a nil Bucket", tick)
		}
		new(bucket.Bucket).Take(tick)
	}
	wantLevel(t, "a nil Bucket", none, 0)
	new(bucket.Bucket).Level()
}
