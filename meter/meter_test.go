package meter_test

import (
	"math"
	"math/big"
	"math/rand"
	"testing"

	"doubletake/api"
	"doubletake/meter"
)

const (
	greatest  = 1000000 // of the samples
	ahead     = 16
	maxPeriod = 8
)

var (
	nan    = math.NaN()
	oddNaN = math.Float64frombits(0xfff8000000000005) // a NaN with a sign and a payload
	inf    = math.Inf(1)
	minus  = math.Copysign(0, -1)
	tiny   = math.SmallestNonzeroFloat64
	huge   = math.MaxFloat64
)

// samples are such as may be; the wrong ones may not.
var (
	samples = []float64{0, tiny, 2 * tiny, 0x1p-1022, 1e-9, 0.1, 0.5, math.Nextafter(1, 0), 1, math.Nextafter(1, 2), 2.5, 8, 100, 12345.678, 999999, math.Nextafter(greatest, 0), greatest}
	wrong   = []float64{-tiny, -0x1p-1022, -1e-9, -0.5, -1, -8, -greatest, -huge, math.Nextafter(greatest, 2*greatest), greatest + 0.5, greatest + 1, 1e9, 0x1p63, 1e300, huge, inf, -inf, nan, -nan, oddNaN}
)

// periods are what Lead may be asked for, with what they are brought to.
var periods = []struct{ told, is int }{
	{1, 1}, {2, 2}, {3, 3}, {4, 4}, {5, 5}, {6, 6}, {7, 7}, {8, 8},
	{9, 8}, {10, 8}, {16, 8}, {256 + 3, 8}, {1000, 8}, {math.MaxInt32, 8}, {1 << 32, 8}, {1<<32 + 2, 8}, {1<<53 + 1, 8}, {math.MaxInt - 1, 8}, {math.MaxInt, 8},
	{0, 1}, {-1, 1}, {-2, 1}, {-8, 1}, {-9, 1}, {-1000, 1}, {math.MinInt32, 1}, {-1<<32 + 4, 1}, {math.MinInt + 1, 1}, {math.MinInt + 4, 1}, {math.MinInt, 1},
}

// same tells if two floats are the same bit by bit, so that 0 and -0 differ.
func same(a, b float64) bool { return math.Float64bits(a) == math.Float64bits(b) }

// want holds what m tells against what is wanted; it asks twice, with Lead between, as asking turns nothing.
func want(t *testing.T, what string, m *meter.Meter, count int, mean, jitter float64) {
	t.Helper()
	for range 2 {
		if got := m.Count(); got != count {
			t.Errorf("9.1: %s: count %d, not %d", what, got, count)
		}
		if got := m.Mean(); !same(got, mean) {
			t.Errorf("9.1: %s: mean %v, not %v", what, got, mean)
		}
		if got := m.Jitter(); !same(got, jitter) {
			t.Errorf("9.1: %s: jitter %v, not %v", what, got, jitter)
		}
		m.Lead(3)
	}
}

func wantNote(t *testing.T, what string, m *meter.Meter, x float64) {
	t.Helper()
	if !m.Note(x) {
		t.Errorf("9.1: %s: Note(%v) is false", what, x)
	}
}

func wantRefused(t *testing.T, what string, m *meter.Meter, x float64) {
	t.Helper()
	if m.Note(x) {
		t.Errorf("9.1: %s: Note(%v) is true", what, x)
	}
}

func wantLead(t *testing.T, what string, m *meter.Meter, period, lead int) {
	t.Helper()
	for range 2 {
		if got := m.Lead(period); got != lead {
			t.Errorf("9.1: %s: mean %v, jitter %v: Lead(%d): %d, not %d", what, m.Mean(), m.Jitter(), period, got, lead)
		}
	}
}

// told answers a Meter that has noted these.
func told(t *testing.T, xs ...float64) *meter.Meter {
	t.Helper()
	m := new(meter.Meter)
	for _, x := range xs {
		wantNote(t, "telling", m, x)
	}
	return m
}

// turn is a sample, and the mean and the jitter behind it.
type turn struct{ x, mean, jitter float64 }

func wantRun(t *testing.T, what string, run []turn) {
	t.Helper()
	var m meter.Meter
	for k, c := range run {
		wantNote(t, what, &m, c.x)
		want(t, what, &m, k+1, c.mean, c.jitter)
	}
}

func TestReadyWhenZero(t *testing.T) {
	var m meter.Meter
	want(t, "without a sample", &m, 0, 0, 0)
	for _, p := range periods {
		wantLead(t, "without a sample", &m, p.told, 1)
	}
	want(t, "without a sample, asked for Leads", &m, 0, 0, 0)
	want(t, "a new one", new(meter.Meter), 0, 0, 0)
	want(t, "a literal", &meter.Meter{}, 0, 0, 0)
}

func TestExample(t *testing.T) {
	wantRun(t, "the example", []turn{{8, 8, 0}, {16, 9, 2}})
}

// The first one is the mean, whatever it is, and there is no jitter yet.
func TestFirstSample(t *testing.T) {
	for _, x := range samples {
		wantRun(t, "the first one", []turn{{x, x, 0}})
	}
}

// Runs that are worked out by hand; each number in them is told by few bits, so that nothing is rounded.
func TestNote(t *testing.T) {
	wantRun(t, "above the mean", []turn{{0, 0, 0}, {8, 1, 2}, {9, 2, 3.5}, {2, 2, 2.625}, {34, 6, 9.96875}})
	wantRun(t, "below the mean", []turn{{64, 64, 0}, {0, 56, 16}, {0, 49, 26}, {1, 43, 31.5}})
	wantRun(t, "nearer than the jitter", []turn{{64, 64, 0}, {0, 56, 16}, {60, 56.5, 13}, {56.5, 56.5, 9.75}, {48.5, 55.5, 9.3125}})
	wantRun(t, "just as far as the jitter", []turn{{8, 8, 0}, {16, 9, 2}, {11, 9.25, 2}, {7.25, 9, 2}})
	wantRun(t, "first above, then below", []turn{{8, 8, 0}, {16, 9, 2}, {1, 8, 3.5}, {8, 8, 2.625}, {0, 7, 3.96875}})
	wantRun(t, "the greatest", []turn{{greatest, greatest, 0}, {0, 875000, 250000}, {greatest, 890625, 218750}, {0, 779296.875, 386718.75}})
	wantRun(t, "from 0 to the greatest", []turn{{0, 0, 0}, {greatest, 125000, 250000}, {greatest, 234375, 406250}})
}

// The same one again and again is the mean, and is counted each time.
func TestTheSameAgain(t *testing.T) {
	for _, x := range samples {
		var m meter.Meter
		for k := range 60 {
			wantNote(t, "the same again", &m, x)
			want(t, "the same again", &m, k+1, x, 0)
		}
	}
}

// The same as the mean again and again takes a quarter of the jitter each time.
func TestJitterGoesDown(t *testing.T) {
	m, jitter := told(t, 8, 16), 2.0
	for k := range 20 { // 3^20 needs fewer bits than a float64 has
		wantNote(t, "the mean again", m, 9)
		jitter = jitter * 3 / 4
		want(t, "the mean again", m, k+3, 9, jitter)
	}
}

func TestCount(t *testing.T) {
	var m meter.Meter
	random := rand.New(rand.NewSource(90))
	for k := range 5000 {
		if m.Count() != k {
			t.Fatalf("9.1: count %d, not %d", m.Count(), k)
		}
		wantNote(t, "counting", &m, random.Float64()*greatest)
		m.Note(wrong[k%len(wrong)])
	}
}

// What is refused turns nothing: it is not counted, and the next one is the first one still.
func TestRefusedAheadOfTheFirst(t *testing.T) {
	for _, x := range wrong {
		var m meter.Meter
		for range 3 {
			wantRefused(t, "ahead of the first", &m, x)
			want(t, "ahead of the first", &m, 0, 0, 0)
			wantLead(t, "ahead of the first", &m, 1, 1)
		}
		wantNote(t, "behind what was refused", &m, 24)
		want(t, "behind what was refused", &m, 1, 24, 0)
		wantLead(t, "behind what was refused", &m, 4, 4)
	}
	var all meter.Meter
	for _, x := range wrong {
		wantRefused(t, "one behind the other", &all, x)
	}
	want(t, "one behind the other", &all, 0, 0, 0)
}

// Nor does it turn anything behind the first one, or later.
func TestRefusedLater(t *testing.T) {
	run := []turn{{8, 8, 0}, {16, 9, 2}, {9, 9, 1.5}, {1, 8, 3.125}, {8, 8, 2.34375}, {0, 7, 3.7578125}}
	leads := []int{5, 10, 9, 12, 10, 13}
	for _, x := range wrong {
		var m meter.Meter
		for k, c := range run {
			wantNote(t, "among wrong ones", &m, c.x)
			wantRefused(t, "behind right ones", &m, x)
			wantRefused(t, "behind right ones, again", &m, x)
			want(t, "behind what was refused", &m, k+1, c.mean, c.jitter)
			wantLead(t, "behind what was refused", &m, 1, leads[k])
		}
	}
}

// At both ends of what is a sample, with the next numbers on both sides.
func TestEndsOfSamples(t *testing.T) {
	for _, c := range []struct {
		x  float64
		is bool
	}{
		{-tiny, false}, {minus, true}, {0, true}, {tiny, true}, {2 * tiny, true},
		{math.Nextafter(greatest, 0), true}, {greatest, true}, {math.Nextafter(greatest, inf), false},
	} {
		first, later := new(meter.Meter), told(t, 5)
		if first.Note(c.x) != c.is || later.Note(c.x) != c.is {
			t.Errorf("9.1: Note(%v) is not %v", c.x, c.is)
		}
		count := 0
		if c.is {
			count = 1
		}
		if first.Count() != count || later.Count() != count+1 {
			t.Errorf("9.1: Note(%v): counts %d, %d", c.x, first.Count(), later.Count())
		}
	}
}

// A -0 is a sample, and counts as 0, so that no zero that is told has a sign.
func TestZeros(t *testing.T) {
	for _, x := range []float64{0, minus} {
		wantRun(t, "a zero first", []turn{{x, 0, 0}})
		for _, y := range []float64{0, minus} {
			wantRun(t, "two zeros", []turn{{x, 0, 0}, {y, 0, 0}, {y, 0, 0}, {x, 0, 0}})
			wantRun(t, "a zero later", []turn{{8, 8, 0}, {x, 7, 2}, {y, 6.125, 3.25}})
			wantRun(t, "zeros on both sides", []turn{{x, 0, 0}, {16, 2, 4}, {y, 1.75, 3.5}})
		}
		wantRun(t, "a zero behind the least number", []turn{{tiny, tiny, 0}, {x, tiny, 0}, {x, tiny, 0}})
		for _, p := range periods {
			wantLead(t, "a zero", told(t, x), p.told, 1)
			wantLead(t, "zeros", told(t, x, x, x), p.told, 1)
		}
	}
}

// Among the least numbers a quotient has no bits left, and is rounded to an even one by itself, ahead of the sum.
func TestLeastNumbers(t *testing.T) {
	least := func(run ...turn) []turn {
		for k := range run {
			run[k] = turn{run[k].x * tiny, run[k].mean * tiny, run[k].jitter * tiny}
		}
		return run
	}
	wantRun(t, "half of one for the mean", least(turn{1, 1, 0}, turn{5, 1, 1}))
	wantRun(t, "half of one for the jitter", least(turn{1, 1, 0}, turn{5, 1, 1}, turn{4, 1, 1}))
	wantRun(t, "half of one off the jitter", least(turn{100, 100, 0}, turn{112, 102, 3}, turn{103, 102, 3}))
	wantRun(t, "half of one off the mean", least(turn{7, 7, 0}, turn{3, 7, 1}))
	wantRun(t, "one and a half", least(turn{0, 0, 0}, turn{12, 2, 3}, turn{2, 2, 2}, turn{2, 2, 2}))
	wantRun(t, "one and a half on one", least(turn{1, 1, 0}, turn{13, 3, 3}))
	wantRun(t, "too little", least(turn{3, 3, 0}, turn{4, 3, 0}, turn{5, 3, 0}, turn{2, 3, 0}))
}

// Numbers of which few are told by few bits: leave out one of the roundings, and one of these is another one.
func TestManyBits(t *testing.T) {
	wantRun(t, "many bits", []turn{
		{12.2, 12.2, 0},
		{0.03, 10.678749999999999, 3.0425},
		{0.06, 9.35140625, 4.936562499999999},
		{12.7, 9.76998046875, 4.539570312499999},
	})
}

// step is one of those that are rounded, or some of them.
type step int

const (
	difference step = 1 << iota
	rest            // of the amount, less the jitter
	quarter
	eighth
	jitterSum
	meanSum
)

// exact is a number with room for every bit of the sums here.
func exact(x float64) *big.Float { return new(big.Float).SetPrec(3000).SetFloat64(x) }

// nearest is the float64 nearest to x.
func nearest(x *big.Float) float64 {
	near, _ := x.Float64()
	return near
}

// model works a Meter out by big floats; some steps may be left as they are, not rounded.
type model struct {
	loose        step
	count        int
	mean, jitter *big.Float
}

func (m *model) round(s step, x *big.Float) *big.Float {
	if m.loose&s != 0 {
		return x
	}
	return exact(nearest(x))
}

func (m *model) note(x float64) bool {
	if math.IsNaN(x) || math.IsInf(x, 0) || x < 0 || x > greatest {
		return false
	}
	m.count++
	if m.count == 1 {
		m.mean, m.jitter = exact(0).Add(exact(0), exact(x)), exact(0)
		return true
	}
	d := m.round(difference, exact(0).Sub(exact(x), m.mean))
	more := m.round(rest, exact(0).Sub(exact(0).Abs(d), m.jitter))
	more = m.round(quarter, exact(0).Quo(more, exact(4)))
	m.jitter = m.round(jitterSum, exact(0).Add(m.jitter, more))
	more = m.round(eighth, exact(0).Quo(d, exact(8)))
	m.mean = m.round(meanSum, exact(0).Add(m.mean, more))
	return true
}

// tells answers the mean and the jitter as float64s.
func (m *model) tells() (mean, jitter float64) {
	if m.count == 0 {
		return 0, 0
	}
	return nearest(m.mean), nearest(m.jitter)
}

// lead works Lead out of what a Meter tells; but for the last one its steps may be left as they are, not rounded.
func lead(mean, jitter float64, period int, loose bool) int {
	round := func(x *big.Float) *big.Float {
		if loose {
			return x
		}
		return exact(nearest(x))
	}
	half := round(exact(0).Quo(exact(mean), exact(2)))
	room := round(exact(0).Mul(exact(2), exact(jitter)))
	ticks := round(exact(0).Add(half, room))
	frames := round(exact(0).Quo(ticks, exact(float64(period))))
	whole := 0
	for whole < ahead && exact(float64(whole)).Cmp(frames) < 0 {
		whole++
	}
	return min(whole+1, ahead)
}

// kinds are ways of picking samples; the last one picks among the least numbers.
var kinds = []func(random *rand.Rand) float64{
	func(random *rand.Rand) float64 { return random.Float64() * 100 },
	func(random *rand.Rand) float64 { return float64(random.Intn(300)) / 7 },
	func(random *rand.Rand) float64 { return float64(random.Intn(60)) },
	func(random *rand.Rand) float64 { return random.Float64() * greatest },
	func(random *rand.Rand) float64 { return math.Ldexp(random.Float64(), random.Intn(60)-40) },
	func(random *rand.Rand) float64 { return samples[random.Intn(len(samples))] },
	func(random *rand.Rand) float64 { return float64(random.Intn(40)) * tiny },
}

// Each rounding is done: the runs hold enough for which another mean or jitter were told without it.
// That the rest is rounded tells only where its quarter is not: a quarter of any but the least numbers has all their bits.
func TestEachRounding(t *testing.T) {
	random := rand.New(rand.NewSource(91))
	left := []step{difference, rest | quarter, quarter, difference | eighth, eighth, jitterSum, meanSum, jitterSum | rest | quarter, meanSum | difference | eighth}
	differ := make([]int, len(left))
	for k := range 1400 {
		xs := make([]float64, 8)
		m, strict := new(meter.Meter), new(model)
		for i := range xs {
			xs[i] = kinds[k%len(kinds)](random)
			wantNote(t, "each is rounded", m, xs[i])
			strict.note(xs[i])
			mean, jitter := strict.tells()
			want(t, "each is rounded", m, i+1, mean, jitter)
		}
		for i, steps := range left {
			loose := &model{loose: steps}
			for _, x := range xs {
				loose.note(x)
			}
			if mean, jitter := loose.tells(); !same(mean, m.Mean()) || !same(jitter, m.Jitter()) {
				differ[i]++
			}
		}
	}
	for i, n := range differ {
		if n < 50 {
			t.Errorf("9.1: too few runs tell the rounding %d: %d", i, n)
		}
	}
}

// The same numbers by other ways of working them out, of which each tells another one for enough samples.
func TestOtherWays(t *testing.T) {
	random := rand.New(rand.NewSource(92))
	differ := [5]int{}
	for range 3000 {
		a, b, x := random.Float64()*50, random.Float64()*50, random.Float64()*50
		m := told(t, a, b)
		mean, jitter := m.Mean(), m.Jitter()
		wantNote(t, "other ways", m, x)
		d := x - mean
		newMean := mean + float64(d/8)
		others := [5]turn{
			{x, newMean, jitter + float64((math.Abs(x-newMean)-jitter)/4)}, // the mean first
			{x, newMean, jitter + float64(math.Abs(d-jitter)/4)},           // the amount of both
			{x, newMean, jitter + float64((d-jitter)/4)},                   // no amount
			{x, newMean, float64(jitter*0.75) + float64(math.Abs(d)/4)},    // parts of the two
			{x, float64(mean*0.875) + float64(x/8), m.Jitter()},            // the same of the mean
		}
		for k, o := range others {
			if o.mean != m.Mean() || o.jitter != m.Jitter() {
				differ[k]++
			}
		}
	}
	for k, n := range differ {
		if n < 50 {
			t.Errorf("9.1: too few samples tell another way %d: %d", k, n)
		}
	}
}

// The jitter comes first, by the mean as it was: by the mean behind it, it would be 1.75, then 3.0625, and 14, then 12.25.
func TestJitterAheadOfMean(t *testing.T) {
	wantRun(t, "by the mean as it was", []turn{{8, 8, 0}, {16, 9, 2}})
	wantRun(t, "by the mean as it was, again", []turn{{8, 8, 0}, {16, 9, 2}, {17, 10, 3.5}})
	wantRun(t, "by the mean as it was, below", []turn{{64, 64, 0}, {0, 56, 16}, {64, 57, 14}})
}

func TestRunsAgainstModel(t *testing.T) {
	random := rand.New(rand.NewSource(93))
	for k := range 400 {
		m, w := new(meter.Meter), new(model)
		for range 40 {
			x := kinds[k%len(kinds)](random)
			switch random.Intn(12) {
			case 0:
				x = wrong[random.Intn(len(wrong))]
			case 1:
				x = samples[random.Intn(len(samples))]
			case 2:
				x = m.Mean()
			}
			if is := w.note(x); m.Note(x) != is {
				t.Errorf("9.1: against the model: Note(%v) is not %v", x, is)
			}
			mean, jitter := w.tells()
			want(t, "against the model", m, w.count, mean, jitter)
			for _, p := range periods {
				if got := m.Lead(p.told); got != lead(mean, jitter, p.is, false) {
					t.Errorf("9.1: against the model: mean %v, jitter %v: Lead(%d): %d", mean, jitter, p.told, got)
				}
			}
		}
	}
}

func TestNumbersOfApi(t *testing.T) {
	if api.Ahead != ahead || api.MaxPeriod != maxPeriod {
		t.Fatalf("Ahead is %d, MaxPeriod %d", api.Ahead, api.MaxPeriod)
	}
}

// Leads that are worked out by hand, with a mean alone and with both.
func TestLead(t *testing.T) {
	for _, c := range []struct {
		xs    []float64
		leads [maxPeriod]int // for the periods 1 to MaxPeriod
	}{
		{[]float64{0}, [8]int{1, 1, 1, 1, 1, 1, 1, 1}},
		{[]float64{0.5}, [8]int{2, 2, 2, 2, 2, 2, 2, 2}},
		{[]float64{2}, [8]int{2, 2, 2, 2, 2, 2, 2, 2}},
		{[]float64{2.5}, [8]int{3, 2, 2, 2, 2, 2, 2, 2}},
		{[]float64{8}, [8]int{5, 3, 3, 2, 2, 2, 2, 2}},
		{[]float64{24}, [8]int{13, 7, 5, 4, 4, 3, 3, 3}},
		{[]float64{84}, [8]int{16, 16, 15, 12, 10, 8, 7, 7}},
		{[]float64{200}, [8]int{16, 16, 16, 16, 16, 16, 16, 14}},
		{[]float64{8, 16}, [8]int{10, 6, 4, 4, 3, 3, 3, 3}},          // 9 and 2: 8.5 ticks
		{[]float64{0, 16}, [8]int{10, 6, 4, 4, 3, 3, 3, 3}},          // 2 and 4: 9 ticks
		{[]float64{64, 0}, [8]int{16, 16, 16, 16, 13, 11, 10, 9}},    // 56 and 16: 60 ticks
		{[]float64{64, 64}, [8]int{16, 16, 12, 9, 8, 7, 6, 5}},       // 64 and 0: 32 ticks
		{[]float64{64, 0, 60}, [8]int{16, 16, 16, 15, 12, 11, 9, 8}}, // 56.5 and 13: 54.25 ticks
	} {
		for _, p := range periods {
			wantLead(t, "by hand", told(t, c.xs...), p.told, c.leads[p.is-1])
		}
	}
}

// With a mean alone, in quarters of a tick, against whole numbers.
func TestLeadOfMean(t *testing.T) {
	for q := range 1200 {
		m := told(t, float64(q)/4)
		for _, p := range periods {
			frames := (q + 8*p.is - 1) / (8 * p.is)
			wantLead(t, "a mean alone", m, p.told, min(frames+1, ahead))
		}
	}
}

// With both: behind 0 and n the mean is n / 8, the jitter n / 4, which makes 9 n / 16 ticks.
func TestLeadOfBoth(t *testing.T) {
	for n := range 400 {
		m := told(t, 0, float64(n))
		want(t, "both", m, 2, float64(n)/8, float64(n)/4)
		for _, p := range periods {
			frames := (9*n + 16*p.is - 1) / (16 * p.is)
			wantLead(t, "both", m, p.told, min(frames+1, ahead))
		}
	}
}

// A whole number of frames stays, and so does the next number below; the next one above is one frame more.
func TestLeadNextToWholeNumbers(t *testing.T) {
	for _, p := range periods {
		for frames := range 40 {
			mean := float64(2 * p.is * frames)
			wantLead(t, "whole", told(t, mean), p.told, min(frames+1, ahead))
			if frames > 0 {
				wantLead(t, "just above", told(t, math.Nextafter(mean, inf)), p.told, min(frames+2, ahead))
				wantLead(t, "just below", told(t, math.Nextafter(mean, 0)), p.told, min(frames+1, ahead))
				wantLead(t, "half a frame less", told(t, mean-float64(p.is)), p.told, min(frames+1, ahead))
				wantLead(t, "half a frame more", told(t, mean+float64(p.is)), p.told, min(frames+2, ahead))
			}
		}
	}
}

// What comes to just Ahead stays, as what is one less; what is more is Ahead.
func TestLeadNextToAhead(t *testing.T) {
	for _, p := range periods {
		for frames, want := range map[int]int{13: 14, 14: 15, 15: 16, 16: 16, 17: 16, 18: 16, 100: 16, 255: 16, 256: 16, 65536 / maxPeriod: 16} {
			wantLead(t, "next to Ahead", told(t, float64(2*p.is*frames)), p.told, want)
		}
		wantLead(t, "just above one less", told(t, math.Nextafter(float64(2*p.is*14), inf)), p.told, 16)
		wantLead(t, "just above Ahead", told(t, math.Nextafter(float64(2*p.is*15), inf)), p.told, 16)
	}
}

func TestLeadOfTheGreatest(t *testing.T) {
	var turns meter.Meter
	for k := range 200 {
		wantNote(t, "by turns", &turns, float64(k%2)*greatest)
		for _, p := range periods {
			if k > 0 {
				wantLead(t, "0 and the greatest by turns", &turns, p.told, ahead)
			}
		}
	}
	for _, p := range periods {
		wantLead(t, "the greatest", told(t, greatest), p.told, ahead)
		wantLead(t, "the greatest, twice", told(t, greatest, greatest), p.told, ahead)
		wantLead(t, "0, then the greatest", told(t, 0, greatest), p.told, ahead)
		wantLead(t, "the greatest, then 0", told(t, greatest, 0), p.told, ahead)
		wantLead(t, "just below the greatest", told(t, math.Nextafter(greatest, 0)), p.told, ahead)
	}
}

// Lead is worked out by float64s: a jitter that is lost in the sum makes no frame more, nor does a mean that is lost in a quotient.
func TestLeadIsRounded(t *testing.T) {
	m := told(t, 8, math.Nextafter(8, inf), 8, 8, 8)
	if m.Mean() != 8 || m.Jitter() <= 0 || 4+2*m.Jitter() != 4 {
		t.Fatalf("9.1: mean %v, jitter %v", m.Mean(), m.Jitter())
	}
	for _, c := range []struct{ period, lead int }{{1, 5}, {2, 3}, {4, 2}} {
		wantLead(t, "the jitter is not lost yet", told(t, 8, math.Nextafter(8, inf), 8, 8), c.period, c.lead+1)
		wantLead(t, "the jitter is lost", m, c.period, c.lead)
	}
	for _, c := range []struct {
		mean         float64 // in least numbers
		period, lead int
	}{{1, 1, 1}, {2, 1, 2}, {3, 1, 2}, {2, 2, 1}, {2, 8, 1}, {8, 8, 1}, {10, 8, 2}, {4, 3, 2}} {
		wantLead(t, "least numbers", told(t, c.mean*tiny), c.period, c.lead)
	}
}

// The runs hold enough for which Lead were another one, if its steps were not rounded.
func TestLeadOfManyRoundings(t *testing.T) {
	random, differ := rand.New(rand.NewSource(94)), 0
	for range 300 {
		mean := float64(2 * random.Intn(40))
		m := told(t, mean, mean+random.Float64()*1e-13)
		for range 12 {
			wantNote(t, "the mean again", m, mean)
			for _, p := range periods[:maxPeriod] {
				is := lead(m.Mean(), m.Jitter(), p.is, false)
				wantLead(t, "many roundings", m, p.told, is)
				if is != lead(m.Mean(), m.Jitter(), p.is, true) {
					differ++
				}
			}
		}
	}
	if differ < 100 {
		t.Errorf("9.1: too few Leads tell the roundings: %d", differ)
	}
}

// Of two side by side one alone is told anything; the other one is as it was, and goes on as if it were alone.
func TestTwoSideBySide(t *testing.T) {
	var asked, other meter.Meter
	for k, c := range []turn{{64, 64, 0}, {0, 56, 16}, {60, 56.5, 13}, {56.5, 56.5, 9.75}} {
		wantNote(t, "the one that is told", &asked, c.x)
		wantRefused(t, "the one that is told", &asked, -c.x-1)
		want(t, "the one that is told", &asked, k+1, c.mean, c.jitter)
		want(t, "the other one", &other, 0, 0, 0)
		wantLead(t, "the other one", &other, 1, 1)
	}
	for k, c := range []turn{{8, 8, 0}, {16, 9, 2}, {9, 9, 1.5}} {
		wantNote(t, "the other one, alone", &other, c.x)
		want(t, "the other one, alone", &other, k+1, c.mean, c.jitter)
		want(t, "the one that was told", &asked, 4, 56.5, 9.75)
		wantLead(t, "the one that was told", &asked, 8, 7)
	}
	want(t, "a third one", new(meter.Meter), 0, 0, 0)
}

// Of a nil Meter there is no answer, and it does not panic.
func TestNil(t *testing.T) {
	var m *meter.Meter
	for _, x := range append(samples, wrong...) {
		wantRefused(t, "a nil Meter", m, x)
	}
	want(t, "a nil Meter", m, 0, 0, 0)
	for _, p := range periods {
		wantLead(t, "a nil Meter", m, p.told, 0)
	}
}
