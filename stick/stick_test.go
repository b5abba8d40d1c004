package stick_test

import (
	"math"
	"math/big"
	"testing"

	"doubletake/stick"
)

var (
	nan    = math.NaN()
	oddNaN = math.Float64frombits(0xfff8000000000005) // a NaN with a sign and a payload
	inf    = math.Inf(1)
	minus  = math.Copysign(0, -1)
	tiny   = math.SmallestNonzeroFloat64
	huge   = math.MaxFloat64
	below1 = math.Nextafter(1, 0)
	above1 = math.Nextafter(1, 2)
)

// wantBits holds two floats against each other bit by bit, so that 0 and -0 differ.
func wantBits(t *testing.T, call string, got, want float64) {
	t.Helper()
	if math.Float64bits(got) != math.Float64bits(want) {
		t.Errorf("1.1: %s: got %v (%016x), want %v (%016x)", call, got, math.Float64bits(got), want, math.Float64bits(want))
	}
}

func TestCleanLeavesWhatIsWithin(t *testing.T) {
	for _, x := range []float64{1, below1, 0.5, 1.0 / 3, 0.1, 0x1p-1022, tiny, 0} {
		wantBits(t, "Clean", stick.Clean(x), x)
		if x != 0 {
			wantBits(t, "Clean", stick.Clean(-x), -x)
		}
	}
}

func TestCleanOfNoNumberAndMinusZero(t *testing.T) {
	for _, x := range []float64{nan, -nan, oddNaN, math.Float64frombits(0x7ff0000000000001), minus} {
		wantBits(t, "Clean", stick.Clean(x), 0)
	}
}

func TestCleanBringsWithinItsEnds(t *testing.T) {
	for _, x := range []float64{above1, 1.5, 64, 1e300, huge, inf} {
		wantBits(t, "Clean", stick.Clean(x), 1)
		wantBits(t, "Clean", stick.Clean(-x), -1)
	}
}

type axisCase struct {
	x, dead float64
	want    int
}

// wantAxis tries each case with both signs of x: an axis is the same both ways.
func wantAxis(t *testing.T, cases []axisCase) {
	t.Helper()
	for _, c := range cases {
		if got := stick.Axis(c.x, c.dead); got != c.want {
			t.Errorf("1.1: Axis(%v, %v): got %d, want %d", c.x, c.dead, got, c.want)
		}
		if got := stick.Axis(-c.x, c.dead); got != -c.want {
			t.Errorf("1.1: Axis(%v, %v): got %d, want %d", -c.x, c.dead, got, -c.want)
		}
	}
}

func TestAxisOrdinary(t *testing.T) {
	wantAxis(t, []axisCase{
		{0.5, 0, 32}, {0.25, 0, 16}, {0.75, 0.5, 32}, {0.625, 0.25, 32}, {0.5625, 0.125, 32},
		{0.3, 0.1, 14}, {0.9, 0.2, 56}, {0.01, 0, 1}, {0.99, 0, 63},
	})
}

func TestAxisOfNoNumber(t *testing.T) {
	wantAxis(t, []axisCase{{nan, 0, 0}, {oddNaN, 0, 0}, {nan, 0.5, 0}, {nan, nan, 0}, {nan, -1, 0}, {0, 0, 0}, {minus, 0, 0}, {0, minus, 0}, {0, nan, 0}})
}

func TestAxisAtAndBeyondItsEnds(t *testing.T) {
	wantAxis(t, []axisCase{
		{1, 0, 64}, {1, 0.3, 64}, {1, 0.99, 64}, {1, below1, 64}, {1, tiny, 64},
		{above1, 0, 64}, {7, 0.9, 64}, {huge, 0.5, 64}, {inf, 0, 64}, {inf, below1, 64},
		{below1, 0, 64}, {below1, 0.5, 64},
	})
}

func TestAxisWithinTheDeadZone(t *testing.T) {
	wantAxis(t, []axisCase{
		{0.5, 0.5, 0}, {math.Nextafter(0.5, 0), 0.5, 0}, {math.Nextafter(0.5, 1), 0.5, 0},
		{0.1, 0.1, 0}, {tiny, tiny, 0}, {below1, below1, 0}, {0.2, 0.9, 0}, {tiny, 0, 0},
		{math.Nextafter(0.5, 1), math.Nextafter(0.5, 1), 0},
	})
}

// A dead zone that leaves nothing wins over the axis's end.
func TestAxisDeadAllOver(t *testing.T) {
	wantAxis(t, []axisCase{{1, 1, 0}, {inf, 1, 0}, {0.5, 1, 0}, {1, above1, 0}, {1, 5, 0}, {1, huge, 0}, {inf, inf, 0}, {nan, inf, 0}})
}

func TestAxisWithAWrongDeadZoneHasNone(t *testing.T) {
	for _, dead := range []float64{-tiny, -0.5, -1, -3, -huge, -inf, nan, oddNaN, minus} {
		wantAxis(t, []axisCase{{0.5, dead, 32}, {0.25, dead, 16}, {1, dead, 64}, {1.0 / 64, dead, 1}, {tiny, dead, 0}, {0, dead, 0}})
	}
}

func TestAxisOfTwoAsNearIsEven(t *testing.T) {
	for n := range 64 {
		even := n + n%2
		half := (float64(n) + 0.5) / 64
		wantAxis(t, []axisCase{
			{half, 0, even},
			{math.Nextafter(half, 0), 0, n},
			{math.Nextafter(half, 1), 0, n + 1},
			{0.5 + half/2, 0.5, even},
		})
	}
}

// Worked out without rounding on the way these would be 3, 5, 15 and 17: each step is rounded.
func TestAxisRoundsEachStep(t *testing.T) {
	wantAxis(t, []axisCase{{0.048671875, 0.01, 2}, {0.095078125, 0.01, 6}, {0.23429687500000002, 0.01, 14}, {0.280703125, 0.01, 18}})
}

// float53 is a number that rounds as float64s do (but below 2^-1022, where the sweep does not go).
func float53(x float64) *big.Float { return new(big.Float).SetPrec(53).SetFloat64(x) }

// plainAxis works out the middle part of Axis by other means: big floats, then whole numbers.
func plainAxis(amount, dead float64) int {
	over := float53(0).Sub(float53(amount), float53(dead))
	room := float53(0).Sub(float53(1), float53(dead))
	part := float53(0).Quo(over, room)
	doubled, _ := float53(0).Mul(part, float53(128)).Rat(nil)
	twice := new(big.Int).Div(doubled.Num(), doubled.Denom()).Int64()
	n := int(twice / 2)
	if twice%2 == 0 {
		return n
	}
	if doubled.IsInt() {
		return n + n%2
	}
	return n + 1
}

func TestAxisSweep(t *testing.T) {
	for d := range 100 {
		dead := float64(d) / 100
		for k := range 128 {
			x := dead + (1-dead)*(float64(k)+0.5)/128
			for _, amount := range []float64{math.Nextafter(x, 0), x, math.Nextafter(x, 1)} {
				if amount > dead && amount < 1 {
					wantAxis(t, []axisCase{{amount, dead, plainAxis(amount, dead)}})
				}
			}
		}
	}
}

func TestFloat(t *testing.T) {
	for n, want := range map[int]float64{1: 0.015625, 3: 0.046875, 16: 0.25, 32: 0.5, 48: 0.75, 63: 0.984375, 64: 1} {
		wantBits(t, "Float", stick.Float(n), want)
		wantBits(t, "Float", stick.Float(-n), -want)
	}
	wantBits(t, "Float(0)", stick.Float(0), 0)
}

func TestFloatOutOfBounds(t *testing.T) {
	for _, n := range []int{65, 66, 128, 1 << 31, 1 << 53, math.MaxInt} {
		wantBits(t, "Float", stick.Float(n), 1)
		wantBits(t, "Float", stick.Float(-n), -1)
	}
	wantBits(t, "Float(MinInt)", stick.Float(math.MinInt), -1)
}

func TestFloatAndAxisThereAndBack(t *testing.T) {
	for n := -64; n <= 64; n++ {
		if got := stick.Axis(stick.Float(n), 0); got != n {
			t.Errorf("1.1: Axis(Float(%d), 0): got %d", n, got)
		}
	}
}

func TestMix(t *testing.T) {
	tenth, fifth := 0.1, 0.2 // variables, so that their sum is rounded as float64s are
	for _, c := range [][3]float64{
		{0.25, 0.5, 0.75}, {0.25, -0.5, -0.25}, {tenth, fifth, tenth + fifth}, {0, 0.5, 0.5}, {tiny, tiny, 2 * tiny},
		{0.5, 0.5, 1}, {0.75, 0.5, 1}, {1, 1, 1}, {1, tiny, 1}, {below1, tiny, below1}, {below1, 1 - below1, 1},
		{9, -0.5, 0.5}, {huge, huge, 1}, {huge, -1, 0}, {inf, -0.25, 0.75}, {inf, inf, 1}, {inf, -inf, 0},
		{nan, 0.5, 0.5}, {nan, -inf, -1}, {nan, oddNaN, 0}, {oddNaN, minus, 0},
		{0, 0, 0}, {minus, minus, 0}, {minus, 0, 0}, {0.5, -0.5, 0}, {minus, -tiny, -tiny},
	} {
		wantBits(t, "Mix", stick.Mix(c[0], c[1]), c[2])
		wantBits(t, "Mix turned about", stick.Mix(c[1], c[0]), c[2])
		opposite := -c[2]
		if c[2] == 0 {
			opposite = 0
		}
		wantBits(t, "Mix of opposites", stick.Mix(-c[0], -c[1]), opposite)
	}
}
