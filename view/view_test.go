package view_test

import (
	"math"
	"math/big"
	"slices"
	"testing"

	"doubletake/view"
)

var (
	nan      = math.NaN()
	oddNaN   = math.Float64frombits(0xfff8000000000005) // a NaN with a sign and a payload
	otherNaN = math.Float64frombits(0x7ff8000000000077)
	inf      = math.Inf(1)
	minus    = math.Copysign(0, -1)
	tiny     = math.SmallestNonzeroFloat64
	huge     = math.MaxFloat64
	below1   = math.Nextafter(1, 0)
	belowMid = math.Nextafter(0.5, 0)
)

// ends are things to be between, of each kind that the promise tells apart.
var ends = []float64{0, minus, 1, -1, 0.1, -7.25, 1e300, tiny, -tiny, huge, -huge, inf, -inf, nan, oddNaN, otherNaN}

// wantBetween holds the answer against what is wanted bit by bit, so that 0 and -0 differ, and NaNs too.
func wantBetween(t *testing.T, a, b, share, want float64) {
	t.Helper()
	if got := view.Between(a, b, share); math.Float64bits(got) != math.Float64bits(want) {
		t.Errorf("2.1: Between(%v, %v, %v): got %v (%016x), want %v (%016x)",
			a, b, share, got, math.Float64bits(got), want, math.Float64bits(want))
	}
}

func TestBetweenOrdinary(t *testing.T) {
	for _, c := range [][4]float64{
		{0, 10, 0.25, 2.5}, {10, 0, 0.25, 7.5}, {-4, 4, 0.5, 0}, {-4, 4, 0.75, 2}, {3, 5, 0.5, 4},
		{7, 7, 0.3, 7}, {1, 2, tiny, 1}, {0, 1, below1, below1}, {0, 1, tiny, tiny}, {0, 1, belowMid, belowMid},
		{-8, -16, 0.125, -9}, {0, 1e300, 0.5, 5e299},
	} {
		wantBetween(t, c[0], c[1], c[2], c[3])
	}
}

func TestBetweenIsAOfNoShare(t *testing.T) {
	for _, share := range []float64{nan, -nan, oddNaN, otherNaN, 0, minus, -tiny, -0.25, -1, -7, -huge, -inf} {
		for _, a := range ends {
			for _, b := range ends {
				wantBetween(t, a, b, share, a)
			}
		}
	}
}

func TestBetweenIsBOfAWholeShare(t *testing.T) {
	for _, share := range []float64{1, math.Nextafter(1, 2), 1.5, 2, huge, inf} {
		for _, a := range ends {
			for _, b := range ends {
				wantBetween(t, a, b, share, b)
			}
		}
	}
}

func TestBetweenTakesTheNearerOfEndsThatAreNotFinite(t *testing.T) {
	for _, bad := range []float64{inf, -inf, nan, oddNaN, otherNaN} {
		for _, other := range ends {
			for _, share := range []float64{tiny, 0.25, 0.49, belowMid} {
				wantBetween(t, bad, other, share, bad)
				wantBetween(t, other, bad, share, other)
			}
			for _, share := range []float64{0.5, math.Nextafter(0.5, 1), 0.75, below1} {
				wantBetween(t, bad, other, share, other)
				wantBetween(t, other, bad, share, bad)
			}
		}
	}
}

// The middle of finite ends is worked out on both sides of 0.5, not picked.
func TestBetweenOfFiniteEndsIsNotPicked(t *testing.T) {
	wantBetween(t, 0, 4, belowMid, 4*belowMid)
	wantBetween(t, 0, 4, 0.5, 2)
}

// A way that is too long for a float64 is infinite; it is not brought back by the share.
func TestBetweenOfEndsTooFarApart(t *testing.T) {
	for _, c := range [][4]float64{
		{-huge, huge, 0.5, inf}, {huge, -huge, 0.5, -inf}, {-huge, huge, tiny, inf}, {huge, -huge, below1, -inf},
		{-huge, 1e300, 0.25, inf}, {huge, huge, 0.5, huge}, {-huge, -huge, 0.5, -huge}, {0, huge, 0.5, huge / 2},
	} {
		wantBetween(t, c[0], c[1], c[2], c[3])
	}
}

func TestBetweenOfZeros(t *testing.T) {
	for _, c := range [][4]float64{
		{0, 0, 0.5, 0}, {0, minus, 0.5, 0}, {minus, 0, 0.5, 0}, {minus, minus, 0.5, 0},
		{1, 1, 0.5, 1}, {0, tiny, 0.25, 0}, {0, -tiny, 0.25, 0}, {minus, -tiny, 0.25, minus}, {-1, 1, 0.5, 0}, {1, -1, 0.5, 0},
	} {
		wantBetween(t, c[0], c[1], c[2], c[3])
	}
}

// rounded is x as the float64 that is nearest.
func rounded(x *big.Float) *big.Float {
	near, _ := x.Float64()
	return new(big.Float).SetFloat64(near)
}

// exact is a number with room for every bit of a sum or a product of two float64s of the sweep.
func exact(x float64) *big.Float { return new(big.Float).SetPrec(400).SetFloat64(x) }

// steps works out a + (b - a) * t by big floats; those that are asked are rounded on the way.
func steps(a, b, share float64, roundWay, roundPart bool) float64 {
	way := exact(0).Sub(exact(b), exact(a))
	if roundWay {
		way = rounded(way)
	}
	part := exact(0).Mul(way, exact(share))
	if roundPart {
		part = rounded(part)
	}
	sum, _ := exact(0).Add(exact(a), part).Float64()
	return sum
}

// The sweep must hold cases in which a step that is not rounded by itself would be seen.
func TestBetweenRoundsEachStep(t *testing.T) {
	wayMatters, partMatters := 0, 0
	for i := range 40 {
		for k := range 40 {
			for s := 1; s < 20; s++ {
				a, b, share := float64(i-20)/7, float64(k-20)/3+1e-3, float64(s)/20
				want := steps(a, b, share, true, true)
				wantBetween(t, a, b, share, want)
				if want != steps(a, b, share, false, true) {
					wayMatters++
				}
				if want != steps(a, b, share, true, false) {
					partMatters++
				}
			}
		}
	}
	if wayMatters < 100 || partMatters < 100 {
		t.Errorf("2.1: too few cases tell the steps apart: %d, %d", wayMatters, partMatters)
	}
}

// Each case has ends and a share for which the two other ways to write the middle answer other bits.
func TestBetweenIsWorkedOutFromA(t *testing.T) {
	for _, c := range [][3]float64{{1e16, 1, 0.75}, {1, 1e-17, below1}, {0.1, 0.2, 0.2}} {
		a, b, share := c[0], c[1], c[2]
		want := steps(a, b, share, true, true)
		wantBetween(t, a, b, share, want)
		weighted := float64(a*float64(1-share)) + float64(b*share)
		fromB := b - float64((b-a)*(1-share))
		if want == weighted || want == fromB {
			t.Errorf("2.1: the case %v does not tell the ways apart: %v, %v, %v", c, want, weighted, fromB)
		}
	}
}

// rising are the depths from the last drawn to the first; those of one row are alike.
var rising = [][]float64{
	{-inf}, {-huge}, {-3}, {-1}, {-0x1p-1022}, {-tiny}, {minus}, {0}, {tiny}, {0x1p-1022}, {below1}, {1}, {3}, {huge}, {inf}, {nan, -nan, oddNaN, otherNaN},
}

func TestSooner(t *testing.T) {
	for i, row := range rising {
		for k, other := range rising {
			for _, a := range row {
				for _, b := range other {
					if got := view.Sooner(a, b); got != (i > k) {
						t.Errorf("2.2: Sooner(%v, %v): got %v", a, b, got)
					}
				}
			}
		}
	}
}

// wantOrder holds the answer against what is wanted, and sees that depths and the room past them are left as they were.
func wantOrder(t *testing.T, depths []float64, want []int) {
	t.Helper()
	roomy := append(slices.Clone(depths), 41, 42, 43)
	if got := view.Order(roomy[:len(depths)]); !slices.Equal(got, want) {
		t.Errorf("2.2: Order(%v): got %v, want %v", depths, got, want)
	}
	for i, x := range append(slices.Clone(depths), 41, 42, 43) {
		if math.Float64bits(roomy[i]) != math.Float64bits(x) {
			t.Errorf("R2: Order(%v) turned place %d into %v", depths, i, roomy[i])
		}
	}
}

func TestOrder(t *testing.T) {
	for _, c := range []struct {
		depths []float64
		want   []int
	}{
		{[]float64{4}, []int{0}},
		{[]float64{nan}, []int{0}},
		{[]float64{1, 2}, []int{1, 0}},
		{[]float64{2, 1}, []int{0, 1}},
		{[]float64{1, nan, 2}, []int{1, 2, 0}},
		{[]float64{1, 1, 1}, []int{0, 1, 2}},
		{[]float64{1, 2, 3, 2, 1}, []int{2, 1, 3, 0, 4}},
		{[]float64{minus, 0, minus, 0}, []int{1, 3, 0, 2}},
		{[]float64{-1, minus, 0, 1}, []int{3, 2, 1, 0}},
		{[]float64{oddNaN, nan, otherNaN, nan}, []int{0, 1, 2, 3}},
		{[]float64{inf, nan, -inf, oddNaN, inf}, []int{1, 3, 0, 4, 2}},
		{[]float64{minus, nan, 5, -inf, 0, oddNaN, inf, 5, minus, 0, inf}, []int{1, 5, 6, 10, 2, 7, 4, 9, 0, 8, 3}},
	} {
		wantOrder(t, c.depths, c.want)
	}
}

func TestOrderOfNone(t *testing.T) {
	for _, none := range [][]float64{nil, {}, make([]float64, 0, 8)} {
		if got := view.Order(none); len(got) != 0 {
			t.Errorf("2.2: Order of none: got %v", got)
		}
	}
	wantOrder(t, nil, nil)
}

// plainOrder takes, level by level from the first drawn, the places that hold it: no sort at all.
func plainOrder(levels []int) []int {
	var places []int
	for level := len(rising) - 1; level >= 0; level-- {
		for place, at := range levels {
			if at == level {
				places = append(places, place)
			}
		}
	}
	return places
}

// Lists that are longer than a sort goes through one by one, with many alikes in them.
func TestOrderOfLongLists(t *testing.T) {
	state := uint32(7)
	for _, size := range []int{5, 13, 21, 100, 1000} {
		levels, depths := make([]int, size), make([]float64, size)
		for i := range size {
			state = state*1664525 + 1013904223
			levels[i] = int(state>>16) % len(rising)
			row := rising[levels[i]]
			depths[i] = row[i%len(row)]
		}
		wantOrder(t, depths, plainOrder(levels))
	}
}

// An answer is new each time: what is done to one is not seen in the next, nor in what was asked.
func TestOrderAnswersNewMemory(t *testing.T) {
	depths := []float64{1, 2}
	first := view.Order(depths)
	clear(first[:cap(first)])
	wantOrder(t, depths, []int{1, 0})
}
