package body_test

import (
	"math"
	"testing"

	"doubletake/api"
	"doubletake/body"
)

// The calls are just these.
var (
	_ func(api.Body) bool               = body.Right
	_ func(api.Body) (api.Body, bool)   = body.Move
	_ func(api.Body, int, int) api.Body = body.Push
	_ func(api.Body, api.Body) bool     = body.Hit
	_ func(int, int) api.Body           = body.Born
	_ func(api.Body, int, int) api.Body = body.Shoot
)

// A field of a body, with the bounds that a Player or a Shot has there.
type field struct {
	name      string
	at        func(*api.Body) *int
	low, high int
}

func fields() []field {
	all := []field{
		{"Owner", func(b *api.Body) *int { return &b.Owner }, 0, 7},
		{"X", func(b *api.Body) *int { return &b.X }, 0, 4095},
		{"Y", func(b *api.Body) *int { return &b.Y }, 0, 4095},
		{"VX", func(b *api.Body) *int { return &b.VX }, -64, 64},
		{"VY", func(b *api.Body) *int { return &b.VY }, -64, 64},
		{"Age", func(b *api.Body) *int { return &b.Age }, 0, 600},
		{"Faults", func(b *api.Body) *int { return &b.Faults }, 0, 65535},
	}
	for k := range api.Regs {
		all = append(all, field{"Mem", func(b *api.Body) *int { return &b.Mem[k] }, -1000000, 1000000})
	}
	return all
}

// with is b, with n in a field.
func with(b api.Body, f field, n int) api.Body {
	*f.at(&b) = n
	return b
}

func player(owner, x, y, vx, vy int) api.Body {
	return api.Body{Kind: api.Player, Owner: owner, X: x, Y: y, VX: vx, VY: vy}
}

func shot(owner, x, y, vx, vy int) api.Body {
	return api.Body{Kind: api.Shot, Owner: owner, X: x, Y: y, VX: vx, VY: vy}
}

// lived is b, with all that has nothing to do with its place and its speeds.
func lived(b api.Body) api.Body {
	b.Age, b.Mem, b.Faults = 17, [api.Regs]int{9, -8, 1000000, -1000000}, 65535
	return b
}

// right are Players and Shots that may be, zero ones and full ones.
func right() []api.Body {
	all := []api.Body{
		player(0, 0, 0, 0, 0), shot(0, 0, 0, 0, 0),
		player(3, 100, 200, 5, -6), shot(3, 100, 200, 5, -6),
		player(7, 4095, 4095, 64, 64), shot(7, 4095, 4095, -64, -64),
	}
	for _, b := range all[:len(all):len(all)] {
		all = append(all, lived(b))
	}
	return all
}

// noKinds are numbers that are no Kind.
func noKinds() []int {
	return []int{-1, -2, 3, 4, 5, 255, 256, 257, 1<<32 + 1, 1<<32 + 2, math.MinInt, math.MinInt + 1, math.MaxInt}
}

// beyond are numbers that may not be in a field.
func beyond(f field) []int {
	return []int{f.low - 1, f.low - 2, f.high + 1, f.high + 2, 1<<32 + f.low, -1<<32 + f.high, math.MinInt, math.MinInt + 1, math.MaxInt - 1, math.MaxInt}
}

// wrong are bodies that may not be, each for one of its numbers.
func wrong() []api.Body {
	var all []api.Body
	for _, b := range right() {
		for _, kind := range noKinds() {
			b.Kind = kind
			all = append(all, b)
		}
	}
	for _, b := range right() {
		for _, f := range fields() {
			for _, n := range beyond(f) {
				all = append(all, with(b, f, n))
			}
		}
	}
	for _, f := range fields() {
		for _, n := range []int{1, -1, 2, 5, 1 << 32, math.MinInt, math.MaxInt} {
			all = append(all, with(api.Body{}, f, n))
		}
	}
	return all
}

func wantRight(t *testing.T, b api.Body, want bool) {
	t.Helper()
	if got := body.Right(b); got != want {
		t.Errorf("11.1: Right(%+v): %v", b, got)
	}
}

func wantPush(t *testing.T, b api.Body, x, y int, want api.Body) {
	t.Helper()
	if got := body.Push(b, x, y); got != want {
		t.Errorf("11.1: Push(%+v, %d, %d): %+v, not %+v", b, x, y, got, want)
	}
}

func wantMove(t *testing.T, b, want api.Body) {
	t.Helper()
	if got, ok := body.Move(b); got != want || !ok {
		t.Errorf("11.1: Move(%+v): %+v and %v, not %+v and true", b, got, ok, want)
	}
}

func wantGone(t *testing.T, b api.Body) {
	t.Helper()
	if got, ok := body.Move(b); got != (api.Body{}) || ok {
		t.Errorf("11.1: Move(%+v): %+v and %v, not the zero Body and false", b, got, ok)
	}
}

// wantHit asks both ways.
func wantHit(t *testing.T, a, b api.Body, want bool) {
	t.Helper()
	if got := body.Hit(a, b); got != want {
		t.Errorf("11.2: Hit(%+v, %+v): %v", a, b, got)
	}
	if got := body.Hit(b, a); got != want {
		t.Errorf("11.2: Hit(%+v, %+v): %v", b, a, got)
	}
}

func wantBorn(t *testing.T, owner, players int, want api.Body) {
	t.Helper()
	if got := body.Born(owner, players); got != want {
		t.Errorf("11.2: Born(%d, %d): %+v, not %+v", owner, players, got, want)
	}
}

func wantShoot(t *testing.T, from api.Body, vx, vy int, want api.Body) {
	t.Helper()
	if got := body.Shoot(from, vx, vy); got != want {
		t.Errorf("11.2: Shoot(%+v, %d, %d): %+v, not %+v", from, vx, vy, got, want)
	}
}

// A Nobody is zero in all: one that has a number in any of its fields may not be.
func TestRightOfNobody(t *testing.T) {
	wantRight(t, api.Body{}, true)
	for _, f := range fields() {
		for _, n := range []int{1, -1, 2, 7, 1 << 31, 1 << 32, -1 << 32, math.MinInt, math.MaxInt} {
			wantRight(t, with(api.Body{}, f, n), false)
		}
	}
	for _, b := range right() {
		b.Kind = api.Nobody
		wantRight(t, b, b == api.Body{})
	}
}

func TestRightOfPlayersAndShots(t *testing.T) {
	for _, b := range right() {
		wantRight(t, b, true)
	}
}

func TestRightOfNoKinds(t *testing.T) {
	for _, kind := range noKinds() {
		wantRight(t, api.Body{Kind: kind}, false)
		for _, b := range right() {
			b.Kind = kind
			wantRight(t, b, false)
		}
	}
}

// Each number at both of its bounds and next to them, and at both ends of int.
func TestRightAtBounds(t *testing.T) {
	for _, b := range right() {
		for _, f := range fields() {
			for _, n := range []int{f.low, f.low + 1, (f.low + f.high) / 2, f.high - 1, f.high} {
				wantRight(t, with(b, f, n), true)
			}
			for _, n := range beyond(f) {
				wantRight(t, with(b, f, n), false)
			}
		}
	}
}

// All numbers at a bound at once.
func TestRightAtAllBounds(t *testing.T) {
	for _, kind := range []int{api.Player, api.Shot} {
		low, high := api.Body{Kind: kind}, api.Body{Kind: kind}
		for _, f := range fields() {
			low, high = with(low, f, f.low), with(high, f, f.high)
		}
		wantRight(t, low, true)
		wantRight(t, high, true)
	}
}

// Of a body that may not be, and of a Nobody, there is nothing, whatever else is asked.
func TestNothingOfNobody(t *testing.T) {
	for _, b := range append(wrong(), api.Body{}) {
		wantGone(t, b)
		for _, n := range []int{0, 1, -1, 64, math.MinInt, math.MaxInt} {
			wantPush(t, b, n, -n, api.Body{})
			wantShoot(t, b, n, -n, api.Body{})
		}
		wantHit(t, b, b, false)
		wantHit(t, b, api.Body{}, false)
	}
}

// One that may not be hits nobody and is not hit, whichever of the two it is, though it would be but for one number.
func TestHitOfNobody(t *testing.T) {
	aPlayer, aShot := player(6, 100, 100, 0, 0), shot(6, 100, 100, 0, 0)
	for _, c := range []struct{ b, other api.Body }{
		{player(3, 110, 90, 1, 2), aShot}, {shot(3, 110, 90, 1, 2), aPlayer},
		{lived(player(3, 110, 90, 1, 2)), lived(aShot)}, {lived(shot(3, 110, 90, 1, 2)), lived(aPlayer)},
	} {
		wantHit(t, c.b, c.other, true)
		for _, f := range fields() {
			for _, n := range beyond(f) {
				wantHit(t, with(c.b, f, n), c.other, false)
			}
		}
		for _, kind := range append(noKinds(), api.Nobody) {
			c.b.Kind = kind
			wantHit(t, c.b, aPlayer, false)
			wantHit(t, c.b, aShot, false)
		}
		wantHit(t, c.other, api.Body{}, false)
	}
}

// A Nobody is nowhere: not at 0, 0 either, where its zeros would have it.
func TestHitAtNobody(t *testing.T) {
	for owner := range 8 {
		for _, at := range []int{0, 1, 32, 33, 100} {
			wantHit(t, api.Body{}, player(owner, at, at, 0, 0), false)
			wantHit(t, api.Body{}, shot(owner, at, at, 0, 0), false)
			wantHit(t, api.Body{}, lived(player(owner, at, 0, 0, 0)), false)
			wantHit(t, api.Body{}, lived(shot(owner, 0, at, 0, 0)), false)
		}
	}
}

// Two that are both beyond the field, or one beyond and one at its end, though they are near each other.
func TestHitBeyondField(t *testing.T) {
	for _, n := range []int{-1, -20, 4096, 4120, math.MinInt, math.MaxInt} {
		end := within(n, 0, 4095)
		wantHit(t, player(1, n, 100, 0, 0), shot(2, n, 100, 0, 0), false)
		wantHit(t, player(1, 100, n, 0, 0), shot(2, 100, n, 0, 0), false)
		wantHit(t, player(1, n, 100, 0, 0), shot(2, end, 100, 0, 0), false)
		wantHit(t, player(1, end, 100, 0, 0), shot(2, n, 100, 0, 0), false)
		wantHit(t, player(1, 100, n, 0, 0), shot(2, 100, end, 0, 0), false)
		wantHit(t, player(1, 100, end, 0, 0), shot(2, 100, n, 0, 0), false)
	}
}

// within is n brought within low to high, by its words.
func within(n, low, high int) int {
	if n < low {
		return low
	}
	if n > high {
		return high
	}
	return n
}

// Pushes that are worked out by hand.
func TestPushOfFew(t *testing.T) {
	for _, c := range []struct{ vx, vy, x, y, wantX, wantY int }{
		{0, 0, 0, 0, 0, 0}, {0, 0, 1, 2, 1, 2}, {3, -4, 5, -6, 8, -10}, {10, 20, -30, -5, -20, 15}, {-7, 7, 7, -7, 0, 0},
		{60, 0, 3, 0, 63, 0}, {60, 0, 4, 0, 64, 0}, {60, 0, 5, 0, 64, 0}, {60, 0, 6, 0, 64, 0},
		{-60, 0, -3, 0, -63, 0}, {-60, 0, -4, 0, -64, 0}, {-60, 0, -5, 0, -64, 0}, {-60, 0, -6, 0, -64, 0},
		{0, 60, 0, 3, 0, 63}, {0, 60, 0, 4, 0, 64}, {0, 60, 0, 5, 0, 64}, {0, 60, 0, 6, 0, 64},
		{0, -60, 0, -3, 0, -63}, {0, -60, 0, -4, 0, -64}, {0, -60, 0, -5, 0, -64}, {0, -60, 0, -6, 0, -64},
		{64, 64, 0, 0, 64, 64}, {-64, -64, 0, 0, -64, -64}, {64, -64, 1, -1, 64, -64}, {64, -64, -1, 1, 63, -63},
		{64, 64, -127, -128, -63, -64}, {64, 64, -129, -130, -64, -64}, {-64, -64, 127, 128, 63, 64}, {-64, -64, 129, 130, 64, 64},
		{0, 0, 999, -999, 64, -64}, {0, 0, 1000, -1000, 64, -64}, {0, 0, 1001, -1001, 64, -64},
		{64, -64, -1000, 1000, -64, 64}, {64, -64, -1001, 1001, -64, 64}, {64, -64, -999, 999, -64, 64},
		{1, -1, 1 << 31, -1 << 31, 64, -64}, {1, -1, 1 << 32, -1 << 32, 64, -64}, {1, -1, -1 << 32, 1 << 32, -64, 64},
		{1, -1, math.MaxInt, math.MinInt, 64, -64}, {-1, 1, math.MinInt, math.MaxInt, -64, 64},
		{64, 64, math.MaxInt, math.MaxInt, 64, 64}, {-64, -64, math.MinInt, math.MinInt, -64, -64},
		{64, 64, math.MaxInt - 1, math.MaxInt - 63, 64, 64}, {-64, -64, math.MinInt + 1, math.MinInt + 63, -64, -64},
	} {
		for _, b := range []api.Body{player(2, 7, 8, c.vx, c.vy), shot(2, 7, 8, c.vx, c.vy), lived(player(5, 4095, 0, c.vx, c.vy)), lived(shot(0, 0, 4095, c.vx, c.vy))} {
			want := b
			want.VX, want.VY = c.wantX, c.wantY
			wantPush(t, b, c.x, c.y, want)
		}
	}
}

// Each speed pushed by each number that can come to one, both ways apart from each other: nothing else turns.
func TestPushOfEachSpeed(t *testing.T) {
	for v := -64; v <= 64; v++ {
		for n := -140; n <= 140; n++ {
			want := within(v+n, -64, 64)
			wantPush(t, lived(player(4, 9, 10, v, 3)), n, 0, lived(player(4, 9, 10, want, 3)))
			wantPush(t, lived(shot(4, 9, 10, -3, v)), 0, n, lived(shot(4, 9, 10, -3, want)))
			wantPush(t, player(4, 9, 10, v, -v), n, -n, player(4, 9, 10, want, -want))
		}
	}
}

// x and y are brought within -1000 to 1000 ahead of the sum: those beyond are as those at the bound.
func TestPushFarBeyond(t *testing.T) {
	for _, n := range []int{1000, 1001, 1002, 4096, 1<<16 + 1, 1<<31 - 1, 1 << 31, 1<<32 - 1, 1 << 32, 1<<62 + 1, math.MaxInt - 64, math.MaxInt - 63, math.MaxInt - 1, math.MaxInt} {
		for v := -64; v <= 64; v++ {
			b := lived(player(1, 2, 3, v, v))
			wantPush(t, b, n, -n, body.Push(b, 1000, -1000))
			wantPush(t, b, -n, n, body.Push(b, -1000, 1000))
			wantPush(t, b, -n-1, -n-1, lived(player(1, 2, 3, -64, -64)))
			wantPush(t, b, n, n, lived(player(1, 2, 3, 64, 64)))
		}
	}
}

// Moves of a Player that are worked out by hand.
func TestMoveOfPlayer(t *testing.T) {
	for _, c := range []struct{ x, y, vx, vy, wantX, wantY, wantVX, wantVY int }{
		{100, 200, 0, 0, 100, 200, 0, 0}, {100, 200, 3, -4, 103, 196, 3, -4}, {2048, 2048, -64, 64, 1984, 2112, -64, 64},
		{0, 0, 0, 0, 0, 0, 0, 0}, {4095, 4095, 0, 0, 4095, 4095, 0, 0}, {0, 4095, 1, -1, 1, 4094, 1, -1},
		// To just each end, one beyond it, and far beyond.
		{5, 50, -5, 0, 0, 50, -5, 0}, {5, 50, -6, 0, 0, 50, 6, 0}, {5, 50, -64, 0, 0, 50, 64, 0}, {5, 50, -4, 0, 1, 50, -4, 0},
		{4090, 50, 5, 0, 4095, 50, 5, 0}, {4090, 50, 6, 0, 4095, 50, -6, 0}, {4090, 50, 64, 0, 4095, 50, -64, 0}, {4090, 50, 4, 0, 4094, 50, 4, 0},
		{50, 5, 0, -5, 50, 0, 0, -5}, {50, 5, 0, -6, 50, 0, 0, 6}, {50, 5, 0, -64, 50, 0, 0, 64}, {50, 5, 0, -4, 50, 1, 0, -4},
		{50, 4090, 0, 5, 50, 4095, 0, 5}, {50, 4090, 0, 6, 50, 4095, 0, -6}, {50, 4090, 0, 64, 50, 4095, 0, -64}, {50, 4090, 0, 4, 50, 4094, 0, 4},
		{0, 50, -1, 0, 0, 50, 1, 0}, {4095, 50, 1, 0, 4095, 50, -1, 0}, {50, 0, 0, -1, 50, 0, 0, 1}, {50, 4095, 0, 1, 50, 4095, 0, -1},
		{64, 64, -64, -64, 0, 0, -64, -64}, {63, 63, -64, -64, 0, 0, 64, 64}, {4031, 4031, 64, 64, 4095, 4095, 64, 64}, {4032, 4032, 64, 64, 4095, 4095, -64, -64},
		// The speed of the end alone is turned about.
		{5, 50, -6, 7, 0, 57, 6, 7}, {4090, 50, 6, -7, 4095, 43, -6, -7}, {50, 5, 7, -6, 57, 0, 7, 6}, {50, 4090, -7, 6, 43, 4095, -7, -6},
		// Two ends at once, each with each.
		{5, 5, -6, -7, 0, 0, 6, 7}, {5, 4090, -6, 7, 0, 4095, 6, -7}, {4090, 5, 6, -7, 4095, 0, -6, 7}, {4090, 4090, 6, 7, 4095, 4095, -6, -7},
		{0, 0, -64, -64, 0, 0, 64, 64}, {4095, 4095, 64, 64, 4095, 4095, -64, -64}, {0, 4095, -64, 64, 0, 4095, 64, -64}, {4095, 0, 64, -64, 4095, 0, -64, 64},
		// Just one end, and beyond another.
		{5, 5, -5, -6, 0, 0, -5, 6}, {4090, 5, 6, -5, 4095, 0, -6, -5}, {5, 4090, -6, 5, 0, 4095, 6, 5}, {4090, 4090, 5, 6, 4095, 4095, 5, -6},
	} {
		b, want := player(2, c.x, c.y, c.vx, c.vy), player(2, c.wantX, c.wantY, c.wantVX, c.wantVY)
		older := lived(want)
		older.Age = 18
		wantMove(t, lived(b), older)
		want.Age = 1
		wantMove(t, b, want)
	}
}

// Moves of a Shot that are worked out by hand.
func TestMoveOfShot(t *testing.T) {
	for _, c := range []struct{ x, y, vx, vy, wantX, wantY int }{
		{100, 200, 0, 0, 100, 200}, {100, 200, 3, -4, 103, 196}, {0, 0, 0, 0, 0, 0}, {4095, 4095, 0, 0, 4095, 4095}, {2048, 2048, -64, 64, 1984, 2112},
		{5, 50, -5, 0, 0, 50}, {4090, 50, 5, 0, 4095, 50}, {50, 5, 0, -5, 50, 0}, {50, 4090, 0, 5, 50, 4095},
		{5, 4090, -5, 5, 0, 4095}, {4090, 5, 5, -5, 4095, 0}, {64, 64, -64, -64, 0, 0}, {4031, 4031, 64, 64, 4095, 4095}, {0, 4095, 1, -1, 1, 4094},
	} {
		b, want := shot(6, c.x, c.y, c.vx, c.vy), shot(6, c.wantX, c.wantY, c.vx, c.vy)
		older := lived(want)
		older.Age = 18
		wantMove(t, lived(b), older)
		want.Age = 1
		wantMove(t, b, want)
	}
	for _, c := range []struct{ x, y, vx, vy int }{
		{5, 50, -6, 0}, {5, 50, -64, 0}, {4090, 50, 6, 0}, {4090, 50, 64, 0}, {50, 5, 0, -6}, {50, 5, 0, -64}, {50, 4090, 0, 6}, {50, 4090, 0, 64},
		{0, 50, -1, 0}, {4095, 50, 1, 0}, {50, 0, 0, -1}, {50, 4095, 0, 1}, {63, 63, -64, -64}, {4032, 4032, 64, 64},
		{5, 5, -6, -7}, {5, 4090, -6, 7}, {4090, 5, 6, -7}, {4090, 4090, 6, 7}, {0, 0, -64, -64}, {4095, 4095, 64, 64}, {0, 4095, -64, 64}, {4095, 0, 64, -64},
		{5, 5, -5, -6}, {4090, 5, 6, -5}, {5, 4090, -6, 5}, {4090, 4090, 5, 6},
	} {
		wantGone(t, shot(6, c.x, c.y, c.vx, c.vy))
		wantGone(t, lived(shot(6, c.x, c.y, c.vx, c.vy)))
	}
}

// walk goes from a place one by one, as far as the speed takes it or the field goes: where it is then, and whether it would be beyond.
func walk(place, speed int) (int, bool) {
	for range max(speed, -speed) {
		switch {
		case speed > 0 && place == 4095, speed < 0 && place == 0:
			return place, true
		case speed > 0:
			place++
		default:
			place--
		}
	}
	return place, false
}

// Each speed at each place that is near an end, of X and of Y, with the other one in the midst and at its end.
func TestMoveOfEachSpeed(t *testing.T) {
	for place := range 4096 {
		if place > 66 && place < 4029 && place%97 != 0 {
			continue
		}
		for v := -64; v <= 64; v++ {
			to, out := walk(place, v)
			turned := v
			if out {
				turned = -v
			}
			want := player(1, to, 2112, turned, 64)
			want.Age = 1
			wantMove(t, player(1, place, 2048, v, 64), want)
			want = player(1, 0, to, -64, turned)
			want.Age = 1
			wantMove(t, player(1, 64, place, -64, v), want)
			if out {
				wantGone(t, shot(1, place, 2048, v, 64))
				wantGone(t, shot(1, 64, place, -64, v))
				continue
			}
			want = shot(1, to, 2112, v, 64)
			want.Age = 1
			wantMove(t, shot(1, place, 2048, v, 64), want)
			want = shot(1, 0, to, -64, v)
			want.Age = 1
			wantMove(t, shot(1, 64, place, -64, v), want)
		}
	}
}

// Each Age: a Player's is one more, at most MaxFrames; a Shot's is at most MaxLife, and it is gone above.
func TestMoveOfEachAge(t *testing.T) {
	for age := range 601 {
		b := lived(player(3, 1000, 1000, 2, -2))
		want := lived(player(3, 1002, 998, 2, -2))
		b.Age, want.Age = age, min(age+1, 600)
		wantMove(t, b, want)
		b.Kind, want.Kind = api.Shot, api.Shot
		if age < 40 {
			wantMove(t, b, want)
		} else {
			wantGone(t, b)
		}
	}
}

func TestMoveAtEndsOfAge(t *testing.T) {
	for _, c := range []struct{ kind, age, want int }{
		{api.Player, 0, 1}, {api.Player, 39, 40}, {api.Player, 40, 41}, {api.Player, 598, 599}, {api.Player, 599, 600}, {api.Player, 600, 600},
		{api.Shot, 0, 1}, {api.Shot, 38, 39}, {api.Shot, 39, 40},
	} {
		wantMove(t, api.Body{Kind: c.kind, X: 9, Y: 9, Age: c.age}, api.Body{Kind: c.kind, X: 9, Y: 9, Age: c.want})
	}
	for _, age := range []int{40, 41, 599, 600} {
		wantGone(t, api.Body{Kind: api.Shot, X: 9, Y: 9, Age: age})
	}
	// Too old and beyond the field at once.
	wantGone(t, api.Body{Kind: api.Shot, VX: -1, Age: 40})
}

// A Player frame by frame, to the end of the field and back, worked out by hand.
func TestMoveOfRun(t *testing.T) {
	b := player(1, 4000, 30, 40, -12)
	for k, want := range []api.Body{
		player(1, 4040, 18, 40, -12), player(1, 4080, 6, 40, -12), player(1, 4095, 0, -40, 12), player(1, 4055, 12, -40, 12), player(1, 4015, 24, -40, 12),
	} {
		want.Age = k + 1
		wantMove(t, b, want)
		b, _ = body.Move(b)
	}
	b = body.Push(b, 40, -12)
	for range 1000 {
		b, _ = body.Move(b)
	}
	if want := (api.Body{Kind: api.Player, Owner: 1, X: 4015, Y: 24, Age: 600}); b != want {
		t.Errorf("11.1: behind 1000 frames at rest: %+v, not %+v", b, want)
	}
}

// A Nobody stays, however often it moves.
func TestMoveOfNobody(t *testing.T) {
	b := shot(1, 4095, 0, 1, 0)
	for range 5 {
		wantGone(t, b)
		b, _ = body.Move(b)
	}
}

// A Shot at each difference about the reach, in the midst of the field.
func TestHitOfEachDifference(t *testing.T) {
	at := player(2, 2000, 1000, 0, 0)
	hits := 0
	for dx := -70; dx <= 70; dx++ {
		for dy := -70; dy <= 70; dy++ {
			near := dx >= -32 && dx <= 32 && dy >= -32 && dy <= 32
			wantHit(t, at, shot(5, 2000+dx, 1000+dy, 0, 0), near)
			if body.Hit(at, shot(5, 2000+dx, 1000+dy, 0, 0)) {
				hits++
			}
		}
	}
	if hits != 65*65 {
		t.Errorf("11.2: %d places hit, not 4225", hits)
	}
}

// Differences that are worked out by hand, at the field's ends too.
func TestHitOfFew(t *testing.T) {
	for _, c := range []struct {
		x, y, atX, atY int
		want           bool
	}{
		{50, 50, 50, 50, true}, {50, 50, 82, 50, true}, {50, 50, 83, 50, false}, {50, 50, 18, 50, true}, {50, 50, 17, 50, false},
		{50, 50, 50, 82, true}, {50, 50, 50, 83, false}, {50, 50, 50, 18, true}, {50, 50, 50, 17, false},
		{50, 50, 82, 82, true}, {50, 50, 18, 18, true}, {50, 50, 82, 18, true}, {50, 50, 18, 82, true},
		{50, 50, 83, 82, false}, {50, 50, 82, 83, false}, {50, 50, 17, 18, false}, {50, 50, 18, 17, false}, {50, 50, 83, 83, false}, {50, 50, 17, 17, false},
		{0, 0, 0, 0, true}, {0, 0, 32, 32, true}, {0, 0, 33, 0, false}, {0, 0, 0, 33, false}, {4095, 4095, 4063, 4063, true}, {4095, 4095, 4062, 4095, false}, {4095, 4095, 4095, 4062, false},
		// The field does not go round.
		{0, 0, 4095, 0, false}, {0, 0, 0, 4095, false}, {4095, 0, 0, 0, false}, {0, 4095, 4095, 0, false},
	} {
		wantHit(t, player(0, c.x, c.y, 0, 0), shot(1, c.atX, c.atY, 0, 0), c.want)
		wantHit(t, shot(7, c.x, c.y, 0, 0), player(0, c.atX, c.atY, 0, 0), c.want)
	}
}

// Only a Player and a Shot of another Owner, of each Owner, whatever their speeds, ages and faults are.
func TestHitOfKindsAndOwners(t *testing.T) {
	for a := range 8 {
		for b := range 8 {
			wantHit(t, player(a, 70, 80, 1, 2), shot(b, 70, 80, 3, 4), a != b)
			wantHit(t, lived(player(a, 70, 80, 64, 2)), shot(b, 70, 80, -64, 4), a != b)
			wantHit(t, player(a, 70, 80, 1, 2), lived(shot(b, 70, 80, 3, 4)), a != b)
			wantHit(t, lived(player(a, 70, 80, 1, 2)), lived(shot(b, 70, 80, 1, 2)), a != b)
			wantHit(t, player(a, 70, 80, 0, 0), player(b, 70, 80, 0, 0), false)
			wantHit(t, shot(a, 70, 80, 0, 0), shot(b, 70, 80, 0, 0), false)
			wantHit(t, lived(player(a, 70, 80, 0, 0)), player(b, 70, 80, 0, 0), false)
			wantHit(t, lived(shot(a, 70, 80, 0, 0)), shot(b, 70, 80, 0, 0), false)
		}
	}
}

// Where each player of each number of them is born, worked out by hand.
func bornAt() [][]int {
	return [][]int{
		{2048},
		{1024, 3072},
		{682, 2048, 3413},
		{512, 1536, 2560, 3584},
		{409, 1228, 2048, 2867, 3686},
		{341, 1024, 1706, 2389, 3072, 3754},
		{292, 877, 1462, 2048, 2633, 3218, 3803},
		{256, 768, 1280, 1792, 2304, 2816, 3328, 3840},
	}
}

func TestBornOfEach(t *testing.T) {
	for k, places := range bornAt() {
		for owner, x := range places {
			wantBorn(t, owner, k+1, api.Body{Kind: api.Player, Owner: owner, X: x, Y: 2048})
			wantRight(t, body.Born(owner, k+1), true)
		}
	}
}

// Players below 1 are one, those above MaxPlayers are as many; an owner below 0 is the first, one not below players the last.
func TestBornBeyond(t *testing.T) {
	below := []int{-1, -2, -8, -4096, -1 << 31, -1 << 32, math.MinInt, math.MinInt + 1}
	above := []int{8, 9, 15, 16, 4096, 1 << 31, 1 << 32, 1<<62 + 1, math.MaxInt - 1, math.MaxInt}
	for k, places := range bornAt() {
		last := len(places) - 1
		for _, owner := range below {
			wantBorn(t, owner, k+1, player(0, places[0], 2048, 0, 0))
		}
		for _, owner := range append(above, k+1, k+2) {
			wantBorn(t, owner, k+1, player(last, places[last], 2048, 0, 0))
		}
	}
	for _, players := range append(below, 0) {
		for _, owner := range append(append(above, below...), 0, 1, 7) {
			wantBorn(t, owner, players, player(0, 2048, 2048, 0, 0))
		}
	}
	for _, players := range above {
		for owner, x := range bornAt()[7] {
			wantBorn(t, owner, players, player(owner, x, 2048, 0, 0))
		}
		for _, owner := range above {
			wantBorn(t, owner, players, player(7, 3840, 2048, 0, 0))
		}
		for _, owner := range below {
			wantBorn(t, owner, players, player(0, 256, 2048, 0, 0))
		}
	}
}

// Speeds that are worked out by hand, from a Player and from a Shot: all else of theirs is left behind.
func TestShootOfFew(t *testing.T) {
	for _, c := range []struct{ vx, vy, wantX, wantY int }{
		{0, 0, 0, 0}, {1, -2, 1, -2}, {-30, 40, -30, 40}, {63, -63, 63, -63}, {64, -64, 64, -64}, {65, -65, 64, -64}, {-63, 63, -63, 63}, {-64, 64, -64, 64}, {-65, 65, -64, 64},
		{66, 0, 64, 0}, {0, 66, 0, 64}, {-66, 0, -64, 0}, {0, -66, 0, -64}, {1000, -1000, 64, -64}, {-1001, 1001, -64, 64},
		{1 << 32, -1 << 32, 64, -64}, {-1 << 32, 1 << 32, -64, 64}, {1<<32 + 5, 1<<32 - 5, 64, 64},
		{math.MaxInt, math.MinInt, 64, -64}, {math.MinInt, math.MaxInt, -64, 64}, {math.MaxInt - 1, math.MinInt + 1, 64, -64},
	} {
		for owner := range 8 {
			want := shot(owner, 40, 50, c.wantX, c.wantY)
			wantShoot(t, player(owner, 40, 50, 0, 0), c.vx, c.vy, want)
			wantShoot(t, shot(owner, 40, 50, 0, 0), c.vx, c.vy, want)
			wantShoot(t, lived(player(owner, 40, 50, 6, -7)), c.vx, c.vy, want)
			wantShoot(t, lived(shot(owner, 40, 50, 64, -64)), c.vx, c.vy, want)
		}
	}
	for _, at := range []int{0, 1, 4094, 4095} {
		wantShoot(t, player(1, at, 4095-at, 1, 1), 2, 3, shot(1, at, 4095-at, 2, 3))
	}
}

// A shot from one player to another, frame by frame: it hits when it is near, or is gone ahead of that.
func TestShotsBetweenPlayers(t *testing.T) {
	for _, c := range []struct{ speed, hit, gone int }{
		{64, 32, 0},  // at 3072, where the other one is; a frame ahead it is 64 away
		{63, 32, 0},  // 2016 on, just 32 away
		{51, 40, 0},  // with its last frame
		{50, 0, 41},  // 2000 on with its last frame, 48 away
		{-64, 0, 17}, // to just 0 with the 16th frame
	} {
		from, to := body.Born(0, 2), body.Born(1, 2)
		flying := body.Shoot(from, c.speed, 0)
		hit, gone := 0, 0
		for frame := 1; frame <= 50 && hit == 0 && gone == 0; frame++ {
			var ok bool
			if flying, ok = body.Move(flying); !ok {
				gone = frame
			}
			if body.Hit(flying, from) {
				t.Errorf("11.2: the shot hits its own owner in frame %d", frame)
			}
			if body.Hit(to, flying) {
				hit = frame
			}
		}
		if hit != c.hit || gone != c.gone {
			t.Errorf("11.2: a shot of speed %d hits in frame %d and is gone in %d, not %d and %d", c.speed, hit, gone, c.hit, c.gone)
		}
	}
}

// What the calls answer of bodies that may be may be, too.
func TestAnswersAreRight(t *testing.T) {
	for _, b := range right() {
		for _, f := range fields() {
			for _, n := range []int{f.low, f.low + 1, f.high - 1, f.high} {
				b := with(b, f, n)
				moved, ok := body.Move(b)
				wantRight(t, moved, true)
				if ok == (moved.Kind == api.Nobody) {
					t.Errorf("11.1: Move(%+v): %+v and %v", b, moved, ok)
				}
				for _, v := range []int{0, 63, -64, 1001, math.MinInt, math.MaxInt} {
					wantRight(t, body.Push(b, v, -v), true)
					wantRight(t, body.Shoot(b, v, -v), true)
				}
			}
		}
	}
}

// The same call again answers the same, whatever was called in between.
func TestSameAgain(t *testing.T) {
	for range 3 {
		wantRight(t, lived(shot(3, 4, 5, 6, 7)), true)
		wantRight(t, player(8, 4, 5, 6, 7), false)
		wantPush(t, player(3, 4, 5, 6, 7), 1, -1, player(3, 4, 5, 7, 6))
		wantMove(t, player(3, 4, 5, -6, 7), api.Body{Kind: api.Player, Owner: 3, X: 0, Y: 12, VX: 6, VY: 7, Age: 1})
		wantGone(t, shot(3, 4, 5, -6, 7))
		wantHit(t, player(3, 4, 5, 0, 0), shot(4, 5, 6, 0, 0), true)
		wantHit(t, player(3, 4, 5, 0, 0), shot(3, 5, 6, 0, 0), false)
		wantBorn(t, 2, 3, player(2, 3413, 2048, 0, 0))
		wantShoot(t, player(3, 4, 5, 6, 7), 100, -9, shot(3, 4, 5, 64, -9))
	}
	for _, b := range append(right(), wrong()...) {
		allowed := body.Right(b)
		pushed, shoot := body.Push(b, 9, -9), body.Shoot(b, 9, -9)
		moved, ok := body.Move(b)
		hit := body.Hit(b, shot(1, 110, 190, 0, 0))
		body.Move(moved)
		body.Push(shoot, 1, 1)
		body.Born(1, 2)
		if again, still := body.Move(b); again != moved || still != ok {
			t.Errorf("11.1: Move(%+v): %+v and %v, then %+v and %v", b, moved, ok, again, still)
		}
		wantRight(t, b, allowed)
		wantPush(t, b, 9, -9, pushed)
		wantShoot(t, b, 9, -9, shoot)
		wantHit(t, b, shot(1, 110, 190, 0, 0), hit)
	}
}
