package step_test

import (
	"fmt"
	"testing"

	"doubletake/api"
)

// meet is a state of a config without rules whose players stand at X, all at Y 1000.
func meet(c api.Config, x ...int) api.State {
	s := start(c)
	for k := range x {
		s.Bodies[k].X, s.Bodies[k].Y = x[k], 1000
	}
	return s
}

// again is a state in which a player was born again.
func again(s *api.State, player int) {
	faults := s.Bodies[player].Faults
	s.Bodies[player] = born(player, playersOf(*s))
	s.Bodies[player].Faults = faults
}

// TestReach: a Shot and a Player are at most 32 apart each way, behind their moves.
func TestReach(t *testing.T) {
	c := config(2)
	offs := []int{-64, -33, -32, -31, -1, 0, 1, 31, 32, 33, 64}
	for _, x := range offs {
		for _, y := range offs {
			for _, moves := range []api.Body{{}, {VX: 9, VY: -7}, {VX: -64, VY: 64}} {
				hit := x >= -32 && x <= 32 && y >= -32 && y <= 32
				s := meet(c, 3000, 1000)
				flying := shot(0, 1000+x-moves.VX, 1000+y-moves.VY)
				flying.VX, flying.VY = moves.VX, moves.VY
				s.Bodies[2] = flying
				want := later(s)
				want.Bodies[2].X, want.Bodies[2].Y = 1000+x, 1000+y
				if hit {
					want.Bodies[2], want.Score[0] = api.Body{}, 1
					again(&want, 1)
				}
				must(t, fmt.Sprint("a shot comes by ", moves, " to ", x, " ", y), c, s, nil, want)

				s = meet(c, 3000, 1000-moves.VX)
				s.Bodies[1].Y, s.Bodies[1].VX, s.Bodies[1].VY = 1000-moves.VY, moves.VX, moves.VY
				s.Bodies[2] = shot(0, 1000+x, 1000+y)
				want = later(s)
				want.Bodies[1].X, want.Bodies[1].Y = 1000, 1000
				if hit {
					want.Bodies[2], want.Score[0] = api.Body{}, 1
					again(&want, 1)
				}
				must(t, fmt.Sprint("a player comes by ", moves, " to ", x, " ", y), c, s, nil, want)
			}
		}
	}
}

// TestHitsBehindMoves: what is near ahead of the moves, or between, is no hit; nor is a shot that is gone by then.
func TestHitsBehindMoves(t *testing.T) {
	c := config(2)
	s := meet(c, 3000, 1000)
	s.Bodies[2] = shot(0, 1032, 1000)
	s.Bodies[2].VX = 1
	want := later(s)
	want.Bodies[2].X = 1033
	must(t, "it flies away", c, s, nil, want)

	s = meet(c, 3000, 1000)
	s.Bodies[1].VX, s.Bodies[2] = -64, shot(0, 968, 1000)
	s.Bodies[2].VX = 64
	want = later(s)
	want.Bodies[1].X, want.Bodies[2].X = 936, 1032
	must(t, "they pass by one another", c, s, nil, want)

	s = meet(c, 3000, 1000)
	s.Bodies[2] = shot(0, 1000, 1000)
	s.Bodies[2].Age = lastAge
	want = later(s)
	want.Bodies[2] = api.Body{}
	must(t, "too old", c, s, nil, want)
	s.Bodies[2].Age--
	want.Bodies[2], want.Score[0] = api.Body{}, 1
	again(&want, 1)
	must(t, "just old enough", c, s, nil, want)

	s = meet(c, 3000, 0)
	s.Bodies[2] = shot(0, 0, 1000)
	s.Bodies[2].VX = -1
	want = later(s)
	want.Bodies[2] = api.Body{}
	must(t, "off the field", c, s, nil, want)
	s.Bodies[2].VX = 0
	want.Score[0] = 1
	again(&want, 1)
	must(t, "at the end of the field", c, s, nil, want)
}

// TestFirstPlayer: of several that a Shot hits, the first by place is taken, but its own player never; the others stay.
func TestFirstPlayer(t *testing.T) {
	const far = 3000
	for _, l := range []struct {
		x     []int
		owner int
		taken int // -1: nobody
	}{
		{[]int{1000}, 0, -1}, {[]int{1000, far}, 0, -1}, {[]int{far, 1000}, 1, -1}, {[]int{1000, 1000}, 0, 1}, {[]int{1000, 1000}, 1, 0},
		{[]int{1010, 1000, 990}, 0, 1}, {[]int{1010, 1000, 990}, 1, 0}, {[]int{1010, 1000, 990}, 2, 0},
		{[]int{1032, 1000, 1000}, 2, 0}, {[]int{1033, 1000, 1000}, 2, 1}, {[]int{1000, far, 1000}, 0, 2}, {[]int{1000, far, far}, 0, -1},
		{[]int{far, far, 1000, 1000, far, 1000, far, 1000}, 2, 3}, {[]int{far, far, 1000, 1000, far, 1000, far, 1000}, 3, 2},
		{[]int{far, far, 1000, far, far, far, far, 1000}, 2, 7}, {[]int{1000, 1000, 1000, 1000, 1000, 1000, 1000, 1000}, 0, 1},
		{[]int{1000, 1000, 1000, 1000, 1000, 1000, 1000, 1000}, 7, 0}, {[]int{far, far, far, far, far, far, far, far}, 7, -1},
	} {
		c := config(len(l.x))
		for place := len(l.x); place < places; place++ {
			s := meet(c, l.x...)
			s.Bodies[place] = shot(l.owner, 1000, 1000)
			want := later(s)
			if l.taken >= 0 {
				want.Bodies[place] = api.Body{}
				want.Score[l.owner] = 1
				again(&want, l.taken)
			}
			must(t, fmt.Sprintf("%+v at %d", l, place), c, s, nil, want)
		}
	}
}

// TestSeveralShots: by place; who was hit stands elsewhere for those that come behind.
func TestSeveralShots(t *testing.T) {
	c := config(3) // born at 682, 2048 and 3413; Y 2048
	s := meet(c, 1000, 1000, 1000)
	s.Bodies[3], s.Bodies[4], s.Bodies[5], s.Bodies[6] = shot(0, 1000, 1000), shot(0, 1000, 1000), shot(0, 1000, 1000), shot(0, 1000, 1000)
	want := later(s)
	want.Bodies[3], want.Bodies[4] = api.Body{}, api.Body{}
	want.Score[0] = 2
	again(&want, 1)
	again(&want, 2)
	must(t, "each takes one, the rest fly on", c, s, nil, want)

	s = meet(c, 1000, 3000, 3000)
	s.Bodies[9], s.Bodies[4] = shot(1, 1000, 1000), shot(2, 1000, 1000)
	want = later(s)
	want.Bodies[4], want.Score[2] = api.Body{}, 1
	again(&want, 0)
	must(t, "the lower place takes it", c, s, nil, want)

	s = meet(c, 1000, 3000, 3000)
	s.Bodies[7], s.Bodies[8] = shot(1, 1000, 1000), shot(2, 690, 2060)
	s.Bodies[0].Faults = 9
	want = later(s)
	want.Bodies[7], want.Bodies[8] = api.Body{}, api.Body{}
	want.Score[1], want.Score[2] = 1, 1
	again(&want, 0)
	must(t, "it is hit again where it is born", c, s, nil, want)

	s.Bodies[7], s.Bodies[8] = s.Bodies[8], s.Bodies[7]
	want = later(s)
	want.Bodies[8], want.Score[1] = api.Body{}, 1
	again(&want, 0)
	must(t, "it is not where it is born yet", c, s, nil, want)

	s = meet(c, 1000, 1010, 3000)
	s.Bodies[3], s.Bodies[4] = shot(0, 1000, 1000), shot(1, 1000, 1000)
	want = later(s)
	want.Bodies[3], want.Bodies[4] = api.Body{}, api.Body{}
	want.Score = [8]int{1, 1}
	again(&want, 0)
	again(&want, 1)
	must(t, "one another", c, s, nil, want)

	s = meet(c, 1000, 3000, 1000)
	s.Bodies[3], s.Bodies[4], s.Bodies[15] = shot(0, 1000, 1000), shot(2, 1000, 1000), shot(2, 3000, 1000)
	want = later(s)
	want.Bodies[3], want.Bodies[4], want.Bodies[15] = api.Body{}, api.Body{}, api.Body{}
	want.Score = [8]int{1, 0, 2}
	again(&want, 0)
	again(&want, 1)
	again(&want, 2)
	must(t, "all of them", c, s, nil, want)
}

// TestScore: the Shot's Owner has one more, at most 2^31 - 1, and nobody else.
func TestScore(t *testing.T) {
	for players := 2; players <= 8; players++ {
		c := config(players)
		for owner := range players {
			for from, to := range map[int]int{0: 1, 1: 2, 41: 42, most - 2: most - 1, most - 1: most, most: most} {
				taken := 0
				if owner == 0 {
					taken = 1
				}
				s := meet(c)
				for k := range players {
					s.Score[k] = 100 + k
				}
				s.Score[owner] = from
				s.Bodies[players] = shot(owner, s.Bodies[taken].X, 2048)
				want := later(s)
				want.Score[owner] = to
				want.Bodies[players] = api.Body{}
				again(&want, taken)
				must(t, fmt.Sprint("player ", owner, " of ", players, " from ", from), c, s, nil, want)
			}
		}
	}
}

// TestBornAgain: with its Faults, and nothing else of it.
func TestBornAgain(t *testing.T) {
	for players := 2; players <= 8; players++ {
		for player := range players {
			for _, faults := range []int{0, 1, 300, 65534, 65535} {
				c := config(players)
				s := meet(c)
				s.Bodies[player] = api.Body{Kind: api.Player, Owner: player, X: 500, Y: 600, VX: 7, VY: -8, Age: 99, Mem: [4]int{1, -2, 3, -4}, Faults: faults}
				owner := (player + 1) % players
				s.Bodies[12] = shot(owner, 507, 592)
				want := later(s)
				want.Bodies[12], want.Score[owner] = api.Body{}, 1
				want.Bodies[player] = api.Body{Kind: api.Player, Owner: player, X: births[players][player], Y: 2048, Faults: faults}
				must(t, fmt.Sprint("player ", player, " of ", players, ", faults ", faults), c, s, nil, want)
			}
		}
	}
	// A fault of this frame is among them, and what the rules did is not.
	c := config(2, ops(api.Set, 0, 5, api.Get, 1, api.FieldButtons, api.Div, 1, 1)...)
	for faults, want := range map[int]int{0: 1, 8: 9, 65534: 65535, 65535: 65535} {
		s := meet(c, 3000, 1000)
		s.Bodies[1].Faults = faults
		s.Bodies[2] = shot(0, 1000, 1000)
		end := later(s)
		end.Bodies[2], end.Score[0] = api.Body{}, 1
		again(&end, 1)
		end.Bodies[0].Mem = [4]int{5, 1}
		end.Bodies[1].Faults = want
		must(t, "a fault, and a hit", c, s, press(3, 0), end)
		end.Bodies[1].Faults = faults
		must(t, "a register, and a hit", c, s, press(3, 3), end)
	}
}

// TestHitAtOnce: a Shot that is set in this frame hits in it.
func TestHitAtOnce(t *testing.T) {
	c := config(2, firing()...)
	s := meet(c, 1000, 1032)
	want := later(s)
	want.Bodies[0].Mem = [4]int{0, 1, 0, 1}
	want.Score[0] = 1
	again(&want, 1)
	must(t, "at 32", c, s, press(1, 0), want)

	s = meet(c, 1000, 1033)
	want = later(s)
	want.Bodies[0].Mem = [4]int{0, 1, 0, 1}
	want.Bodies[1].Mem = [4]int{0, 0, 0, 1}
	want.Bodies[2] = shot(0, 1000, 1000)
	want.Bodies[2].VX = 1
	must(t, "at 33", c, s, press(1, 0), want)

	// The Player moves ahead of the hit, the Shot that was just fired does not.
	s.Bodies[1].VX = -1
	want = later(s)
	want.Bodies[0].Mem = [4]int{0, 1, 0, 1}
	want.Score[0] = 1
	again(&want, 1)
	must(t, "at 33, and nearer", c, s, press(1, 0), want)

	// Both fire: the one that was fired first is at the lower place, and the other one hits all the same.
	s = meet(c, 1000, 1000)
	want = later(s)
	want.Score = [8]int{1, 1}
	again(&want, 0)
	again(&want, 1)
	must(t, "both", c, s, press(1, 1), want)

	// Two are fired: one takes the Player, one flies on; the place of a Shot that hit is free in the next frame alone.
	s = meet(c, 1000, 1000)
	want = later(s)
	want.Bodies[0].Mem = [4]int{0, 2, 0, 1}
	want.Score[0] = 1
	again(&want, 1)
	want.Bodies[3] = shot(0, 1000, 1000)
	want.Bodies[3].VX = 2
	must(t, "two", c, s, press(2, 0), want)
	s = want
	want = later(s)
	want.Bodies[0].Mem = [4]int{0, 3, 0, 1}
	want.Bodies[1].Mem = [4]int{0, 0, 0, 1}
	want.Bodies[2] = shot(0, 1000, 1000)
	want.Bodies[2].VX = 3
	want.Bodies[3].X = 1002
	must(t, "one more", c, s, press(1, 0), want)

	// A Shot on a place that became free in this frame hits behind one at a lower place.
	s = meet(c, 1000, 1000)
	s.Bodies[2], s.Bodies[3] = shot(1, 4000, 4000), shot(1, 4000, 4000)
	s.Bodies[3].Age = lastAge
	want = later(s)
	want.Bodies[0].Mem = [4]int{0, 1, 0, 1}
	want.Bodies[3] = api.Body{}
	want.Score[0] = 1
	again(&want, 1)
	must(t, "on a place that became free", c, s, press(1, 0), want)

	// In a game of one nobody is hit.
	c = config(1, firing()...)
	s = start(c)
	want = later(s)
	fired(&want, 0, 1, 2, 3)
	must(t, "nobody else", c, s, press(3), want)
}

// TestHitNoRoom: a Shot that hits in a frame gives no room in that frame.
func TestHitNoRoom(t *testing.T) {
	c := config(2, firing()...)
	s := meet(c, 3000, 1000)
	for k := 2; k < places; k++ {
		s.Bodies[k] = shot(0, 4000, 4000)
	}
	s.Bodies[7] = shot(0, 1000, 1000)
	want := later(s)
	want.Bodies[7], want.Score[0] = api.Body{}, 1
	again(&want, 1)
	want.Bodies[0].Faults = 1
	must(t, "full", c, s, press(1, 0), want)
	s = want
	want = later(s)
	want.Bodies[0].Mem, want.Bodies[1].Mem = [4]int{0, 1, 0, 1}, [4]int{0, 0, 0, 1}
	want.Bodies[7] = shot(0, 3000, 1000)
	want.Bodies[7].VX = 1
	must(t, "the next frame", c, s, press(1, 0), want)
}
