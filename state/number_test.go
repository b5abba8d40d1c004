package state_test

import (
	"fmt"
	"math"
	"math/bits"
	"testing"

	"doubletake/api"
	"doubletake/state"
)

// number is one that a state has: where its bits begin (from its body's, if it is of one), how many there are, and its bounds.
type number struct {
	name        string
	from, width int
	low, high   int
	at          func(*api.State) *int
}

// bodyNumbers are those of the body at a place, but its Kind and its Owner, which hang on the place.
func bodyNumbers(place int) []number {
	l := []number{
		{"X", 5, 12, 0, 4095, func(s *api.State) *int { return &s.Bodies[place].X }},
		{"Y", 17, 12, 0, 4095, func(s *api.State) *int { return &s.Bodies[place].Y }},
		{"VX", 29, 8, -64, 64, func(s *api.State) *int { return &s.Bodies[place].VX }},
		{"VY", 37, 8, -64, 64, func(s *api.State) *int { return &s.Bodies[place].VY }},
		{"Age", 45, 10, 0, 600, func(s *api.State) *int { return &s.Bodies[place].Age }},
		{"Faults", 139, 16, 0, 65535, func(s *api.State) *int { return &s.Bodies[place].Faults }},
	}
	for k := range 4 {
		l = append(l, number{fmt.Sprint("Mem ", k), 55 + 21*k, 21, -1000000, 1000000, func(s *api.State) *int { return &s.Bodies[place].Mem[k] }})
	}
	return l
}

// bodyAt is where the bits of the body at a place begin; at 16, where the Scores do.
func bodyAt(s api.State, place int) int {
	at := 74
	for _, b := range s.Bodies[:place] {
		if b.Kind == api.Nobody {
			at += 2
		} else {
			at += 155
		}
	}
	return at
}

// numbers are all those of a state that stand by themselves, each from the first bit on.
func numbers(players int, s api.State) []number {
	l := []number{{"Frame", 0, 10, 0, 600, func(s *api.State) *int { return &s.Frame }}}
	for place, b := range s.Bodies {
		if b.Kind == api.Nobody {
			continue
		}
		for _, n := range bodyNumbers(place) {
			n.name = fmt.Sprint(n.name, " of ", place)
			n.from += bodyAt(s, place)
			l = append(l, n)
		}
	}
	for k := range players {
		l = append(l, number{fmt.Sprint("Score ", k), bodyAt(s, 16) + 31*k, 31, 0, 1<<31 - 1, func(s *api.State) *int { return &s.Score[k] }})
	}
	return l
}

// signed tells whether a number is laid with its sign.
func (n number) signed() bool { return n.low < 0 }

// fits tells whether the bits of a number can tell v.
func (n number) fits(v int) bool {
	if n.signed() {
		return v >= -1<<(n.width-1) && v < 1<<(n.width-1)
	}
	return v >= 0 && v < 1<<n.width
}

// values to ask for: both ends, those next to them, powers of two, what the bits can just tell, and what they would tell as another one.
func (n number) values() []int {
	l := []int{least, least + 1, greatest - 1, greatest, -1, 0, 1, (n.low + n.high) / 2}
	for _, end := range []int{n.low, n.high, 0, 1<<n.width - 1, 1<<(n.width-1) - 1, -1 << (n.width - 1)} {
		l = append(l, end-2, end-1, end, end+1, end+2)
		for _, round := range []int{8, 16, n.width, n.width + 1, 31, 32, 33, 62} {
			l = append(l, end+1<<round, end-1<<round)
		}
	}
	for k := range n.width + 2 {
		l = append(l, 1<<k, -1<<k, n.high-1<<k, n.low+1<<k)
	}
	return l
}

// swapped is a tape that has other bits from a place on.
func swapped(tape string, from int, other string) string {
	return tape[:from] + other + tape[from+len(other):]
}

// check holds one value of a number against what the chapter asks: its bits at its place, all else as it was; or nothing.
func (n number) check(t *testing.T, c api.Config, s api.State, was string, v int) {
	t.Helper()
	*n.at(&s) = v
	name := fmt.Sprint(c.Players, " players, ", n.name, " ", v)
	if v >= n.low && v <= n.high {
		taken(t, name, c, s, packed(swapped(was, n.from, digits(v, n.width))))
		return
	}
	refused(t, name, c, s)
	if n.fits(v) {
		none(t, name, c, packed(swapped(was, n.from, digits(v, n.width))))
	}
}

// TestNumbers: each by itself, at its ends, next to them and beyond.
func TestNumbers(t *testing.T) {
	for _, g := range []struct {
		players int
		s       api.State
	}{{1, crowd(1)}, {2, crowd(2, 2, 5, 15)}, {8, crowd(8, 9, 10)}} {
		was := tape(g.players, g.s)
		for _, n := range numbers(g.players, g.s) {
			for _, v := range n.values() {
				n.check(t, config(g.players), g.s, was, v)
			}
		}
	}
}

// TestSmallNumbers: all that a number's bits can tell, of those of few bits, of a Player and of a Shot.
func TestSmallNumbers(t *testing.T) {
	c, s := config(2), crowd(2, 3)
	was := tape(2, s)
	for _, n := range numbers(2, s) {
		if n.width > 12 {
			continue
		}
		for v := -1 << n.width; v <= 1<<n.width; v++ {
			if n.fits(v) {
				n.check(t, c, s, was, v)
			}
		}
	}
}

// TestAllAtEnds: all numbers lowest, and all highest.
func TestAllAtEnds(t *testing.T) {
	for players := 1; players <= 8; players++ {
		for k, s := range crowds(players) {
			low, high := s, s
			low.Dice, high.Dice = 0, 1<<64-1
			wasLow, wasHigh := tape(players, low), tape(players, high)
			for _, n := range numbers(players, s) {
				*n.at(&low), *n.at(&high) = n.low, n.high
				wasLow = swapped(wasLow, n.from, digits(n.low, n.width))
				wasHigh = swapped(wasHigh, n.from, digits(n.high, n.width))
			}
			taken(t, fmt.Sprint(players, " players, crowd ", k, ", lowest"), config(players), low, packed(wasLow))
			taken(t, fmt.Sprint(players, " players, crowd ", k, ", highest"), config(players), high, packed(wasHigh))
		}
	}
}

// TestDice: any may be, each bit by itself among them.
func TestDice(t *testing.T) {
	for players := 1; players <= 8; players += 7 {
		c, s := config(players), crowd(players, 12)
		was := tape(players, s)
		l := []uint64{0, 1, 2, 1<<64 - 1, 1<<64 - 2, 1<<63 - 1, 1 << 63, 1<<63 + 1, 0x0123456789abcdef, 0xfedcba9876543210}
		for k := range 64 {
			l = append(l, 1<<k, ^uint64(1<<k), 1<<k-1)
		}
		for _, v := range l {
			s.Dice = v
			digit := make([]byte, 64)
			for k := range digit {
				digit[k] = '0' + byte(bits.RotateLeft64(v, k+1)&1)
			}
			taken(t, fmt.Sprint(players, " players, Dice ", v), c, s, packed(swapped(was, 10, string(digit))))
		}
	}
}

// mayStand tells whether a body whose numbers may be may stand at the place: a Player at its own, and Nobody or any player's Shot at others.
func mayStand(b api.Body, place, players int) bool {
	if place < players {
		return b.Kind == 1 && b.Owner == place
	}
	return b == api.Body{} || b.Kind == 2 && b.Owner >= 0 && b.Owner < players
}

// checkStand holds what is laid, and read, of a state with the body at the place.
func checkStand(t *testing.T, c api.Config, b api.Body, place int) {
	t.Helper()
	s := crowd(c.Players, 8, 11)
	s.Bodies[place] = b
	name := fmt.Sprint(c.Players, " players, at ", place, " ", b)
	if mayStand(b, place, c.Players) {
		taken(t, name, c, s, packed(tape(c.Players, s)))
		return
	}
	refused(t, name, c, s)
	told := b.Kind >= 1 && b.Kind <= 3 && b.Owner >= 0 && b.Owner <= 7 || b == api.Body{}
	if told {
		none(t, name, c, packed(tape(c.Players, s)))
	}
}

// TestKinds: of each place, with a body's numbers and without.
func TestKinds(t *testing.T) {
	for _, players := range []int{1, 2, 5, 8} {
		for place := range 16 {
			owner := place % players
			for _, kind := range []int{least, -4, -3, -2, -1, 0, 1, 2, 3, 4, 5, 6, 7, 8, 1 << 32, 1<<32 + 1, 1<<32 + 2, greatest} {
				for _, b := range []api.Body{{}, {X: 1}, {Owner: owner}, someBody(0, owner, place)} {
					b.Kind = kind
					checkStand(t, config(players), b, place)
				}
			}
		}
	}
}

// TestOwners: a Player's is its place, a Shot's is any player.
func TestOwners(t *testing.T) {
	for players := 1; players <= 8; players++ {
		for place := range 16 {
			for _, owner := range []int{least, -8, -1, 0, 1, 2, 3, 4, 5, 6, 7, 8, 9, 15, 16, 1 << 32, 1<<32 + 1, greatest} {
				for kind := 1; kind <= 3; kind++ {
					checkStand(t, config(players), someBody(kind, owner, place), place)
				}
			}
		}
	}
}

// TestScoresBeyond: of nobody there is none, and it is not laid.
func TestScoresBeyond(t *testing.T) {
	for players := 1; players < 8; players++ {
		for k := players; k < 8; k++ {
			for _, v := range []int{least, -1, 1, 2, 1<<31 - 1, 1 << 31, 1 << 32, greatest} {
				s := crowd(players, 9)
				s.Score[k] = v
				refused(t, fmt.Sprint(players, " players, Score ", v, " of ", k), config(players), s)
			}
		}
	}
}

// TestNobodyOfMuch: a body that stands nowhere has no numbers.
func TestNobodyOfMuch(t *testing.T) {
	for _, place := range []int{2, 9, 15} {
		for _, n := range bodyNumbers(place) {
			for _, v := range []int{-1, 1, n.high} {
				s := crowd(2)
				*n.at(&s) = v
				refused(t, fmt.Sprint("Nobody at ", place, ", ", n.name, " ", v), config(2), s)
			}
		}
	}
}

// illegal is configs that are not, each by one thing alone, for a count of players.
func illegal(players int) map[string]api.Config {
	l := map[string]api.Config{"zero": {}}
	turn := func(name string, f func(*api.Config)) {
		c := config(players, ops(api.Stop, 0, 0)...)
		f(&c)
		l[name] = c
	}
	for _, n := range []int{least, -1 << 32, -1, 0, players - 1, players + 1, 9, 16, 1<<32 + players, greatest} {
		turn(fmt.Sprint("Players ", n), func(c *api.Config) { c.Players = n })
	}
	for _, n := range []int{0, 9, 16, 17, 1000} {
		turn(fmt.Sprint(n, " Players with Tokens"), func(c *api.Config) { c.Players, c.Tokens = n, tokens(n) })
	}
	turn("no Tokens", func(c *api.Config) { c.Tokens = nil })
	turn("a Token below", func(c *api.Config) { c.Tokens[0] = -1 })
	turn("a Token beyond", func(c *api.Config) { c.Tokens[players-1] = 1<<31 - 1 })
	turn("Tokens alike", func(c *api.Config) { c.Players, c.Tokens = 2, []int{5, 5} })
	turn("Period", func(c *api.Config) { c.Period = 0 })
	turn("Grace", func(c *api.Config) { c.Grace = 61 })
	turn("Start", func(c *api.Config) { c.Start = -1 })
	turn("Frames", func(c *api.Config) { c.Frames = 601 })
	turn("Seed", func(c *api.Config) { c.Seed = 1 << 31 })
	turn("Rate", func(c *api.Config) { c.Rate = -1 })
	turn("Rate NaN", func(c *api.Config) { c.Rate = math.NaN() })
	turn("Depth", func(c *api.Config) { c.Depth = 0.5 })
	turn("Depth NaN", func(c *api.Config) { c.Depth = math.NaN() })
	turn("Rules too many", func(c *api.Config) { c.Rules = make([]api.Op, 17) })
	turn("a rule that is none", func(c *api.Config) { c.Rules = []api.Op{{}} })
	return l
}

// TestIllegal: of a config that may not be nothing is laid or read, be it right for another one.
func TestIllegal(t *testing.T) {
	for _, players := range []int{1, 2, 8} {
		for name, c := range illegal(players) {
			for n := 1; n <= 8; n++ {
				s := crowd(n, 8, 15)
				refused(t, fmt.Sprint(name, ", a state of ", n), c, s)
				none(t, fmt.Sprint(name, ", a state of ", n), c, packed(tape(n, s)))
				none(t, fmt.Sprint(name, ", more than a state of ", n), c, append(packed(tape(n, s)), make([]byte, 100)...))
			}
			refused(t, name+", the zero State", c, api.State{})
			none(t, name+", no bytes", c, nil)
			none(t, name+", zero bytes", c, make([]byte, 14))
			none(t, name+", bits of no player", c, packed(tape(0, api.State{})))
		}
	}
}

// TestConfigAlike: what is laid hangs on the count of players alone.
func TestConfigAlike(t *testing.T) {
	c, s := config(3), crowd(3, 7)
	want := packed(tape(3, s))
	for name, f := range map[string]func(*api.Config){
		"Period": func(c *api.Config) { c.Period = 8 },
		"Grace":  func(c *api.Config) { c.Grace = 60 },
		"Start":  func(c *api.Config) { c.Start = 100 },
		"Frames": func(c *api.Config) { c.Frames = 1 },
		"Seed":   func(c *api.Config) { c.Seed = 0 },
		"Rate":   func(c *api.Config) { c.Rate = 0 },
		"Depth":  func(c *api.Config) { c.Depth = 1000 },
		"Rules":  func(c *api.Config) { c.Rules = ops(api.Div, 0, 0, api.Fire, 9, 9) },
		"Tokens": func(c *api.Config) { c.Tokens = []int{0, 1, 1<<31 - 2} },
	} {
		other := c
		f(&other)
		taken(t, "another "+name, other, s, want)
	}
	if b, _ := state.Lay(c, s); len(b) != len(want) {
		t.Errorf("14.1: %d bytes, must be %d", len(b), len(want))
	}
}
