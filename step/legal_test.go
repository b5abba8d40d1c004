package step_test

import (
	"fmt"
	"math"
	"slices"
	"testing"

	"doubletake/api"
	"doubletake/bucket"
	"doubletake/step"
)

// legality holds whether a config is legal, and what the other calls answer then.
func legality(t *testing.T, name string, c api.Config, want bool) {
	t.Helper()
	held(t, c, nil, func() {
		if step.Legal(c) != want || step.Legal(c) != want {
			t.Errorf("13.1: Legal, %s: must be %v: %+v", name, want, c)
		}
		if want {
			legalCalls(t, name, c)
		} else {
			illegalCalls(t, name, c)
		}
	})
}

func legalCalls(t *testing.T, name string, c api.Config) {
	t.Helper()
	s := start(c)
	if got := step.First(c); got != s {
		t.Errorf("13.1: First, %s: %s", name, diff(got, s))
	}
	if !step.Right(c, s) {
		t.Errorf("13.3: Right, %s: First is right", name)
	}
	if got := step.Step(c, s, nil); got == (api.State{}) || got.Frame != 1 {
		t.Errorf("13.2: Step, %s: %+v", name, got)
	}
}

// illegalCalls goes through states that are right for some legal config.
func illegalCalls(t *testing.T, name string, c api.Config) {
	t.Helper()
	zero := api.State{}
	if got := step.First(c); got != zero {
		t.Errorf("13.1: First, %s: %+v", name, got)
	}
	if step.Right(c, zero) || step.Step(c, zero, nil) != zero {
		t.Errorf("13.3: %s, with the zero State", name)
	}
	for players := 1; players <= 8; players++ {
		s := start(config(players))
		r := slices.Repeat(row(api.Input{X: 64}), players)
		if step.Right(c, s) {
			t.Errorf("13.3: Right, %s, %d players", name, players)
		}
		if got := step.Step(c, s, r); got != zero {
			t.Errorf("13.2: Step, %s, %d players: %+v", name, players, got)
		}
		if got := step.Fold(c, s, [][]api.Cell{r, r}); got != zero {
			t.Errorf("13.3: Fold, %s, %d players: %+v", name, players, got)
		}
	}
}

// numbers are those of a config that stand by themselves, and their bounds.
var numbers = []struct {
	name      string
	low, high int
	at        func(*api.Config) *int
}{
	{"Period", 1, 8, func(c *api.Config) *int { return &c.Period }},
	{"Grace", 0, 60, func(c *api.Config) *int { return &c.Grace }},
	{"Start", 0, 100, func(c *api.Config) *int { return &c.Start }},
	{"Frames", 1, 600, func(c *api.Config) *int { return &c.Frames }},
	{"Seed", 0, most, func(c *api.Config) *int { return &c.Seed }},
}

func TestLegalNumbers(t *testing.T) {
	for _, players := range []int{1, 2, 8} {
		legality(t, "ordinary", config(players), true)
		for _, n := range numbers {
			for _, v := range []int{least, -1 << 32, n.low - 2, n.low - 1, n.low, n.low + 1, (n.low + n.high) / 2,
				n.high - 1, n.high, n.high + 1, n.high + 2, n.low + 1<<32, n.high + 1<<32, greatest} {
				c := config(players)
				*n.at(&c) = v
				legality(t, fmt.Sprint(n.name, " ", v), c, v >= n.low && v <= n.high)
			}
		}
	}
	low, high := config(8), config(8)
	for _, n := range numbers {
		*n.at(&low), *n.at(&high) = n.low, n.high
	}
	legality(t, "all lowest", low, true)
	legality(t, "all highest", high, true)
	legality(t, "zero", api.Config{}, false)
}

// TestLegalPlayers: 1 to 8, and as many Tokens as there are Players.
func TestLegalPlayers(t *testing.T) {
	for players := -1; players <= 11; players++ {
		for n := 0; n <= 11; n++ {
			c := config(1)
			c.Players, c.Tokens = players, tokens(n)
			legality(t, fmt.Sprint(players, " players, ", n, " tokens"), c, players == n && players >= 1 && players <= 8)
		}
		c := config(1)
		c.Players, c.Tokens = players, nil
		legality(t, fmt.Sprint(players, " players, no tokens"), c, false)
	}
	for _, players := range []int{least, -8, 16, 1000, 1<<32 + 1, 1<<32 + 8, greatest} {
		for _, n := range []int{0, 1, 8, 16, 1000} {
			c := config(1)
			c.Players, c.Tokens = players, tokens(n)
			legality(t, fmt.Sprint(players, " players, ", n, " tokens"), c, false)
		}
	}
}

// TestLegalRates: as bucket.New takes, each by itself and all pairs.
func TestLegalRates(t *testing.T) {
	nan, inf, tiny := math.NaN(), math.Inf(1), math.SmallestNonzeroFloat64
	rates := map[float64]bool{
		0: true, tiny: true, 0.5: true, 1: true, 1000: true, 1001: true, 1e300: true, math.MaxFloat64: true,
		-tiny: false, -0.5: false, -1: false, -math.MaxFloat64: false, inf: false, -inf: false,
	}
	depths := map[float64]bool{
		1: true, math.Nextafter(1, 2): true, 1.5: true, 2: true, 999.5: true, math.Nextafter(1000, 0): true, 1000: true,
		math.Nextafter(1, 0): false, 0.5: false, tiny: false, 0: false, -1: false, -5: false, -1000: false,
		math.Nextafter(1000, 2000): false, 1001: false, math.MaxFloat64: false, inf: false, -inf: false,
	}
	for x, want := range rates {
		c := config(2)
		c.Rate = x
		legality(t, fmt.Sprint("Rate ", x), c, want)
	}
	for x, want := range depths {
		c := config(2)
		c.Depth = x
		legality(t, fmt.Sprint("Depth ", x), c, want)
	}
	nans := []float64{nan, -nan, math.Copysign(nan, -1), math.Float64frombits(0x7ff0000000000001), math.Float64frombits(0xfff0000000000001), math.Float64frombits(0xffffffffffffffff)}
	for _, x := range nans {
		c := config(2)
		c.Rate = x
		legality(t, "Rate NaN", c, false)
		c = config(2)
		c.Depth = x
		legality(t, "Depth NaN", c, false)
		c.Rate = x
		legality(t, "both NaN", c, false)
	}
	c := config(2)
	c.Rate = math.Copysign(0, -1)
	legality(t, "Rate -0", c, true)
	c = config(2)
	c.Depth = math.Copysign(0, -1)
	legality(t, "Depth -0", c, false)

	all := append(nans, math.Copysign(0, -1))
	for x := range rates {
		all = append(all, x)
	}
	for x := range depths {
		all = append(all, x)
	}
	for _, rate := range all {
		for _, depth := range all {
			c := config(2)
			c.Rate, c.Depth = rate, depth
			_, err := bucket.New(rate, depth)
			if step.Legal(c) != (err == api.OK) {
				t.Errorf("13.1: Legal of Rate %v, Depth %v; bucket.New answers %d", rate, depth, err)
			}
		}
	}
}

func TestLegalRules(t *testing.T) {
	fine := ops(api.Set, 0, 0)
	for name, l := range map[string]struct {
		rules []api.Op
		want  bool
	}{
		"nil":                        {nil, true},
		"empty":                      {[]api.Op{}, true},
		"one":                        {fine, true},
		"that break":                 {ops(api.Div, 0, 0, api.Set, 9, 0, api.Get, 0, 99, api.Jump, 0, -5), true},
		"at the bounds":              {ops(1, -1000000, 1000000, 13, 1000000, -1000000), true},
		"as many as may be":          {slices.Repeat(fine, 16), true},
		"one more":                   {slices.Repeat(fine, 17), false},
		"many more":                  {slices.Repeat(fine, 1000), false},
		"zero":                       {[]api.Op{{}}, false},
		"Code 0":                     {ops(0, 1, 1), false},
		"Code -1":                    {ops(-1, 0, 0), false},
		"Code 14":                    {ops(14, 0, 0), false},
		"A below":                    {ops(1, -1000001, 0), false},
		"A beyond":                   {ops(1, 1000001, 0), false},
		"B below":                    {ops(1, 0, -1000001), false},
		"B beyond":                   {ops(1, 0, 1000001), false},
		"the last one wrong":         {append(slices.Repeat(fine, 15), api.Op{Code: 14}), false},
		"the last one wrong, behind": {append(ops(api.Stop, 0, 0), api.Op{}), false},
	} {
		c := config(2)
		c.Rules = l.rules
		legality(t, "Rules "+name, c, l.want)
	}
	legality(t, "Rules with more in spare room", config(2, slices.Repeat(fine, 16)...), true)
}

func TestLegalTokens(t *testing.T) {
	for v, want := range map[int]bool{
		least: false, -1 << 31: false, -2: false, -1: false, 0: true, 1: true, most - 3: true, most - 2: true, most - 1: true,
		most: false, most + 1: false, 1<<32 - 1: false, 1 << 32: false, 1<<32 + 40: false, greatest: false,
	} {
		for _, players := range []int{1, 2, 5, 8} {
			for k := range players {
				c := config(players)
				c.Tokens[k] = v
				legality(t, fmt.Sprint("token ", k, " of ", players, " is ", v), c, want)
			}
		}
	}
	for players := 2; players <= 8; players++ {
		for k := range players {
			for j := range k {
				for _, v := range []int{0, 7, most - 1} {
					c := config(players)
					c.Tokens[k], c.Tokens[j] = v, v
					legality(t, fmt.Sprint("tokens ", j, " and ", k, " of ", players, " are ", v), c, false)
				}
			}
		}
	}
	for name, l := range map[string]struct {
		tokens []int
		want   bool
	}{
		"both bounds":    {[]int{0, most - 1}, true},
		"upside down":    {[]int{most - 1, 0}, true},
		"next":           {[]int{5, 6}, true},
		"alike":          {[]int{5, 5}, false},
		"alike zeros":    {[]int{0, 0}, false},
		"too few":        {[]int{5}, false},
		"none":           {[]int{}, false},
		"nil":            {nil, false},
		"too many":       {[]int{5, 6, 7}, false},
		"too many alike": {[]int{5, 6, 5}, false},
		"in spare room":  {append(make([]int, 0, 9), 5, 6, 5, -1)[:2], true},
		"below, alike":   {[]int{-1, -1}, false},
	} {
		c := config(2)
		c.Tokens = l.tokens
		legality(t, "Tokens "+name, c, l.want)
	}
	c := config(8)
	c.Tokens = []int{7, 6, 5, 4, 3, 2, 1, 0}
	legality(t, "Tokens downwards", c, true)
}

// TestFirst: of each count of players, of seeds; nothing else of a config turns it.
func TestFirst(t *testing.T) {
	for players := 1; players <= 8; players++ {
		for seed, dice := range map[int]uint64{0: 1, 1: 3, 7: 15, 1 << 30: 1<<31 + 1, most - 1: 4294967293, most: 4294967295} {
			c := config(players)
			c.Seed = seed
			s := step.First(c)
			if s.Frame != 0 || s.Dice != dice || s.Score != [8]int{} {
				t.Errorf("13.1: First of seed %d: %+v", seed, s)
			}
			for k, b := range s.Bodies {
				want := api.Body{}
				if k < players {
					want = api.Body{Kind: api.Player, Owner: k, X: births[players][k], Y: 2048}
				}
				if b != want {
					t.Errorf("13.1: First of %d players: body %d: %+v", players, k, b)
				}
			}
			other := config(players, ops(api.Roll, 0, 1, api.Fire, 0, 0)...)
			other.Period, other.Grace, other.Start, other.Frames, other.Seed, other.Rate, other.Depth = 8, 60, 100, 600, seed, 0, 1000
			other.Tokens[0] = 0
			if step.First(other) != s || step.First(c) != s {
				t.Errorf("13.1: First of %d players, seed %d, is not the same again", players, seed)
			}
		}
	}
}

// rightness holds whether a state is right, and what Step and Fold answer then.
func rightness(t *testing.T, name string, c api.Config, s api.State, want bool) {
	t.Helper()
	var got, folded api.State
	held(t, c, nil, func() {
		if step.Right(c, s) != want || step.Right(c, s) != want {
			t.Errorf("13.3: Right, %s: must be %v: %+v", name, want, s)
		}
		got, folded = step.Step(c, s, nil), step.Fold(c, s, [][]api.Cell{nil, nil})
	})
	if want && (got == (api.State{}) || folded == (api.State{})) {
		t.Errorf("13.2: %s: Step %+v, Fold %+v", name, got, folded)
	}
	if !want && (got != (api.State{}) || folded != (api.State{})) {
		t.Errorf("13.2: %s: Step %+v, Fold %+v, must be zero", name, got, folded)
	}
}

func TestRightNumbers(t *testing.T) {
	for players := 1; players <= 8; players++ {
		for v, want := range map[int]bool{least: false, -2: false, -1: false, 0: true, 1: true, 49: true, 50: true, 51: true, 599: true, 600: true, 601: false, 602: false, 1 << 32: false, greatest: false} {
			// How many frames the config has is not asked.
			for _, frames := range []int{1, 50, 600} {
				c := config(players)
				c.Frames = frames
				s := start(c)
				s.Frame = v
				rightness(t, fmt.Sprint("Frame ", v, " of ", frames), c, s, want)
			}
		}
		for v, want := range map[int]bool{least: false, -1 << 31: false, -2: false, -1: false, 0: true, 1: true, most - 1: true, most: true, most + 1: false, 1 << 32: false, greatest: false} {
			c := config(players)
			for k := range 8 {
				s := start(c)
				s.Score[k] = v
				rightness(t, fmt.Sprint("Score ", k, " of ", players, " is ", v), c, s, want && (k < players || v == 0))
			}
		}
		for _, dice := range []uint64{0, 1, 2, 1 << 63, math.MaxUint64} {
			s := start(config(players))
			s.Dice = dice
			rightness(t, fmt.Sprint("Dice ", dice), config(players), s, true)
		}
	}
	rightness(t, "zero", config(1), api.State{}, false)
	rightness(t, "zero", config(8), api.State{}, false)
}

// bodyNumbers are those of a body, and their bounds.
var bodyNumbers = []struct {
	name      string
	low, high int
	at        func(*api.Body) *int
}{
	{"X", 0, 4095, func(b *api.Body) *int { return &b.X }},
	{"Y", 0, 4095, func(b *api.Body) *int { return &b.Y }},
	{"VX", -64, 64, func(b *api.Body) *int { return &b.VX }},
	{"VY", -64, 64, func(b *api.Body) *int { return &b.VY }},
	{"Age", 0, 600, func(b *api.Body) *int { return &b.Age }},
	{"Mem 0", -1000000, 1000000, func(b *api.Body) *int { return &b.Mem[0] }},
	{"Mem 3", -1000000, 1000000, func(b *api.Body) *int { return &b.Mem[3] }},
	{"Faults", 0, 65535, func(b *api.Body) *int { return &b.Faults }},
}

// TestRightBodies: at each place, with each number at its bounds and next to them.
func TestRightBodies(t *testing.T) {
	for _, players := range []int{1, 3, 8} {
		c := config(players)
		for place := range places {
			for _, n := range bodyNumbers {
				for _, v := range []int{least, n.low - 1, n.low, n.high, n.high + 1, greatest} {
					s := start(c)
					name := fmt.Sprint(n.name, " ", v, " at ", place, " of ", players)
					if place >= players {
						*n.at(&s.Bodies[place]) = v
						rightness(t, "a Nobody, "+name, c, s, v == 0)
						s.Bodies[place] = shot(players-1, 4000, 4000)
					}
					*n.at(&s.Bodies[place]) = v
					rightness(t, name, c, s, v >= n.low && v <= n.high)
				}
			}
		}
	}
}

// TestRightPlaces: a Player at each place of a player, with that Owner; behind them Nobody, or a Shot of an Owner that plays.
func TestRightPlaces(t *testing.T) {
	for players := 1; players <= 8; players++ {
		c := config(players)
		for place := range places {
			for kind := -1; kind <= 4; kind++ {
				for _, owner := range []int{least, -1, 0, 1, 2, 3, 4, 5, 6, 7, 8, 9, greatest} {
					s := start(c)
					s.Bodies[place] = api.Body{Kind: kind, Owner: owner, X: 9, Y: 9}
					if kind == api.Nobody {
						s.Bodies[place] = api.Body{Owner: owner}
					}
					want := kind == api.Player && owner == place
					if place >= players {
						want = kind == api.Shot && owner >= 0 && owner < players || kind == api.Nobody && owner == 0
					}
					rightness(t, fmt.Sprintf("kind %d of %d at %d, %d players", kind, owner, place, players), c, s, want)
				}
			}
		}
		for other := 1; other <= 8; other++ {
			rightness(t, fmt.Sprint(other, " players, where there are ", players), c, start(config(other)), other == players)
		}
		s := start(c)
		for k := players; k < places; k++ {
			s.Bodies[k] = shot(k%players, 4000, k)
		}
		rightness(t, "shots everywhere", c, s, true)
		for k := range s.Bodies[:players] {
			s.Bodies[k].X, s.Bodies[k].Y = 0, 0
		}
		rightness(t, "all at one place", c, s, true)
		if players > 1 {
			s := start(c)
			s.Bodies[0], s.Bodies[1] = s.Bodies[1], s.Bodies[0]
			rightness(t, "two in each other's places", c, s, false)
			s = start(c)
			s.Bodies[players-1], s.Bodies[players] = api.Body{}, s.Bodies[players-1]
			rightness(t, "one a place behind", c, s, false)
		}
	}
}
