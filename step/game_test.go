package step_test

import (
	"math"
	"math/rand"
	"slices"
	"testing"

	"doubletake/api"
	"doubletake/rule"
	"doubletake/step"
)

// busyGame is rules by which players run along a line, fire along it by the dice while they press a button, and fault now and then.
func busyGame() []api.Op {
	return ops(api.Set, 1, 0, api.Put, api.FieldVY, 1, api.Get, 0, api.FieldButtons, api.Zero, 0, 13,
		api.Set, 3, 129, api.Roll, 2, 3, api.Set, 3, 64, api.Sub, 2, 3, api.Fire, 2, 1,
		api.Get, 1, api.FieldStickX, api.Set, 3, 8, api.Div, 1, 3, api.Div, 0, 1, api.Add, 3, 0)
}

// inputOf a player in a frame of the fixed games.
func inputOf(frame, player int) api.Input {
	in := api.Input{X: (frame*29+player*41)%129 - 64, Y: (frame*53+player*17)%129 - 64}
	if (frame+player)%3 == 0 {
		in.Buttons = (frame*7 + player*13) % 256
	}
	return in
}

func gameRow(frame, players int) []api.Cell {
	var l []api.Input
	for k := range players {
		l = append(l, inputOf(frame, k))
	}
	return row(l...)
}

// digest is one number of all that a state tells.
func digest(s api.State) uint64 {
	h := uint64(0)
	add := func(n int) { h = h*6364136223846793005 + uint64(n) + 1 }
	add(s.Frame)
	add(int(s.Dice))
	for _, b := range s.Bodies {
		for _, n := range []int{b.Kind, b.Owner, b.X, b.Y, b.VX, b.VY, b.Age, b.Mem[0], b.Mem[1], b.Mem[2], b.Mem[3], b.Faults} {
			add(n)
		}
	}
	for _, n := range s.Score {
		add(n)
	}
	return h
}

// TestGames: frame by frame, beyond the last one. The digests and the scores were worked out apart, by a script in another
// language that has its own dice, bodies and rules.
func TestGames(t *testing.T) {
	for _, g := range []struct {
		players, seed int
		rules         []api.Op
		digests       map[int]uint64
		score         [8]int
	}{
		{1, 0, nil, map[int]uint64{
			1: 0xb4bcecaf3a22f6b6, 2: 0x5255c7f6a18bc394, 3: 0xebd5a87fcf3a4450, 10: 0x9a7efa1eab3ea4c4, 40: 0x6ab95e0b4b6e9966, 100: 0x3317059c79b85833, 300: 0xfff1dc83d48d14d8, 600: 0x7aa48d924680d7f8, 650: 0x10f8f7fe491bcae6,
		}, [8]int{0, 0, 0, 0, 0, 0, 0, 0}},
		{8, 5, nil, map[int]uint64{
			1: 0x60af355e50dff9de, 2: 0xb65125a6a74541e1, 3: 0x14852d8520b601f2, 10: 0x2f296775e837cd6f, 40: 0x2ee7440d349dc2aa, 100: 0xb9b5869c051afa16, 300: 0xc5150d64a7b19d9f, 600: 0xf94cecaea31f7429, 650: 0xaff114b50452b304,
		}, [8]int{0, 0, 0, 0, 0, 0, 0, 0}},
		{1, 1, busyGame(), map[int]uint64{
			1: 0x28870dbb972ceee0, 2: 0x5488bf30deb7a002, 3: 0xe625f39f9bffb10e, 10: 0x856225ea4a2d7670, 40: 0x0237d0bdf45f5b10, 100: 0x2e3177342e314eea, 300: 0xb3f86df6f94285ce, 600: 0xa8f3c583afd71c5a, 650: 0x5127af0ec8d64de5,
		}, [8]int{0, 0, 0, 0, 0, 0, 0, 0}},
		{2, 2147483647, busyGame(), map[int]uint64{
			1: 0x03bc555c2264a5a5, 2: 0x96713e155b2af4f7, 3: 0x5fa53b1fb97383df, 10: 0x622ebaf467c4aae0, 40: 0xf5d80ed70e0237f0, 100: 0x9651182afd3e4229, 300: 0x3785da2eb8babf27, 600: 0x276d8c68d53582a8, 650: 0x37818dbb6eabdadd,
		}, [8]int{11, 8, 0, 0, 0, 0, 0, 0}},
		{3, 9, busyGame(), map[int]uint64{
			1: 0xbb8746454e944cf2, 2: 0xbecab0e218326c4c, 3: 0xfbe6677243fec680, 10: 0xe1ba27de979dd60e, 40: 0xdb2ce61cf461d0f2, 100: 0x778e2204ab613d75, 300: 0x5bbc9d0a11727857, 600: 0x4e3c5cfcc972a40e, 650: 0xdf7588324464de3b,
		}, [8]int{14, 44, 18, 0, 0, 0, 0, 0}},
		{8, 77, busyGame(), map[int]uint64{
			1: 0x4999d164b5bdabe8, 2: 0x0a39f4ff84c224ed, 3: 0xbf92a2c5478a5cc1, 10: 0x28d598935e0e7472, 40: 0xe33b79646a377a09, 100: 0x89f51c002ab1f788, 300: 0x0ee5b9652ad9d4b9, 600: 0x60e51ea78c9d267b, 650: 0x79946ff1a564820d,
		}, [8]int{25, 51, 63, 9, 13, 14, 4, 6}},
	} {
		c := config(g.players, g.rules...)
		c.Seed = g.seed
		s := step.First(c)
		for frame := range 650 {
			s = next(t, c, s, gameRow(frame, g.players))
			if !step.Right(c, s) {
				t.Fatalf("13.3: a game of %d: frame %d: %+v", g.players, frame, s)
			}
			if want, told := g.digests[frame+1]; told && digest(s) != want {
				t.Fatalf("13.2: a game of %d: behind %d frames: %x, must be %x: %+v", g.players, frame+1, digest(s), want, s)
			}
		}
		if s.Score != g.score {
			t.Errorf("13.2: a game of %d: %v, must be %v", g.players, s.Score, g.score)
		}
	}
}

// TestFirstFrames: a game of three by its numbers, also worked out apart.
func TestFirstFrames(t *testing.T) {
	c := config(3, busyGame()...)
	c.Seed = 9
	player := func(owner, x, vx, age, faults int, mem [4]int) api.Body {
		return api.Body{Kind: api.Player, Owner: owner, X: x, Y: 2048, VX: vx, Age: age, Mem: mem, Faults: faults}
	}
	flying := func(owner, x, vx, age int) api.Body {
		return api.Body{Kind: api.Shot, Owner: owner, X: x, Y: 2048, VX: vx, Age: age}
	}
	s := step.First(c)
	for frame, want := range []api.State{
		{Dice: 19, Bodies: [16]api.Body{player(0, 678, -4, 1, 0, [4]int{}), player(1, 2047, -1, 1, 0, [4]int{}), player(2, 3414, 1, 1, 0, [4]int{})}},
		{Dice: 11680818851720720806, Bodies: [16]api.Body{player(0, 672, -6, 2, 0, [4]int{}), player(1, 2046, -1, 2, 0, [4]int{}),
			player(2, 3417, 3, 2, 0, [4]int{6, 5, -60, 14}), flying(2, 3414, -60, 0)}},
		{Dice: 15645859249737979261, Bodies: [16]api.Body{player(0, 666, -6, 3, 0, [4]int{}), player(1, 2047, 1, 3, 0, [4]int{6, 4, -18, 14}),
			player(2, 3417, 0, 3, 0, [4]int{0, 0, -60, 14}), flying(2, 3354, -60, 1), flying(1, 2046, -18, 0)}},
		{Dice: 7803132824964598600, Bodies: [16]api.Body{player(0, 661, -5, 4, 0, [4]int{10, 2, -42, 18}), player(1, 2052, 5, 4, 0, [4]int{0, 0, -18, 14}),
			player(2, 3416, -1, 4, 0, [4]int{0, 0, -60, 14}), flying(2, 3294, -60, 2), flying(1, 2028, -18, 1), flying(0, 666, -42, 0)}},
		{Dice: 7803132824964598600, Bodies: [16]api.Body{player(0, 659, -2, 5, 0, [4]int{0, 0, -42, 18}), player(1, 2055, 3, 5, 0, [4]int{0, 0, -18, 14}),
			player(2, 3415, -1, 5, 1, [4]int{0, 0, -60, 14}), flying(2, 3234, -60, 3), flying(1, 2010, -18, 2), flying(0, 624, -42, 1)}},
	} {
		s = next(t, c, s, gameRow(frame, 3))
		want.Frame = frame + 1
		if s != want {
			t.Fatalf("13.2: frame %d: %s", frame, diff(s, want))
		}
	}
}

// TestOneStick: one player without rules, its stick held to the right: by a sum, till the field ends.
func TestOneStick(t *testing.T) {
	c := config(1)
	s := step.First(c)
	for frame := 1; frame <= 39; frame++ {
		s = next(t, c, s, row(api.Input{X: 64}))
		fast := min(frame, 16)
		x := 2048 + 2*fast*(fast+1) + 64*(frame-fast)
		want := api.Body{Kind: api.Player, X: x, Y: 2048, VX: 4 * fast, Age: frame}
		if s.Bodies[0] != want || s.Frame != frame || s.Dice != 15 {
			t.Fatalf("13.2: frame %d: %+v, must be %+v", frame, s.Bodies[0], want)
		}
	}
	s = next(t, c, s, row(api.Input{X: 64})) // 4064 and 64 is beyond
	if b := s.Bodies[0]; b.X != 4095 || b.VX != -64 || b.Y != 2048 || b.Age != 40 {
		t.Errorf("13.2: at the end of the field: %+v", b)
	}
}

// TestFold: Step of row behind row, of all at once, and in two parts anywhere.
func TestFold(t *testing.T) {
	for _, players := range []int{1, 3, 8} {
		c := config(players, busyGame()...)
		first := step.First(c)
		var rows [][]api.Cell
		states := []api.State{first}
		for k := range 60 {
			r := gameRow(k, players)
			switch k % 7 {
			case 3:
				r = nil
			case 5:
				r = r[:len(r)/2]
			}
			rows = append(rows, r)
			states = append(states, step.Step(c, states[k], r))
		}
		for k := range states {
			l := rows[:k]
			var got, again api.State
			held(t, c, l, func() { got, again = step.Fold(c, first, l), step.Fold(c, first, l) })
			if got != states[k] || again != got {
				t.Fatalf("13.3: Fold of %d rows: %s", k, diff(got, states[k]))
			}
			if got := step.Fold(c, states[k], rows[k:]); got != states[60] {
				t.Fatalf("13.3: Fold of the rows from %d on: %s", k, diff(got, states[60]))
			}
			for j := range k {
				if got := step.Fold(c, states[j], rows[j:k]); got != states[k] {
					t.Fatalf("13.3: Fold of the rows from %d to %d: %s", j, k, diff(got, states[k]))
				}
			}
		}
		if slices.Contains(states[1:], first) || states[1] == states[2] {
			t.Error("13.3: the states are all the same")
		}
	}
}

// TestFoldOfNone: no rows are no Step: s as it is, whatever it is.
func TestFoldOfNone(t *testing.T) {
	c := config(2)
	odd := start(c)
	odd.Bodies[0].X = -5
	for name, s := range map[string]api.State{"First": start(c), "zero": {}, "one that is not right": odd} {
		for what, conf := range map[string]api.Config{"a legal config": c, "none": {}} {
			if step.Fold(conf, s, nil) != s || step.Fold(conf, s, [][]api.Cell{}) != s || step.Fold(conf, s, [][]api.Cell{nil}[:0]) != s {
				t.Errorf("13.3: Fold of no rows, %s, %s", name, what)
			}
		}
	}
	want := later(later(start(c)))
	if got := step.Fold(c, start(c), [][]api.Cell{nil, nil}); got != want {
		t.Errorf("13.3: Fold of rows that are nil: %s", diff(got, want))
	}
	if step.Fold(c, odd, [][]api.Cell{nil}) != (api.State{}) || step.Fold(api.Config{}, start(c), [][]api.Cell{nil, nil}) != (api.State{}) {
		t.Error("13.3: Fold of what may not be must be zero")
	}
}

// The rest is a model: it has numbers and lists of its own, and asks rule.Run alone.

func bound(n, low, high int) int {
	if n < low {
		return low
	}
	if n > high {
		return high
	}
	return n
}

func sixteenth(n int) int {
	v := 0
	for k := 16; k <= 64; k += 16 {
		if n >= k {
			v++
		}
		if n <= -k {
			v--
		}
	}
	return v
}

// glide is a Player's way in one direction: where it is then, and how fast.
func glide(x, v int) (int, int) {
	switch x += v; {
	case x < 0:
		return 0, -v
	case x >= side:
		return side - 1, -v
	}
	return x, v
}

// tally counts what a sweep has met.
type tally struct{ steps, faults, fired, hits, twice, atOnce, left, reused, full, late, notReal int }

func (n *tally) player(c api.Config, s *api.State, b api.Body, r []api.Cell, free int) (api.Body, []api.Body) {
	var in api.Input
	if b.Owner < len(r) {
		if !r[b.Owner].Real && r[b.Owner].In != in {
			n.notReal++
		}
		in = r[b.Owner].In
		in = api.Input{Buttons: bound(in.Buttons, 0, 255), X: bound(in.X, -64, 64), Y: bound(in.Y, -64, 64)}
	}
	pushed := b
	pushed.VX, pushed.VY = bound(b.VX+sixteenth(in.X), -64, 64), bound(b.VY+sixteenth(in.Y), -64, 64)
	e, fault, ok := rule.Run(c.Rules, rule.Env{Body: pushed, In: in, Dice: s.Dice, Room: free})
	var shots []api.Body
	if ok {
		b, s.Dice, shots = e.Body, e.Dice, e.Shots
		n.fired += len(shots)
	} else {
		b.Faults = bound(b.Faults+1, 0, maxFaults)
		n.faults++
		if fault.Code == api.FaultFull {
			n.full++
		}
	}
	b.Age = bound(b.Age+1, 0, lastFrame)
	b.X, b.VX = glide(b.X, b.VX)
	b.Y, b.VY = glide(b.Y, b.VY)
	return b, shots
}

func (n *tally) step(c api.Config, s api.State, r []api.Cell) api.State {
	var free, left []int
	for k, b := range s.Bodies {
		if b.Kind == api.Nobody {
			free = append(free, k)
		}
	}
	room := len(free)
	var shots []api.Body
	for k, b := range s.Bodies {
		switch b.Kind {
		case api.Player:
			var own []api.Body
			s.Bodies[k], own = n.player(c, &s, b, r, room-len(shots))
			shots = append(shots, own...)
		case api.Shot:
			b.X, b.Y, b.Age = b.X+b.VX, b.Y+b.VY, bound(b.Age+1, 0, lastFrame)
			if b.X < 0 || b.X >= side || b.Y < 0 || b.Y >= side || b.Age > lastAge {
				b = api.Body{}
				left = append(left, k)
			}
			s.Bodies[k] = b
		}
	}
	free = append(free, left...)
	n.left += len(left)
	slices.Sort(free)
	for k, b := range shots {
		s.Bodies[free[k]] = b
		if slices.Contains(left, free[k]) {
			n.reused++
		}
	}
	n.hit(c, &s)
	if s.Frame++; s.Frame > lastFrame {
		s.Frame = lastFrame
		n.late++
	}
	n.steps++
	return s
}

func (n *tally) hit(c api.Config, s *api.State) {
	count := map[int]int{}
	for k := c.Players; k < places; k++ {
		b := s.Bodies[k]
		if b.Kind != api.Shot {
			continue
		}
		taken := slices.IndexFunc(s.Bodies[:c.Players], func(p api.Body) bool {
			return p.Owner != b.Owner && max(p.X-b.X, b.X-p.X, p.Y-b.Y, b.Y-p.Y) <= 32
		})
		if taken < 0 {
			continue
		}
		faults := s.Bodies[taken].Faults
		s.Bodies[taken] = born(taken, c.Players)
		s.Bodies[taken].Faults = faults
		s.Bodies[k] = api.Body{}
		if s.Score[b.Owner] < most {
			s.Score[b.Owner]++
		}
		n.hits++
		if count[taken]++; count[taken] > 1 {
			n.twice++
		}
		if b.Age == 0 {
			n.atOnce++
		}
	}
}

// pick is one of a list.
func pick(r *rand.Rand, l ...int) int { return l[r.Intn(len(l))] }

// anyBody is a right one, near the others most often.
func anyBody(r *rand.Rand, kind, owner int) api.Body {
	b := api.Body{Kind: kind, Owner: owner, X: 2000 + r.Intn(120), Y: 2000 + r.Intn(120), VX: r.Intn(41) - 20, VY: r.Intn(41) - 20, Age: r.Intn(45)}
	for k := range b.Mem {
		b.Mem[k] = pick(r, 0, 0, 1, -1, r.Intn(201)-100, 1000000, -1000000)
	}
	b.Faults = pick(r, 0, 1, r.Intn(65536), 65534, 65535)
	switch r.Intn(4) {
	case 0:
		b.X, b.Y = pick(r, 0, 1, 63, 64, 4031, 4032, 4095), r.Intn(side)
	case 1:
		b.X, b.Y = r.Intn(side), pick(r, 0, 1, 63, 64, 4031, 4032, 4095)
	case 2:
		b.VX, b.VY, b.Age = pick(r, -64, 0, 64), pick(r, -64, 0, 64), pick(r, 0, 39, 40, 41, 599, 600)
	}
	return b
}

func anyState(r *rand.Rand, c api.Config) api.State {
	s := api.State{Frame: pick(r, 0, 1, r.Intn(601), 599, 600), Dice: r.Uint64()}
	crowd := r.Intn(5)
	for k := range s.Bodies {
		if k < c.Players {
			s.Bodies[k] = anyBody(r, api.Player, k)
			s.Score[k] = pick(r, 0, 1, r.Intn(1000), most-1, most)
		} else if r.Intn(4) < crowd {
			s.Bodies[k] = anyBody(r, api.Shot, r.Intn(c.Players))
		}
	}
	return s
}

// anyRules are right ones, few of which fault at once.
func anyRules(r *rand.Rand) []api.Op {
	l := []api.Op{}
	for range r.Intn(17) {
		op := api.Op{Code: 1 + r.Intn(13), A: r.Intn(4), B: r.Intn(4)}
		switch op.Code {
		case api.Set:
			op.B = pick(r, 0, 1, -1, 20, -20, 64, 2048, r.Intn(2000001)-1000000)
		case api.Get:
			op.B = r.Intn(8)
		case api.Zero, api.Jump:
			op.B = r.Intn(17)
		case api.Stop:
			op.Code = api.Fire
		}
		if r.Intn(60) == 0 {
			op.B = r.Intn(21) - 10
		}
		l = append(l, op)
	}
	return l
}

// anyRow is of 0 to all players and more, of inputs within their bounds and far beyond.
func anyRow(r *rand.Rand, players int) []api.Cell {
	l := []api.Cell{}
	odd := func(bound int) int {
		return pick(r, 0, r.Intn(2*bound+1)-bound, bound, -bound, bound+1, -bound-1, r.Int(), -r.Int(), least, greatest)
	}
	for range pick(r, players, players, players, r.Intn(players+3)) {
		l = append(l, api.Cell{Real: r.Intn(4) > 0, In: api.Input{Buttons: odd(255), X: odd(64), Y: odd(64)}})
	}
	return l
}

// TestSweep: states, rules and rows of any kind, a few frames each, against the model.
func TestSweep(t *testing.T) {
	r := rand.New(rand.NewSource(13))
	var n tally
	for range 6000 {
		c := config(1+r.Intn(8), anyRules(r)...)
		s := anyState(r, c)
		if !step.Right(c, s) {
			t.Fatalf("13.3: it is right: %+v", s)
		}
		var rows [][]api.Cell
		end := s
		for range 5 {
			l := anyRow(r, c.Players)
			want := n.step(c, end, l)
			got := next(t, c, end, l)
			if got != want {
				t.Fatalf("13.2: %+v, rules %v, row %v: %s", end, c.Rules, l, diff(got, want))
			}
			if !step.Right(c, got) {
				t.Fatalf("13.3: Step of %+v answers one that is right: %+v", end, got)
			}
			rows = append(rows, l)
			end = got
		}
		if got := step.Fold(c, s, rows); got != end {
			t.Fatalf("13.3: Fold: %s", diff(got, end))
		}
	}
	for name, met := range map[string]int{
		"faults": n.faults, "fired": n.fired, "hits": n.hits, "hit twice in a frame": n.twice, "hit at once": n.atOnce,
		"left": n.left, "set where one left": n.reused, "full": n.full, "beyond the last frame": n.late,
		"inputs in cells that are not Real": n.notReal,
	} {
		if met < 50 {
			t.Errorf("the sweep of %d steps met %s %d times alone", n.steps, name, met)
		}
	}
}

// TestAnything: whatever is handed in, the calls end; what is not legal, or not right, is zero.
func TestAnything(t *testing.T) {
	r := rand.New(rand.NewSource(31))
	odd := func() int {
		return pick(r, 0, 1, 2, -1, 8, 9, 16, 600, 601, most, most+1, least, greatest, r.Int(), -r.Int(), r.Intn(10))
	}
	rate := func() float64 {
		return []float64{0, 1, -1, 1000, 1001, math.NaN(), math.Inf(1), math.Inf(-1), r.NormFloat64()}[r.Intn(9)]
	}
	anything := func() api.Body {
		return api.Body{Kind: odd(), Owner: odd(), X: odd(), Y: odd(), VX: odd(), VY: odd(), Age: odd(), Mem: [4]int{odd(), odd(), odd(), odd()}, Faults: odd()}
	}
	rights, legals := 0, 0
	for range 20000 {
		c := config(1 + r.Intn(8))
		s := start(c)
		for range 1 + r.Intn(3) {
			switch r.Intn(12) {
			case 0:
				c.Players = odd()
			case 1:
				*numbers[r.Intn(len(numbers))].at(&c) = odd()
			case 2:
				c.Rate, c.Depth = rate(), rate()
			case 3:
				c.Rules = slices.Repeat([]api.Op{{Code: odd(), A: odd(), B: odd()}}, r.Intn(20))
			case 4:
				c.Tokens = slices.Repeat([]int{odd()}, r.Intn(10))
			case 5:
				if len(c.Tokens) > 0 {
					c.Tokens[r.Intn(len(c.Tokens))] = odd()
				}
			case 6:
				s.Frame = odd()
			case 7:
				s.Score[r.Intn(8)] = odd()
			case 8, 9:
				s.Bodies[r.Intn(places)] = anything()
			case 10:
				s.Bodies[r.Intn(places)].Kind = odd()
			case 11:
				*bodyNumbers[r.Intn(len(bodyNumbers))].at(&s.Bodies[r.Intn(places)]) = odd()
			}
		}
		l := anyRow(r, 8)
		legal, right := step.Legal(c), step.Right(c, s)
		got := next(t, c, s, l)
		if right && !legal || !legal && step.First(c) != (api.State{}) || right != (got != api.State{}) || step.Fold(c, s, [][]api.Cell{l}) != got {
			t.Fatalf("13: %+v, %+v: legal %v, right %v: %+v", c, s, legal, right, got)
		}
		if right {
			rights++
		} else if legal {
			legals++
		}
	}
	if rights < 1000 || rights > 10000 || legals < 1000 {
		t.Errorf("%d states were right, %d were not though their config was legal", rights, legals)
	}
}
