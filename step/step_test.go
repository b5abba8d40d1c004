package step_test

import (
	"fmt"
	"math"
	"slices"
	"strings"
	"testing"

	"doubletake/api"
	"doubletake/step"
)

// The calls are just these.
var (
	_ func(api.Config) api.State                          = step.First
	_ func(api.Config, api.State, []api.Cell) api.State   = step.Step
	_ func(api.Config, api.State, [][]api.Cell) api.State = step.Fold
	_ func(api.Config, api.State) bool                    = step.Right
	_ func(api.Config) bool                               = step.Legal
	_ struct {
		Frame  int
		Dice   uint64
		Bodies [16]api.Body
		Score  [8]int
	} = api.State{}
)

// The bounds, written out, so that they are not asked of what is tested.
const (
	places    = 16
	most      = 1<<31 - 1 // of a score
	maxFaults = 65535
	side      = 4096
	lastFrame = 600
	lastAge   = 40 // of a shot
)

const (
	least    = math.MinInt
	greatest = math.MaxInt
)

// births is where players begin, by how many there are.
var births = [][]int{
	1: {2048},
	2: {1024, 3072},
	3: {682, 2048, 3413},
	4: {512, 1536, 2560, 3584},
	5: {409, 1228, 2048, 2867, 3686},
	6: {341, 1024, 1706, 2389, 3072, 3754},
	7: {292, 877, 1462, 2048, 2633, 3218, 3803},
	8: {256, 768, 1280, 1792, 2304, 2816, 3328, 3840},
}

func born(owner, players int) api.Body {
	return api.Body{Kind: api.Player, Owner: owner, X: births[players][owner], Y: 2048}
}

// ops is a list of ops, three numbers each.
func ops(l ...int) []api.Op {
	var out []api.Op
	for k := 0; k+2 < len(l); k += 3 {
		out = append(out, api.Op{Code: l[k], A: l[k+1], B: l[k+2]})
	}
	return out
}

// config is a legal one. Behind its lists lies spare room, full of what may not be.
func config(players int, rules ...api.Op) api.Config {
	return api.Config{
		Players: players, Period: 2, Grace: 5, Start: 3, Frames: 50, Seed: 7, Rate: 1.5, Depth: 4,
		Rules:  append(slices.Clone(rules), ops(99, 0, 0, 0, 99, 0)...)[:len(rules)],
		Tokens: tokens(players),
	}
}

func tokens(n int) []int {
	var l []int
	for k := range n {
		l = append(l, 40+k)
	}
	return append(l, -1, 40)[:len(l)]
}

// start is the state ahead of all frames.
func start(c api.Config) api.State {
	s := api.State{Dice: uint64(c.Seed)*2 + 1}
	for k := range c.Players {
		s.Bodies[k] = born(k, c.Players)
	}
	return s
}

// row is of inputs that came. Behind it lies spare room with inputs of nobody.
func row(l ...api.Input) []api.Cell {
	var out []api.Cell
	for _, in := range l {
		out = append(out, api.Cell{Real: true, In: in})
	}
	noise := api.Cell{Real: true, In: api.Input{Buttons: 77, X: 64, Y: -64}}
	return append(out, noise, noise)[:len(l)]
}

// unreal is a row of the same inputs, in cells that are not Real.
func unreal(l ...api.Input) []api.Cell {
	return turnReal(row(l...))
}

// turnReal is a row of the same inputs, spare room included, in cells that are Real where l's are not.
func turnReal(l []api.Cell) []api.Cell {
	whole := slices.Clone(l[:cap(l)])
	for k := range whole {
		whole[k].Real = !whole[k].Real
	}
	return whole[:len(l)]
}

// eachReal does f with rows of cells that are Real, and of cells that are not.
func eachReal(f func(name string, row func(...api.Input) []api.Cell)) {
	f("Real", row)
	f("not Real", unreal)
}

// press is a row of buttons alone.
func press(l ...int) []api.Cell {
	var out []api.Input
	for _, n := range l {
		out = append(out, api.Input{Buttons: n})
	}
	return row(out...)
}

// shot is one that stands still.
func shot(owner, x, y int) api.Body {
	return api.Body{Kind: api.Shot, Owner: owner, X: x, Y: y}
}

// later is a state whose bodies all stand still, a frame behind.
func later(s api.State) api.State {
	s.Frame++
	for k := range s.Bodies {
		if s.Bodies[k].Kind != api.Nobody {
			s.Bodies[k].Age++
		}
	}
	return s
}

// diff tells where two states differ.
func diff(got, want api.State) string {
	var l []string
	tell := func(name string, a, b any) {
		if a != b {
			l = append(l, fmt.Sprintf("%s: %+v, must be %+v", name, a, b))
		}
	}
	tell("Frame", got.Frame, want.Frame)
	tell("Dice", got.Dice, want.Dice)
	for k := range got.Bodies {
		tell(fmt.Sprint("body ", k), got.Bodies[k], want.Bodies[k])
	}
	tell("Score", got.Score, want.Score)
	return strings.Join(l, "; ")
}

// held does a call, and holds what it was given against what that was, spare room included.
func held(t *testing.T, c api.Config, rows [][]api.Cell, call func()) {
	t.Helper()
	rules, tokens := c.Rules[:cap(c.Rules)], c.Tokens[:cap(c.Tokens)]
	wholeRules, wholeTokens := slices.Clone(rules), slices.Clone(tokens)
	rows = rows[:cap(rows)]
	var lengths []int
	var cells [][]api.Cell
	for _, r := range rows {
		lengths = append(lengths, len(r))
		cells = append(cells, slices.Clone(r[:cap(r)]))
	}
	call()
	if !slices.Equal(rules, wholeRules) || !slices.Equal(tokens, wholeTokens) {
		t.Errorf("R2: Rules or Tokens were turned: %v %v, were %v %v", rules, tokens, wholeRules, wholeTokens)
	}
	for k, r := range rows {
		if len(r) != lengths[k] || !slices.Equal(r[:cap(r)], cells[k]) {
			t.Errorf("R2: row %d was turned: %v, was %v", k, r, cells[k])
		}
	}
}

// next is Step, asked twice: it answers the same, and turns nothing of what it is given. So it does of the same inputs, Real or not.
func next(t *testing.T, c api.Config, s api.State, r []api.Cell) api.State {
	t.Helper()
	var first, again, other api.State
	held(t, c, [][]api.Cell{r}, func() {
		first = step.Step(c, s, r)
		again = step.Step(c, s, r)
		other = step.Step(c, s, turnReal(r))
	})
	if first != again {
		t.Errorf("R4: not the same again: %s", diff(again, first))
	}
	if first != other {
		t.Errorf("13.2: not the same of %v with each Real turned about: %s", r, diff(other, first))
	}
	return first
}

// must is a Step that answers what it should.
func must(t *testing.T, name string, c api.Config, s api.State, r []api.Cell, want api.State) {
	t.Helper()
	if !step.Right(c, s) {
		t.Fatalf("13.3: %s: the state is right: %+v", name, s)
	}
	got := next(t, c, s, r)
	if got != want {
		t.Errorf("13.2: %s: %s", name, diff(got, want))
	}
	if !step.Right(c, got) {
		t.Errorf("13.3: %s: what Step answers is right: %+v", name, got)
	}
}

// TestExample: the chapter's own.
func TestExample(t *testing.T) {
	c := config(1)
	s := next(t, c, step.First(c), row(api.Input{X: 64}))
	if s.Bodies[0].X != 2052 {
		t.Errorf("13.2: %+v", s)
	}
}

// pushes is how much faster a stick makes a Player: a 16th, rounded toward 0, of what is within -64 to 64.
var pushes = []struct{ from, to, push int }{
	{-64, -64, -4}, {-63, -48, -3}, {-47, -32, -2}, {-31, -16, -1}, {-15, 15, 0}, {16, 31, 1}, {32, 47, 2}, {48, 63, 3}, {64, 64, 4},
	{-67, -65, -4}, {65, 67, 4}, {-81, -79, -4}, {79, 81, 4}, {-1024, -1024, -4}, {1024, 1024, 4},
	{least, least + 1, -4}, {greatest - 1, greatest - 1, 4}, {greatest, greatest, 4}, {-1 << 32, -1 << 32, -4}, {1 << 32, 1 << 32, 4},
	{1<<32 - 64, 1<<32 - 64, 4}, {-1<<32 + 64, -1<<32 + 64, -4},
}

// eachPush goes through all sticks of pushes.
func eachPush(f func(n, push int)) {
	for _, p := range pushes {
		f(p.from, p.push)
		for n := p.from; n < p.to; n++ {
			f(n+1, p.push)
		}
	}
}

// TestStick: each way by itself, for each player, from standing and from moving, of cells that are Real and that are not.
func TestStick(t *testing.T) {
	eachReal(func(name string, row func(...api.Input) []api.Cell) {
		for _, players := range []int{1, 3, 8} {
			for player := range players {
				eachPush(func(n, push int) {
					checkStick(t, fmt.Sprint(name, ", stick ", n), row, players, player, n, push)
				})
			}
		}
	})
}

func checkStick(t *testing.T, name string, row func(...api.Input) []api.Cell, players, player, n, push int) {
	t.Helper()
	c := config(players)
	s := start(c)
	inputs := make([]api.Input, players)
	inputs[player].X = n
	want := later(s)
	want.Bodies[player].X += push
	want.Bodies[player].VX = push
	must(t, name+", as X", c, s, row(inputs...), want)

	inputs[player] = api.Input{Y: n}
	want = later(s)
	want.Bodies[player].Y += push
	want.Bodies[player].VY = push
	must(t, name+", as Y", c, s, row(inputs...), want)

	s.Bodies[player].VX, s.Bodies[player].VY = -10, 20
	inputs[player] = api.Input{X: n, Y: -48, Buttons: 255}
	want = later(s)
	want.Bodies[player].VX, want.Bodies[player].VY = -10+push, 17
	want.Bodies[player].X += -10 + push
	want.Bodies[player].Y += 17
	must(t, name+", as X while it moves", c, s, row(inputs...), want)
}

// TestSpeeds: a push is more, not instead; it goes no further than MaxSpeed; and the ends of the field turn about.
func TestSpeeds(t *testing.T) {
	c := config(1)
	for _, l := range []struct{ x, vx, stick, toX, toVX int }{
		{1000, 0, 64, 1004, 4}, {1000, 10, 64, 1014, 14}, {1000, 10, -64, 1006, 6}, {1000, -3, 64, 1001, 1}, {1000, 4, -64, 1000, 0},
		{1000, 59, 64, 1063, 63}, {1000, 60, 64, 1064, 64}, {1000, 61, 64, 1064, 64}, {1000, 64, 64, 1064, 64}, {1000, 64, 16, 1064, 64},
		{1000, 64, -16, 1063, 63}, {1000, -59, -64, 937, -63}, {1000, -60, -64, 936, -64}, {1000, -61, -64, 936, -64}, {1000, -64, -64, 936, -64},
		{4091, 0, 64, 4095, 4}, {4092, 0, 64, 4095, -4}, {4095, 0, 64, 4095, -4}, {4095, 0, 0, 4095, 0}, {4095, 1, -16, 4095, 0},
		{4095, 64, 0, 4095, -64}, {4095, -1, 0, 4094, -1}, {4, 0, -64, 0, -4}, {3, 0, -64, 0, 4}, {0, 0, -64, 0, 4}, {0, -64, 0, 0, 64}, {0, 1, 0, 1, 1},
	} {
		for _, way := range []string{"X", "Y"} {
			s := start(c)
			want := later(s)
			in := api.Input{X: l.stick}
			b, end := &s.Bodies[0], &want.Bodies[0]
			b.X, b.VX, end.X, end.VX = l.x, l.vx, l.toX, l.toVX
			if way == "Y" {
				in = api.Input{Y: l.stick}
				*b, *end = turned(*b), turned(*end)
			}
			must(t, fmt.Sprint(way, l), c, s, row(in), want)
		}
	}
}

// turned is a body whose X is its Y.
func turned(b api.Body) api.Body {
	b.X, b.Y, b.VX, b.VY = b.Y, b.X, b.VY, b.VX
	return b
}

// TestRows: nil, short, just long enough and longer; a cell that is missing is the default, one that is there is its Input, Real or not.
func TestRows(t *testing.T) {
	came := func(x int) api.Cell { return api.Cell{Real: true, In: api.Input{X: x}} }
	told := func(x int) api.Cell { return api.Cell{In: api.Input{X: x}} }
	for name, l := range map[string]struct {
		row    []api.Cell
		speeds [3]int
	}{
		"nil":                                 {nil, [3]int{}},
		"empty":                               {[]api.Cell{}, [3]int{}},
		"empty, with spare room":              {row(), [3]int{}},
		"empty, with spare room not Real":     {unreal(), [3]int{}},
		"short by two":                        {row(api.Input{X: 16}), [3]int{1}},
		"short by two, not Real":              {unreal(api.Input{X: 16}), [3]int{1}},
		"short by one":                        {row(api.Input{X: 16}, api.Input{X: 32}), [3]int{1, 2}},
		"short by one, not Real":              {unreal(api.Input{X: 16}, api.Input{X: 32}), [3]int{1, 2}},
		"just long enough":                    {row(api.Input{X: 16}, api.Input{X: 32}, api.Input{X: -64}), [3]int{1, 2, -4}},
		"just long enough, not Real":          {unreal(api.Input{X: 16}, api.Input{X: 32}, api.Input{X: -64}), [3]int{1, 2, -4}},
		"longer":                              {row(api.Input{X: 16}, api.Input{X: 32}, api.Input{X: -64}, api.Input{X: 64}), [3]int{1, 2, -4}},
		"longer, not Real":                    {unreal(api.Input{X: 16}, api.Input{X: 32}, api.Input{X: -64}, api.Input{X: 64}), [3]int{1, 2, -4}},
		"much longer":                         {append([]api.Cell{came(16), came(32), came(-64)}, slices.Repeat([]api.Cell{came(64)}, 1000)...), [3]int{1, 2, -4}},
		"zero":                                {make([]api.Cell, 3), [3]int{}},
		"zero, Real":                          {row(api.Input{}, api.Input{}, api.Input{}), [3]int{}},
		"zero, then others, Real and not":     {[]api.Cell{{}, came(32), told(-64)}, [3]int{0, 2, -4}},
		"the first one not Real":              {[]api.Cell{told(16), came(64), came(-64)}, [3]int{1, 4, -4}},
		"the second one not Real":             {[]api.Cell{came(16), told(64), came(-64)}, [3]int{1, 4, -4}},
		"the last one not Real":               {[]api.Cell{came(16), came(64), told(-64)}, [3]int{1, 4, -4}},
		"short, the last one there not Real":  {[]api.Cell{came(16), told(64)}, [3]int{1, 4}},
		"short, the first one there not Real": {[]api.Cell{told(16), came(64)}, [3]int{1, 4}},
	} {
		c := config(3)
		s := start(c)
		want := later(s)
		for k, v := range l.speeds {
			want.Bodies[k].VX = v
			want.Bodies[k].X += v
		}
		must(t, name, c, s, l.row, want)
	}
}

// TestRowsByRules: rules are told the default of a cell that is missing, and zero of one that is zero; of any other its Input, Real or not.
func TestRowsByRules(t *testing.T) {
	in := api.Input{Buttons: 3, X: 5, Y: -7}
	told, none := [4]int{3, 5, -7, 9}, [4]int{0, 0, 0, 9}
	for name, l := range map[string]struct {
		row  []api.Cell
		mems [2][4]int
	}{
		"nil":                    {nil, [2][4]int{none, none}},
		"empty":                  {unreal(), [2][4]int{none, none}},
		"short":                  {row(in), [2][4]int{told, none}},
		"short, not Real":        {unreal(in), [2][4]int{told, none}},
		"zero":                   {make([]api.Cell, 2), [2][4]int{none, none}},
		"zero, Real":             {row(api.Input{}, api.Input{}), [2][4]int{none, none}},
		"both Real":              {row(in, in), [2][4]int{told, told}},
		"neither Real":           {unreal(in, in), [2][4]int{told, told}},
		"the first one not Real": {[]api.Cell{{In: in}, {Real: true, In: in}}, [2][4]int{told, told}},
		"the last one not Real":  {[]api.Cell{{Real: true, In: in}, {In: in}}, [2][4]int{told, told}},
		"zero, then not Real":    {[]api.Cell{{}, {In: in}}, [2][4]int{none, told}},
	} {
		c := config(2, telling()...)
		s := start(c)
		s.Bodies[0].Mem, s.Bodies[1].Mem = [4]int{9, 9, 9, 9}, [4]int{9, 9, 9, 9}
		want := later(s)
		want.Bodies[0].Mem, want.Bodies[1].Mem = l.mems[0], l.mems[1]
		must(t, name, c, s, l.row, want)
	}
}

// telling is rules that tell their player's Input in registers 0 to 2.
func telling() []api.Op {
	return ops(api.Get, 0, api.FieldButtons, api.Get, 1, api.FieldStickX, api.Get, 2, api.FieldStickY)
}

// TestInputBounds: what rules see of an Input is within its bounds, be its cell Real or not.
func TestInputBounds(t *testing.T) {
	eachReal(func(name string, row func(...api.Input) []api.Cell) {
		check := func(in api.Input, buttons, x, y int) {
			t.Helper()
			checkTold(t, name, row, in, [4]int{buttons, x, y, 5})
		}
		for n, want := range map[int]int{least: 0, -1 << 32: 0, -256: 0, -2: 0, -1: 0, 0: 0, 1: 1, 128: 128, 254: 254, 255: 255, 256: 255, 257: 255, 300: 255, 511: 255, 1 << 32: 255, greatest: 255} {
			check(api.Input{Buttons: n}, want, 0, 0)
			check(api.Input{Buttons: n, X: 7, Y: -7}, want, 7, -7)
		}
		for n, want := range map[int]int{least: -64, -1 << 32: -64, -128: -64, -66: -64, -65: -64, -64: -64, -63: -63, -1: -1, 0: 0, 1: 1, 63: 63, 64: 64, 65: 64, 66: 64, 128: 64, 1 << 32: 64, greatest: 64} {
			check(api.Input{X: n}, 0, want, 0)
			check(api.Input{Y: n}, 0, 0, want)
			check(api.Input{Buttons: 9, X: n, Y: n}, 9, want, want)
		}
		for n := range 256 {
			check(api.Input{Buttons: n}, n, 0, 0)
		}
	})
}

// checkTold holds what the second of two players' rules are told of an Input against mem.
func checkTold(t *testing.T, name string, row func(...api.Input) []api.Cell, in api.Input, mem [4]int) {
	t.Helper()
	c := config(2, telling()...)
	s := start(c)
	s.Bodies[1].Mem[3] = mem[3]
	got := next(t, c, s, row(api.Input{}, in))
	if got.Bodies[1].Mem != mem || got.Bodies[0].Mem != [4]int{} {
		t.Errorf("13.2: %s: rules see %v of %+v, must be %v", name, got.Bodies[1].Mem, in, mem)
	}
}

// TestNotReal: one player's stick of 16 moves it, and each number of an Input is the same in a cell that is not Real as in one that is.
func TestNotReal(t *testing.T) {
	c := api.Config{Players: 1, Period: 1, Frames: 5, Rate: 3, Depth: 50, Tokens: []int{0}}
	for _, came := range []bool{false, true} {
		got := step.Step(c, step.First(c), []api.Cell{{Real: came, In: api.Input{X: 16}}})
		if b := got.Bodies[0]; b.X != 2049 || b.VX != 1 || b.Y != 2048 || b.VY != 0 {
			t.Errorf("13.2: Real %v, a stick of 16 to the right: %+v", came, b)
		}
	}
	// How many states the inputs make tells that they are not all one: 7 pushes each way, 5 of the buttons and 11 of the sticks within
	// their bounds; rules that fault take the push back.
	for _, l := range []struct {
		rules  []api.Op
		states int
	}{{nil, 7 * 7}, {telling(), 5 * 11 * 11}, {firing(), 3*7*7 + 1}, {busyGame(), 32}, {ops(api.Div, 0, 0), 1}} {
		if n := statesOf(t, config(2, l.rules...)); n != l.states {
			t.Errorf("13.2: rules %v: inputs make %d states, must be %d", l.rules, n, l.states)
		}
	}
}

// statesOf counts the states that inputs make, within their bounds, at them, next to them and beyond, the same of cells Real or not.
func statesOf(t *testing.T, c api.Config) int {
	t.Helper()
	sticks := []int{least, -65, -64, -63, -17, -16, -15, 0, 15, 16, 17, 63, 64, 65, greatest}
	s := start(c)
	seen := map[api.State]int{}
	for _, n := range []int{least, -1, 0, 1, 7, 254, 255, 256, 300, greatest} {
		for _, x := range sticks {
			for _, y := range sticks {
				in := api.Input{Buttons: n, X: x, Y: y}
				want := step.Step(c, s, row(in, in))
				for _, r := range [][]api.Cell{unreal(in, in), {{In: in}, {Real: true, In: in}}, {{Real: true, In: in}, {In: in}}} {
					if got := step.Step(c, s, r); got != want {
						t.Fatalf("13.2: rules %v, row %v: %s", c.Rules, r, diff(got, want))
					}
				}
				seen[want]++
			}
		}
	}
	return len(seen)
}

// TestOrder: of a Player: the push, then the rules, then the move.
func TestOrder(t *testing.T) {
	for name, l := range map[string]struct {
		rules     []api.Op
		from, end api.Body
	}{
		"rules see the pushed speeds, at the old place, at the old Age": {
			ops(api.Get, 0, api.FieldX, api.Get, 1, api.FieldVX, api.Get, 2, api.FieldVY, api.Get, 3, api.FieldAge),
			api.Body{X: 100, Y: 200, VX: 5, VY: 6, Age: 9},
			api.Body{X: 107, Y: 205, VX: 7, VY: 5, Age: 10, Mem: [4]int{100, 7, 5, 9}},
		},
		"a place that is put is moved from": {
			ops(api.Set, 0, 50, api.Put, api.FieldX, 0, api.Set, 0, 4000, api.Put, api.FieldY, 0),
			api.Body{X: 100, Y: 200, VX: 5, VY: 6},
			api.Body{X: 57, Y: 4005, VX: 7, VY: 5, Age: 1, Mem: [4]int{4000}},
		},
		"a speed that is put is moved by": {
			ops(api.Set, 0, -30, api.Put, api.FieldVX, 0, api.Set, 0, 1, api.Put, api.FieldVY, 0),
			api.Body{X: 100, Y: 200, VX: 5, VY: 6},
			api.Body{X: 70, Y: 201, VX: -30, VY: 1, Age: 1, Mem: [4]int{1}},
		},
		"a place that is put at the end, and a speed beyond it": {
			ops(api.Set, 0, 9999, api.Put, api.FieldX, 0, api.Put, api.FieldVX, 0),
			api.Body{X: 100, Y: 200, VX: 5, VY: 6},
			api.Body{X: 4095, Y: 205, VX: -64, VY: 5, Age: 1, Mem: [4]int{9999}},
		},
		"registers stay from frame to frame": {
			ops(api.Add, 0, 1, api.Mul, 2, 3),
			api.Body{X: 100, Y: 200, Mem: [4]int{1, 2, 3, 4}},
			api.Body{X: 102, Y: 199, VX: 2, VY: -1, Age: 1, Mem: [4]int{3, 2, 12, 4}},
		},
		"a push that is brought within": {
			ops(api.Get, 0, api.FieldVX, api.Get, 1, api.FieldVY),
			api.Body{X: 100, Y: 200, VX: 63, VY: -64},
			api.Body{X: 164, Y: 136, VX: 64, VY: -64, Age: 1, Mem: [4]int{64, -64}},
		},
		"the oldest Age": {
			ops(api.Get, 0, api.FieldAge),
			api.Body{X: 100, Y: 200, Age: lastFrame},
			api.Body{X: 102, Y: 199, VX: 2, VY: -1, Age: lastFrame, Mem: [4]int{600}},
		},
		"Faults are kept": {
			ops(api.Stop, 0, 0),
			api.Body{X: 100, Y: 200, Faults: 12},
			api.Body{X: 102, Y: 199, VX: 2, VY: -1, Age: 1, Faults: 12},
		},
	} {
		for _, players := range []int{1, 2, 8} {
			player := players / 2
			c := config(players, l.rules...)
			s := start(c)
			l.from.Kind, l.from.Owner, l.end.Kind, l.end.Owner = api.Player, player, api.Player, player
			s.Bodies[player] = l.from
			inputs := make([]api.Input, players)
			inputs[player] = api.Input{X: 47, Y: -31}
			got := next(t, c, s, row(inputs...))
			if got.Bodies[player] != l.end {
				t.Errorf("13.2: %s, %d players: %+v, must be %+v", name, players, got.Bodies[player], l.end)
			}
		}
	}
}

// breaking is rules that fault, each at its end.
func breaking() map[string][]api.Op {
	return map[string][]api.Op{
		"Div by 0":              ops(api.Div, 0, 3),
		"no such register":      ops(api.Set, 4, 0),
		"no such field":         ops(api.Get, 0, 8),
		"Put of Age":            ops(api.Put, api.FieldAge, 0),
		"on at none":            ops(api.Jump, 0, 99),
		"too many steps":        ops(api.Jump, 0, 0),
		"Roll below 1":          ops(api.Roll, 0, 3),
		"Fire where it is full": ops(api.Fire, 0, 0, api.Fire, 0, 0, api.Fire, 0, 0),
	}
}

// busy is ops that turn something each: registers, fields, the dice, shots. Register 3 is 0 behind them.
func busy() []api.Op {
	return ops(api.Set, 1, 1000, api.Roll, 2, 1, api.Put, api.FieldX, 1, api.Put, api.FieldY, 1,
		api.Put, api.FieldVX, 1, api.Put, api.FieldVY, 1, api.Fire, 1, 1, api.Fire, 2, 2, api.Set, 3, 0)
}

// crowded is a state of one player with room for just so many shots.
func crowded(c api.Config, room int) api.State {
	s := start(c)
	for k := c.Players; k < places-room; k++ {
		s.Bodies[k] = shot(0, 4000, 4000)
	}
	return s
}

// TestFaults: the body is as it was at the frame's beginning, its Faults one more; so are Dice and shots; and it moves all the same.
func TestFaults(t *testing.T) {
	for name, broken := range breaking() {
		for what, rules := range map[string][]api.Op{"alone": append(ops(api.Set, 3, 0), broken...), "behind others": append(busy(), broken...)} {
			c := config(1, rules...)
			for _, faults := range []int{0, 1, 7, 32767, 65533, 65534, 65535} {
				s := crowded(c, 2)
				s.Bodies[0] = api.Body{Kind: api.Player, X: 100, Y: 200, VX: 5, VY: -6, Age: 9, Mem: [4]int{1, 2, 3, 4}, Faults: faults}
				want := later(s)
				want.Bodies[0].X, want.Bodies[0].Y = 105, 194
				want.Bodies[0].Faults = min(faults+1, 65535)
				must(t, name+", "+what, c, s, row(api.Input{Buttons: 1, X: 64, Y: -64}), want)
			}
			s := crowded(c, 2)
			s.Bodies[0] = api.Body{Kind: api.Player, X: 4090, Y: 3, VX: 60, VY: -4, Age: 600, Mem: [4]int{3: 1000000}, Faults: 2}
			want := later(s)
			want.Bodies[0] = api.Body{Kind: api.Player, X: 4095, Y: 0, VX: -60, VY: 4, Age: 600, Mem: [4]int{3: 1000000}, Faults: 3}
			must(t, name+", at the ends, "+what, c, s, row(api.Input{X: -64, Y: 64}), want)
		}
	}
}

// TestEndsWell: the same busy ops without a fault turn all that.
func TestEndsWell(t *testing.T) {
	c := config(1, busy()...)
	s := crowded(c, 2)
	s.Bodies[0] = api.Body{Kind: api.Player, X: 100, Y: 200, VX: 5, VY: -6, Age: 9, Mem: [4]int{1, 2, 3, 4}, Faults: 65535}
	want := later(s)
	number := 0
	want.Dice, number = roll(s.Dice, 1000)
	want.Bodies[0] = api.Body{Kind: api.Player, X: 1064, Y: 1064, VX: 64, VY: 64, Age: 10, Mem: [4]int{1, 1000, number, 0}, Faults: 65535}
	want.Bodies[14] = api.Body{Kind: api.Shot, X: 1000, Y: 1000, VX: 64, VY: 64}
	want.Bodies[15] = api.Body{Kind: api.Shot, X: 1000, Y: 1000, VX: min(number, 64), VY: min(number, 64)}
	must(t, "busy", c, s, row(api.Input{X: 64}), want)
}

// roll is dice.Roll, by its chapter's words.
func roll(s uint64, n int) (uint64, int) {
	s = s*6364136223846793005 + 1442695040888963407
	return s, int(s>>33) % n
}

// rolling is rules that roll as often as there are buttons (up to 15), by a million; of 16 buttons and more they fault behind that.
func rolling() []api.Op {
	return ops(api.Get, 0, api.FieldButtons, api.Set, 1, 1000000, api.Set, 3, 1, api.Zero, 0, 7, api.Roll, 2, 1, api.Sub, 0, 3, api.Jump, 0, 3)
}

// TestDice: who is at a lower place rolls first, each goes on where the one ahead of it was; a fault takes its rolls back.
func TestDice(t *testing.T) {
	for _, rolls := range [][]int{
		{0}, {1}, {2}, {15}, {16}, {1, 1}, {0, 1}, {1, 0}, {2, 3}, {16, 1}, {1, 16}, {1, 1, 1}, {2, 16, 3}, {16, 16, 4}, {3, 0, 16},
		{1, 2, 3, 4, 5, 6, 7, 8}, {1, 16, 1, 255, 1, 16, 0, 1}, {16, 16, 16, 16, 16, 16, 16, 16}, {0, 0, 0, 0, 0, 0, 0, 1},
	} {
		c := config(len(rolls), rolling()...)
		s := start(c)
		want := later(s)
		for k, n := range rolls {
			b := &want.Bodies[k]
			if n > 15 {
				b.Faults = 1
				continue
			}
			b.Mem = [4]int{0, 1000000, 0, 1}
			for range n {
				want.Dice, b.Mem[2] = roll(want.Dice, 1000000)
			}
		}
		must(t, fmt.Sprint("rolls ", rolls), c, s, press(rolls...), want)
	}
	for _, dice := range []uint64{0, 1, math.MaxUint64, 1 << 63} {
		c := config(2, rolling()...)
		s := start(c)
		s.Dice = dice
		want := later(s)
		for k := range 2 {
			want.Bodies[k].Mem = [4]int{0, 1000000, 0, 1}
			want.Dice, want.Bodies[k].Mem[2] = roll(want.Dice, 1000000)
		}
		must(t, fmt.Sprint("Dice ", dice), c, s, press(1, 1), want)
	}
	s := start(config(3))
	s.Dice = 99
	must(t, "nobody rolls", config(3), s, press(1, 2, 3), later(s))
}

// firing is rules that fire as often as there are buttons (up to 12), with speed 1 to the right for the first, 2 for the second, ..
func firing() []api.Op {
	return ops(api.Get, 0, api.FieldButtons, api.Set, 3, 1, api.Zero, 0, 7, api.Add, 1, 3, api.Fire, 1, 2, api.Sub, 0, 3, api.Jump, 0, 2)
}

// fired sets shots of a player as firing leaves them, on the places.
func fired(s *api.State, player int, at ...int) {
	b := &s.Bodies[player]
	b.Mem = [4]int{0, len(at), 0, 1}
	for k, place := range at {
		s.Bodies[place] = api.Body{Kind: api.Shot, Owner: player, X: births[playersOf(*s)][player], Y: 2048, VX: k + 1}
	}
}

func playersOf(s api.State) int {
	n := 0
	for _, b := range s.Bodies {
		if b.Kind == api.Player {
			n++
		}
	}
	return n
}

// TestRoom: as many shots as there are free places, less those that were fired in this frame, by others and by oneself.
func TestRoom(t *testing.T) {
	for players := 1; players <= 3; players++ {
		c := config(players, firing()...)
		for there := 0; there <= places-players; there++ {
			if places-players-there > 9 { // more would be too many steps
				continue
			}
			s := crowded(c, places-players-there)
			room := places - players - there
			for first := 0; first <= room+1; first++ {
				for second := 0; second <= room+1; second++ {
					tries := []int{first, second, room}[:players]
					want := later(s)
					free, at := room, places-room
					for k, n := range tries {
						if n > free {
							want.Bodies[k].Faults = 1
							continue
						}
						var set []int
						for range n {
							set = append(set, at)
							at++
						}
						fired(&want, k, set...)
						free -= n
					}
					must(t, fmt.Sprint("room ", room, ", shots ", tries), c, s, press(tries...), want)
				}
			}
		}
	}
}

// TestMuchRoom: games of one have 15 places, those of MaxPlayers 8.
func TestMuchRoom(t *testing.T) {
	fires := func(n int) []api.Op {
		return slices.Repeat(ops(api.Fire, 0, 0), n)
	}
	for players := 1; players <= 8; players++ {
		for n := 1; n <= 16; n++ {
			c := config(players, fires(n)...)
			s := start(c)
			want := later(s)
			free, at := places-players, players
			for k := range players {
				if n > free {
					want.Bodies[k].Faults = 1
					continue
				}
				for range n {
					want.Bodies[at] = shot(k, births[players][k], 2048)
					at++
				}
				free -= n
			}
			must(t, fmt.Sprint(players, " players fire ", n), c, s, nil, want)
		}
	}
}

// TestNoRoomOfThisFrame: a place that becomes free in a frame gives no room in it, but a shot may be set on it.
func TestNoRoomOfThisFrame(t *testing.T) {
	c := config(1, firing()...)
	for room := range 3 {
		s := crowded(c, room)
		for k := 1; k < places-room; k++ {
			s.Bodies[k].Age = lastAge
		}
		for tries := range 5 {
			want := later(start(c))
			if tries > room {
				want.Bodies[0].Faults = 1
			} else {
				fired(&want, 0, []int{1, 2, 3, 4}[:tries]...)
			}
			must(t, fmt.Sprint("room ", room, ", ", tries, " shots, all others go"), c, s, press(tries), want)
		}
	}
}

// TestTakenBack: shots of one that faults take no room, and are set nowhere.
func TestTakenBack(t *testing.T) {
	// Fires twice, then divides by the buttons.
	c := config(3, ops(api.Fire, 0, 0, api.Fire, 0, 0, api.Get, 1, api.FieldButtons, api.Div, 1, 1)...)
	s := crowded(c, 4)
	want := later(s)
	want.Bodies[0].Faults, want.Bodies[1].Mem[1], want.Bodies[2].Mem[1] = 1, 1, 1
	want.Bodies[12], want.Bodies[13] = shot(1, 2048, 2048), shot(1, 2048, 2048)
	want.Bodies[14], want.Bodies[15] = shot(2, 3413, 2048), shot(2, 3413, 2048)
	must(t, "the first one faults", c, s, press(0, 5, 5), want)

	want = later(s)
	want.Bodies[1].Faults, want.Bodies[0].Mem[1], want.Bodies[2].Mem[1] = 1, 1, 1
	want.Bodies[12], want.Bodies[13] = shot(0, 682, 2048), shot(0, 682, 2048)
	want.Bodies[14], want.Bodies[15] = shot(2, 3413, 2048), shot(2, 3413, 2048)
	must(t, "the second one faults", c, s, press(5, 0, 5), want)

	want = later(s)
	want.Bodies[2].Faults, want.Bodies[0].Mem[1], want.Bodies[1].Mem[1] = 1, 1, 1
	want.Bodies[12], want.Bodies[13] = shot(0, 682, 2048), shot(0, 682, 2048)
	want.Bodies[14], want.Bodies[15] = shot(1, 2048, 2048), shot(1, 2048, 2048)
	must(t, "the third one has no room", c, s, press(5, 5, 5), want)
}

// TestPlaces: shots are set on the lowest free places, in the order in which they were fired, places of this frame's gone among them.
func TestPlaces(t *testing.T) {
	c := config(2, firing()...)
	for _, l := range []struct {
		stay, gone    []int // places of shots
		first, second []int // where the players' shots are set
	}{
		{nil, nil, []int{2}, nil},
		{nil, nil, nil, []int{2}},
		{nil, nil, []int{2, 3}, []int{4, 5, 6}},
		{[]int{2}, nil, []int{3}, []int{4}},
		{[]int{3}, nil, []int{2}, []int{4}},
		{[]int{3, 5, 6}, nil, []int{2, 4}, []int{7}},
		{[]int{2, 4, 6, 8, 10, 12, 14}, nil, []int{3, 5, 7}, []int{9, 11, 13, 15}},
		{[]int{15}, nil, []int{2, 3}, []int{4}},
		{[]int{2, 3, 4, 5, 6, 7, 8, 9, 10, 11, 12, 13, 14}, nil, []int{15}, nil},
		{[]int{2, 3, 4, 5, 6, 7, 8, 9, 10, 11, 12, 13, 14}, nil, nil, []int{15}},
		{[]int{3, 4, 5, 6, 7, 8, 9, 10, 11, 12, 13, 14, 15}, nil, nil, []int{2}},
		{nil, []int{2}, []int{2}, []int{3}},
		{[]int{2}, []int{3}, []int{3}, []int{4}},
		{[]int{2, 5}, []int{4, 6}, []int{3, 4}, []int{6, 7}},
		{[]int{2, 3, 4, 5, 6, 7, 8, 9, 10, 11, 12, 13}, []int{14}, []int{14}, nil},
		{[]int{4}, []int{2, 3, 5, 6, 7, 8, 9, 10, 11, 12, 13, 14}, nil, []int{2}},
		{[]int{4}, []int{2, 3, 5, 6, 7, 8, 9, 10, 11, 12}, []int{2}, []int{3, 5}},
		{nil, []int{9, 15}, []int{2}, []int{3}},
	} {
		s := start(c)
		for _, k := range l.stay {
			s.Bodies[k] = shot(k%2, 4000, 4000)
		}
		want := later(s)
		for n, k := range l.gone {
			s.Bodies[k] = shot(k%2, 0, 4000)
			if n%2 == 0 {
				s.Bodies[k].VX = -1
			} else {
				s.Bodies[k].Age = lastAge
			}
		}
		if l.first != nil || len(l.second) == 0 {
			fired(&want, 0, l.first...)
		} else {
			want.Bodies[0].Mem[3] = 1
		}
		fired(&want, 1, l.second...)
		must(t, fmt.Sprintf("%+v", l), c, s, press(len(l.first), len(l.second)), want)
	}
}

// TestShotsMove: shots fly by their speeds, at any place, for any owner; those that leave the field or are too old are gone.
func TestShotsMove(t *testing.T) {
	gone := api.Body{}
	for _, l := range []struct{ from, end api.Body }{
		{api.Body{X: 100, Y: 200, VX: 5, VY: -6}, api.Body{X: 105, Y: 194, VX: 5, VY: -6, Age: 1}},
		{api.Body{X: 100, Y: 200}, api.Body{X: 100, Y: 200, Age: 1}},
		{api.Body{X: 100, Y: 200, VX: 64, VY: -64, Age: 7}, api.Body{X: 164, Y: 136, VX: 64, VY: -64, Age: 8}},
		{api.Body{X: 100, Y: 200, Age: 38}, api.Body{X: 100, Y: 200, Age: 39}},
		{api.Body{X: 100, Y: 200, Age: 39}, api.Body{X: 100, Y: 200, Age: 40}},
		{api.Body{X: 100, Y: 200, Age: 40}, gone},
		{api.Body{X: 100, Y: 200, Age: 41}, gone},
		{api.Body{X: 100, Y: 200, Age: 600}, gone},
		{api.Body{X: 5, Y: 200, VX: -5}, api.Body{X: 0, Y: 200, VX: -5, Age: 1}},
		{api.Body{X: 4, Y: 200, VX: -5}, gone},
		{api.Body{X: 0, Y: 200, VX: -64}, gone},
		{api.Body{X: 4090, Y: 200, VX: 5}, api.Body{X: 4095, Y: 200, VX: 5, Age: 1}},
		{api.Body{X: 4091, Y: 200, VX: 5}, gone},
		{api.Body{X: 100, Y: 5, VY: -5}, api.Body{X: 100, Y: 0, VY: -5, Age: 1}},
		{api.Body{X: 100, Y: 4, VY: -5}, gone},
		{api.Body{X: 100, Y: 4090, VY: 5}, api.Body{X: 100, Y: 4095, VY: 5, Age: 1}},
		{api.Body{X: 100, Y: 4091, VY: 5}, gone},
		{api.Body{X: 100, Y: 200, VX: 1, Mem: [4]int{1, -2, 3, -4}, Faults: 5}, api.Body{X: 101, Y: 200, VX: 1, Age: 1, Mem: [4]int{1, -2, 3, -4}, Faults: 5}},
	} {
		for _, players := range []int{1, 2, 8} {
			// The rules are not for shots.
			c := config(players, ops(api.Set, 0, 7, api.Put, api.FieldVX, 1)...)
			for owner := range players {
				for place := players; place < places; place++ {
					s := start(c)
					want := later(s)
					for k := range players {
						want.Bodies[k].Mem[0] = 7
					}
					s.Bodies[place], want.Bodies[place] = l.from, l.end
					s.Bodies[place].Kind, s.Bodies[place].Owner = api.Shot, owner
					if l.end != gone {
						want.Bodies[place].Kind, want.Bodies[place].Owner = api.Shot, owner
					}
					must(t, fmt.Sprintf("a shot %+v", l.from), c, s, slices.Repeat(row(api.Input{}), players), want)
				}
			}
		}
	}
}

// TestFiredStays: a shot does not move in the frame in which it was fired; it does in the next one.
func TestFiredStays(t *testing.T) {
	c := config(1, ops(api.Get, 0, api.FieldButtons, api.Zero, 0, 4, api.Set, 1, 9, api.Fire, 1, 1)...)
	s := start(c)
	want := later(s)
	want.Bodies[0].Mem = [4]int{1, 9}
	want.Bodies[0].VX, want.Bodies[0].X = 4, 2052
	want.Bodies[1] = api.Body{Kind: api.Shot, X: 2048, Y: 2048, VX: 9, VY: 9}
	must(t, "fired", c, s, row(api.Input{Buttons: 1, X: 64}), want)
	s = want
	want = later(want)
	want.Bodies[0].Mem[0] = 0
	want.Bodies[0].X = 2056
	want.Bodies[1].X, want.Bodies[1].Y = 2057, 2057
	must(t, "fired the frame before", c, s, nil, want)
}

// TestFrame: one more, and at most MaxFrames, however many frames the config has.
func TestFrame(t *testing.T) {
	for frame, want := range map[int]int{0: 1, 1: 2, 49: 50, 50: 51, 51: 52, 598: 599, 599: 600, 600: 600} {
		for _, frames := range []int{1, 50, 600} {
			c := config(2)
			c.Frames = frames
			s := start(c)
			s.Frame = frame
			end := later(s)
			end.Frame = want
			end.Bodies[1].VY, end.Bodies[1].Y = 1, 2049
			must(t, fmt.Sprint("frame ", frame), c, s, row(api.Input{}, api.Input{Y: 17}), end)
		}
	}
}

// TestOtherNumbers: what a config says of ticks, of rates and of tokens turns no frame.
func TestOtherNumbers(t *testing.T) {
	c := config(2, firing()...)
	other := config(2, firing()...)
	other.Period, other.Grace, other.Start, other.Frames, other.Seed, other.Rate, other.Depth = 8, 60, 100, 600, 99, 0, 1000
	other.Tokens = []int{0, most - 1}
	s, r := start(c), row(api.Input{Buttons: 2, X: 64}, api.Input{Buttons: 1, Y: -33})
	for k := range 30 {
		got, again := next(t, c, s, r), next(t, other, s, r)
		if got != again {
			t.Fatalf("13.2: frame %d: %s", k, diff(again, got))
		}
		s = got
	}
}
