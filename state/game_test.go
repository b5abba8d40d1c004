package state_test

import (
	"fmt"
	"testing"

	"doubletake/api"
	"doubletake/state"
	"doubletake/step"
)

// busyGame is rules by which players run along a line, fire along it by the dice while they press a button, and fault now and then.
func busyGame() []api.Op {
	return ops(api.Set, 1, 0, api.Put, api.FieldVY, 1, api.Get, 0, api.FieldButtons, api.Zero, 0, 13,
		api.Set, 3, 129, api.Roll, 2, 3, api.Set, 3, 64, api.Sub, 2, 3, api.Fire, 2, 1,
		api.Get, 1, api.FieldStickX, api.Set, 3, 8, api.Div, 1, 3, api.Div, 0, 1, api.Add, 3, 0)
}

// gameRow is what players do in a frame of the fixed games.
func gameRow(frame, players int) []api.Cell {
	var l []api.Cell
	for k := range players {
		in := api.Input{X: (frame*29+k*41)%129 - 64, Y: (frame*53+k*17)%129 - 64}
		if (frame+k)%3 == 0 {
			in.Buttons = (frame*7 + k*13) % 256
		}
		l = append(l, api.Cell{Real: true, In: in})
	}
	return l
}

// seen is what a game had in some frame.
type seen struct {
	shots, among, scores, faults bool
}

// note looks at a state; a Nobody is among others, if a Shot stands behind it.
func (g *seen) note(s api.State) {
	nobody := false
	for _, b := range s.Bodies {
		nobody = nobody || b.Kind == api.Nobody
		g.among = g.among || nobody && b.Kind == api.Shot
		g.faults = g.faults || b.Faults > 0
		g.shots = g.shots || b.Kind == api.Shot
	}
	for _, n := range s.Score {
		g.scores = g.scores || n > 0
	}
}

// TestGames: frame by frame, beyond the last one. The marks were worked out apart, of these games' states, by a script in another
// language that has its own bits and tags.
func TestGames(t *testing.T) {
	all := seen{}
	for _, g := range []struct {
		players int
		rules   []api.Op
		marks   map[int]int
	}{
		{1, nil, map[int]int{
			0: 4165159686817970720, 1: 4216138657280177237, 2: 2730864615452881559, 10: 4043919097219678919, 57: 1020707715842395470,
			100: 3997603763310914477, 300: 4157572996453241348, 600: 1284655575386080170, 609: 984885837446170032,
		}},
		{1, busyGame(), map[int]int{
			0: 4165159686817970720, 1: 1095571787575279170, 2: 2701544162199624959, 10: 4094947442156377430, 57: 3066799886522131687,
			100: 4561175582529180277, 300: 815318223299699894, 600: 1875552710548763755, 609: 3802237262895306864,
		}},
		{2, nil, map[int]int{
			0: 2895449745202379239, 1: 4354039565376577878, 2: 2470688852503584343, 10: 1276872098972420689, 57: 3935737637774043790,
			100: 3288336379912657543, 300: 2340806827356422224, 600: 2727959298471781006, 609: 2512911853523984776,
		}},
		{2, busyGame(), map[int]int{
			0: 2895449745202379239, 1: 1454536064806562608, 2: 3806595669852065455, 10: 2186158403642323569, 57: 4461665832372768164,
			100: 1780445970185082654, 300: 3608176064127509706, 600: 4516596907056666926, 609: 1156312306818587289,
		}},
		{3, nil, map[int]int{
			0: 4124539811047344053, 1: 4424665144362241156, 2: 3817860709823017388, 10: 25657533493065800, 57: 2897114130955478375,
			100: 4069826379404428430, 300: 3882765130348961312, 600: 1565048635721564258, 609: 440422746651741647,
		}},
		{3, busyGame(), map[int]int{
			0: 4124539811047344053, 1: 3248374891801313537, 2: 2526912905418867889, 10: 3178727586456214468, 57: 2138144726644056615,
			100: 450131428152724655, 300: 3086004373447752775, 600: 886146074056484319, 609: 1727270582058676848,
		}},
		{8, nil, map[int]int{
			0: 3852353132380480606, 1: 2064151138605003748, 2: 2720941695343508212, 10: 2591429840542858819, 57: 4446379644071162956,
			100: 2648829860130019402, 300: 3700670235480760009, 600: 2042897507963236291, 609: 3229251942645202408,
		}},
		{8, busyGame(), map[int]int{
			0: 3852353132380480606, 1: 4077323790990105746, 2: 1356165786643947641, 10: 2432038816482998994, 57: 3889713980421415551,
			100: 394271483647428001, 300: 537326893234614751, 600: 70282631272526167, 609: 1312287494435626750,
		}},
	} {
		c := config(g.players, g.rules...)
		s := step.First(c)
		for frame := range 610 {
			all.note(s)
			taken(t, fmt.Sprint("a game of ", g.players, ", frame ", frame), c, s, packed(tape(g.players, s)))
			if want, told := g.marks[frame]; told && state.Mark(c, s) != want {
				t.Errorf("14.1: Mark: a game of %d, frame %d: %d, must be %d", g.players, frame, state.Mark(c, s), want)
			}
			was := s
			s = step.Step(c, s, gameRow(frame, g.players))
			differ(t, fmt.Sprint("a game of ", g.players, ", frames ", frame, " and the next"), s, was)
		}
	}
	if want := (seen{true, true, true, true}); all != want {
		t.Errorf("the games had not all that they should: %+v", all)
	}
}
