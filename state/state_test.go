package state_test

import (
	"bytes"
	"fmt"
	"math"
	"slices"
	"strings"
	"testing"

	"doubletake/api"
	"doubletake/state"
	"doubletake/step"
	"doubletake/tag"
)

// The calls are just these.
var (
	_ func(api.Config, api.State) ([]byte, api.Errno) = state.Lay
	_ func(api.Config, []byte) (api.State, api.Errno) = state.Read
	_ func(api.Config, api.State) int                 = state.Mark
	_ func(a, b api.State) bool                       = state.Same
	_ struct {
		Frame  int
		Dice   uint64
		Bodies [16]api.Body
		Score  [8]int
	} = api.State{}
	_ struct {
		Kind, Owner  int
		X, Y, VX, VY int
		Age          int
		Mem          [4]int
		Faults       int
	} = api.Body{}
)

const (
	least    = math.MinInt
	greatest = math.MaxInt
)

// ops is a list of ops, three numbers each.
func ops(l ...int) []api.Op {
	var out []api.Op
	for k := 0; k+2 < len(l); k += 3 {
		out = append(out, api.Op{Code: l[k], A: l[k+1], B: l[k+2]})
	}
	return out
}

// config is a legal one. Behind its lists lies spare room, full of what may not be.
func config(players int, rules ...api.Op) api.Config {
	return api.Config{
		Players: players, Period: 2, Grace: 5, Start: 3, Frames: 50, Seed: 7, Rate: 1.5, Depth: 4,
		Rules:  append(slices.Clone(rules), ops(99, 0, 0, 0, 99, 0)...)[:len(rules)],
		Tokens: tokens(players),
	}
}

func tokens(n int) []int {
	var l []int
	for k := range n {
		l = append(l, 40+k)
	}
	return append(l, -1, 40)[:len(l)]
}

// crowd is a state of players and, on the places named, shots; their numbers are all unlike, and of both signs.
func crowd(players int, shots ...int) api.State {
	s := api.State{Frame: 300 + players, Dice: 0x9e3779b97f4a7c15}
	for k := range players {
		s.Bodies[k] = someBody(api.Player, k, k)
		s.Score[k] = 1000003 * (k + 1)
	}
	for _, k := range shots {
		s.Bodies[k] = someBody(api.Shot, k%players, k)
	}
	return s
}

func someBody(kind, owner, k int) api.Body {
	return api.Body{
		Kind: kind, Owner: owner, X: 211*k + 100, Y: 4000 - 157*k, VX: 7*k - 50, VY: 40 - 6*k, Age: 37*k + 1,
		Mem: [4]int{50021 * k, -60013 * k, 999983 - k, k - 999979}, Faults: 4001*k + 3,
	}
}

// crowds are states of all kinds, by how many players they are of: without shots, with some, with Nobody among them, and full.
func crowds(players int) []api.State {
	last := make([]int, 0, 16)
	for k := players; k < 16; k++ {
		last = append(last, k)
	}
	return []api.State{
		crowd(players),
		crowd(players, players),
		crowd(players, 15),
		crowd(players, players+1, players+2, players+4, 14),
		crowd(players, last[1:]...),
		crowd(players, last...),
	}
}

// digits are the lowest n bits of v.
func digits(v, n int) string {
	l := make([]byte, n)
	for k := range l {
		l[n-1-k] = '0' + byte(uint64(v)>>k&1)
	}
	return string(l)
}

// tape is what a state is laid as, bit by bit, whether it may be or not.
func tape(players int, s api.State) string {
	var l []string
	lay := func(v, n int) { l = append(l, digits(v, n)) }
	lay(s.Frame, 10)
	lay(int(s.Dice), 64)
	for _, b := range s.Bodies {
		lay(b.Kind, 2)
		if b.Kind == 0 {
			continue
		}
		lay(b.Owner, 3)
		lay(b.X, 12)
		lay(b.Y, 12)
		lay(b.VX, 8)
		lay(b.VY, 8)
		lay(b.Age, 10)
		for _, n := range b.Mem {
			lay(n, 21)
		}
		lay(b.Faults, 16)
	}
	for _, n := range s.Score[:players] {
		lay(n, 31)
	}
	return strings.Join(l, "")
}

// packed is a tape as bytes, with 0 bits up to a whole one.
func packed(tape string) []byte {
	b := make([]byte, (len(tape)+7)/8)
	for k := range tape {
		if tape[k] == '1' {
			b[k/8] |= 128 >> (k % 8)
		}
	}
	return b
}

// noisy is b with spare room behind it, full of bits.
func noisy(b []byte) []byte {
	return append(slices.Clone(b), 0xff, 0, 0x5a, 0xff)[:len(b)]
}

// held does a call, and holds the config's lists against what they were, spare room included.
func held(t *testing.T, c api.Config, call func()) {
	t.Helper()
	rules, tokens := c.Rules[:cap(c.Rules)], c.Tokens[:cap(c.Tokens)]
	wholeRules, wholeTokens := slices.Clone(rules), slices.Clone(tokens)
	call()
	if !slices.Equal(rules, wholeRules) || !slices.Equal(tokens, wholeTokens) {
		t.Errorf("R2: Rules or Tokens were turned: %v %v, were %v %v", rules, tokens, wholeRules, wholeTokens)
	}
}

// turned turns all bits of b, spare room included, and answers how that is then.
func turned(b []byte) []byte {
	b = b[:cap(b)]
	for k := range b {
		b[k] ^= 0xff
	}
	return slices.Clone(b)
}

// lay is Lay, asked twice; what is done to one answer, spare room included, is not seen in the other one.
func lay(t *testing.T, c api.Config, s api.State) ([]byte, api.Errno) {
	t.Helper()
	var first, again []byte
	var one, two api.Errno
	held(t, c, func() {
		first, one = state.Lay(c, s)
		want := slices.Clone(first)
		was := turned(first)
		again, two = state.Lay(c, s)
		if one != two || !bytes.Equal(want, again) {
			t.Errorf("R4: Lay: not the same again: %d %x, then %d %x", one, want, two, again)
		}
		turned(again)
		if !bytes.Equal(first[:cap(first)], was) {
			t.Errorf("R2: two answers of Lay share memory: %x", want)
		}
		first = want
	})
	return first, one
}

// read is Read, asked twice of the same bytes, which it turns nothing of.
func read(t *testing.T, c api.Config, b []byte) (api.State, api.Errno) {
	t.Helper()
	var first, again api.State
	var one, two api.Errno
	whole := slices.Clone(b[:cap(b)])
	held(t, c, func() {
		first, one = state.Read(c, b)
		again, two = state.Read(c, b)
	})
	if first != again || one != two {
		t.Errorf("R4: Read: not the same again: %d %+v, then %d %+v", one, first, two, again)
	}
	if !bytes.Equal(b[:cap(b)], whole) {
		t.Errorf("R2: Read turned its bytes: %x, were %x", b[:cap(b)], whole)
	}
	return first, one
}

// mark is Mark, asked twice.
func mark(t *testing.T, c api.Config, s api.State) int {
	t.Helper()
	var first, again int
	held(t, c, func() {
		first = state.Mark(c, s)
		again = state.Mark(c, s)
	})
	if first != again {
		t.Errorf("R4: Mark: not the same again: %d, then %d", first, again)
	}
	return first
}

// taken holds that a state is laid as just these bytes, and read back from them.
func taken(t *testing.T, name string, c api.Config, s api.State, want []byte) {
	t.Helper()
	b, err := lay(t, c, s)
	if err != api.OK || !bytes.Equal(b, want) {
		t.Errorf("14.1: Lay, %s: %d, %x, must be %x", name, err, b, want)
	}
	for _, b := range [][]byte{slices.Clip(slices.Clone(want)), noisy(want)} {
		x, err := read(t, c, b)
		if err != api.OK || x != s {
			t.Errorf("14.1: Read, %s: %d, %+v, must be %+v", name, err, x, s)
		}
	}
	if got := mark(t, c, s); got != tag.Mark(want) {
		t.Errorf("14.1: Mark, %s: %d, must be %d", name, got, tag.Mark(want))
	}
	if !state.Same(s, s) {
		t.Errorf("14.1: Same, %s, of itself", name)
	}
}

// refused holds that a state is not laid.
func refused(t *testing.T, name string, c api.Config, s api.State) {
	t.Helper()
	if b, err := lay(t, c, s); err != api.ErrArg || len(b) != 0 {
		t.Errorf("14.1: Lay, %s: %d, %x, must be ErrArg", name, err, b)
	}
	if got := mark(t, c, s); got != 0 {
		t.Errorf("14.1: Mark, %s: %d, must be 0", name, got)
	}
	if !state.Same(s, s) {
		t.Errorf("14.1: Same, %s, of itself", name)
	}
}

// none holds that bytes are no state's.
func none(t *testing.T, name string, c api.Config, b []byte) {
	t.Helper()
	for _, b := range [][]byte{slices.Clip(slices.Clone(b)), noisy(b)} {
		if x, err := read(t, c, b); err != api.ErrForm || x != (api.State{}) {
			t.Errorf("14.1: Read, %s: %d, %+v, must be ErrForm, of %x", name, err, x, b)
		}
	}
}

// TestErrors: the numbers that the chapter names.
func TestErrors(t *testing.T) {
	c := config(1)
	if b, err := state.Lay(c, api.State{}); err != 1 || b != nil {
		t.Errorf("14.1: Lay of the zero State: %d, %x", err, b)
	}
	if s, err := state.Read(c, nil); err != 2 || s != (api.State{}) {
		t.Errorf("14.1: Read of no bytes: %d, %+v", err, s)
	}
	if b, err := state.Lay(c, step.First(c)); err != 0 || len(b) == 0 {
		t.Errorf("14.1: Lay of First: %d, %x", err, b)
	}
}

// TestExample: the chapter's own: 290 bits.
func TestExample(t *testing.T) {
	c := config(1)
	b, err := lay(t, c, step.First(c))
	if bits := 10 + 64 + (2 + 3 + 24 + 16 + 10 + 84 + 16) + 30 + 31; err != api.OK || len(b) != (bits+7)/8 || bits != 290 {
		t.Errorf("14.1: %d, %d bytes of %d bits", err, len(b), bits)
	}
}

// TestLayByHand: a First of one player, its bits written out.
func TestLayByHand(t *testing.T) {
	c := config(1)
	want := "0000000000" + // Frame
		strings.Repeat("0", 60) + "1111" + // Dice: twice 7, and 1
		"01" + "000" + "100000000000" + "100000000000" + // a Player, Owner 0, at 2048, 2048
		"00000000" + "00000000" + "0000000000" + // VX, VY, Age
		strings.Repeat("0", 84) + strings.Repeat("0", 16) + // each Mem, Faults
		strings.Repeat("00", 15) + // Nobody else
		strings.Repeat("0", 31) // its Score
	taken(t, "First", c, step.First(c), packed(want))

	s := step.First(c)
	s.Frame, s.Dice, s.Score[0] = 5, 1<<63+2, 9
	s.Bodies[0] = api.Body{Kind: api.Player, X: 1, Y: 4094, VX: -1, VY: 3, Age: 512, Mem: [4]int{1, -2, 1000000, -1000000}, Faults: 32769}
	s.Bodies[2] = api.Body{Kind: api.Shot, X: 4095, Y: 6, VX: 64, VY: -64, Age: 40}
	want = "0000000101" +
		"1" + strings.Repeat("0", 61) + "10" +
		"01" + "000" + "000000000001" + "111111111110" + "11111111" + "00000011" + "1000000000" +
		"000000000000000000001" + "111111111111111111110" + "011110100001001000000" + "100001011110111000000" + "1000000000000001" +
		"00" +
		"10" + "000" + "111111111111" + "000000000110" + "01000000" + "11000000" + "0000101000" + strings.Repeat("0", 84+16) +
		strings.Repeat("00", 13) +
		strings.Repeat("0", 27) + "1001"
	taken(t, "by hand", c, s, packed(want))
}

// TestFixed: bytes and marks that were worked out apart, by a script in another language.
func TestFixed(t *testing.T) {
	for _, g := range []struct {
		players int
		s       api.State
		want    string
	}{
		{2, crowd(2, 3), "4ba78dde6e5fd29f05500c9f419c500080000000000f422f85eea8001a44dfc0f548826061b2fc564de845d0bdd60fa4225bbb93" +
			"c62c380928bfa8172f422c85eec1773000000000f4243003d090c0"},
		{1, crowd(1, 1, 2, 15), "4b678dde6e5fd29f05500c9f419c500080000000000f422f85eea8001c04dfc0f548826061b2fc564de845d0bdd60fa481057336" +
			"e0e096186caf15933d08b617bae3e8a0000010cc166d37ce8b16e5d72439d7a11042f793a9c8007a1218"},
	} {
		if b, err := lay(t, config(g.players), g.s); err != api.OK || fmt.Sprintf("%x", b) != g.want {
			t.Errorf("14.1: Lay, %d players: %d, %x, must be %s", g.players, err, b, g.want)
		}
	}
	for k, want := range [][3]int{
		{2135210485102432778, 967728290512696712, 1676142075799944845},
		{3761353304673687373, 4398421870992675883, 4381662720598677716},
		{1369931146854030269, 175102824501747805, 4276155666354527591},
		{3170394851593933615, 3401675687201863298, 1941381532674292755},
		{3648232158176703456, 1901983184442689503, 629791984036035069},
		{971060203236787972, 1864350008755049487, 742197094779648541},
		{3638374588317633960, 1302721491560526884, 1559415364535146945},
		{1148528009047379743, 4364492678993236412, 199670584856562856},
	} {
		players := k + 1
		full := crowds(players)[5]
		for j, s := range []api.State{crowd(players), crowd(players, players+1, 14), full} {
			if got := mark(t, config(players), s); got != want[j] {
				t.Errorf("14.1: Mark, %d players, state %d: %d, must be %d", players, j, got, want[j])
			}
		}
	}
}

// TestCrowds: games of each count of players, with shots and without.
func TestCrowds(t *testing.T) {
	for players := 1; players <= 8; players++ {
		for k, s := range crowds(players) {
			c := config(players)
			if !step.Right(c, s) {
				t.Fatalf("%d players, crowd %d: it is right: %+v", players, k, s)
			}
			taken(t, fmt.Sprint(players, " players, crowd ", k), c, s, packed(tape(players, s)))
		}
	}
}

// TestCounts: how many bits there are; where the shots stand tells nothing of that.
func TestCounts(t *testing.T) {
	for players := 1; players <= 8; players++ {
		var shots []int
		for n := 0; n <= 16-players; n++ {
			s := crowd(players, shots...)
			shots = append(shots, 15-n)
			bits := 10 + 64 + 155*(players+n) + 2*(16-players-n) + 31*players
			b, err := lay(t, config(players), s)
			if err != api.OK || len(b) != (bits+7)/8 {
				t.Errorf("14.1: %d players, %d shots: %d, %d bytes, must be %d bits", players, n, err, len(b), bits)
			}
		}
	}
}
