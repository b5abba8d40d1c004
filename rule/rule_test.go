package rule_test

import (
	"math"
	"math/rand"
	"slices"
	"testing"

	"doubletake/api"
	"doubletake/rule"
	"doubletake/trap"
)

// The calls are just these.
var (
	_ func([]api.Op) bool                                   = rule.Right
	_ func([]api.Op, rule.Env) (rule.Env, trap.Fault, bool) = rule.Run
	_ struct {
		Body  api.Body
		In    api.Input
		Dice  uint64
		Room  int
		Shots []api.Body
	} = rule.Env{}
)

// The bounds, written out, so that they are not asked of what is tested.
const (
	most    = 1000000 // of a register
	codes   = 13
	regs    = 4
	maxOps  = 16
	maxDone = 64
)

const (
	least    = math.MinInt
	greatest = math.MaxInt
)

// ops is a list of ops, three numbers each.
func ops(l ...int) []api.Op {
	var out []api.Op
	for k := 0; k+2 < len(l); k += 3 {
		out = append(out, api.Op{Code: l[k], A: l[k+1], B: l[k+2]})
	}
	return out
}

// join is the lists, one behind the other.
func join(lists ...[]api.Op) []api.Op {
	return slices.Concat(lists...)
}

// idle is n ops that turn nothing that is told: register 3 is set to what env has there.
func idle(n int) []api.Op {
	return slices.Repeat(ops(api.Set, 3, 0), n)
}

// env is an Env whose fields all differ, with room for two shots.
func env(mem ...int) rule.Env {
	e := rule.Env{
		Body: api.Body{Kind: api.Player, Owner: 3, X: 100, Y: 200, VX: 7, VY: -9, Age: 11, Faults: 13},
		In:   api.Input{Buttons: 170, X: -21, Y: 42},
		Dice: 1,
		Room: 2,
	}
	copy(e.Body.Mem[:], mem)
	return e
}

// shot is one that somebody else fired.
func shot(k int) api.Body {
	return api.Body{Kind: api.Shot, Owner: 5, X: 1000 + k, Y: k, Age: k}
}

func alike(a, b rule.Env) bool {
	return a.Body == b.Body && a.In == b.In && a.Dice == b.Dice && a.Room == b.Room && slices.Equal(a.Shots, b.Shots)
}

// call is Run, asked twice: it answers the same, turns nothing of what it is given, and shares nothing with it.
func call(t *testing.T, l []api.Op, e rule.Env) (rule.Env, trap.Fault, bool) {
	t.Helper()
	rules, shots := slices.Clone(l[:cap(l)]), slices.Clone(e.Shots[:cap(e.Shots)])
	first, fault, ok := rule.Run(l, e)
	again, fault2, ok2 := rule.Run(l, e)
	if !alike(first, again) || fault != fault2 || ok != ok2 {
		t.Errorf("R4: %v: first %+v %v %v, then %+v %v %v", l, first, fault, ok, again, fault2, ok2)
	}
	kept := slices.Clone(first.Shots)
	scribble(first.Shots)
	if !slices.Equal(again.Shots, kept) {
		t.Errorf("R2: %v: two answers share shots", l)
	}
	if !slices.Equal(l[:cap(l)], rules) {
		t.Errorf("R2: %v: the ops were turned", l)
	}
	if !slices.Equal(e.Shots[:cap(e.Shots)], shots) {
		t.Errorf("R2: %v: the shots that were handed in were turned, or are shared", l)
	}
	first.Shots = kept
	return first, fault, ok
}

// scribble fills a list, and its spare room, with bodies that nobody has.
func scribble(l []api.Body) {
	l = l[:cap(l)]
	for k := range l {
		l[k] = api.Body{Kind: 99, X: -99}
	}
}

// must is a Run that ends as it should.
func must(t *testing.T, name string, l []api.Op, e, want rule.Env) {
	t.Helper()
	got, fault, ok := call(t, l, e)
	if !ok || fault != (trap.Fault{}) || !alike(got, want) {
		t.Errorf("12.1: %s: %v: %+v %v %v, must be %+v", name, l, got, fault, ok, want)
	}
}

// mustMem is a Run that turns registers alone.
func mustMem(t *testing.T, name string, l []api.Op, mem, want []int) {
	t.Helper()
	must(t, name, l, env(mem...), env(want...))
}

// breaks is a Run that ends with a fault, all undone.
func breaks(t *testing.T, name string, l []api.Op, e rule.Env, code, at int) {
	t.Helper()
	got, fault, ok := call(t, l, e)
	if ok || fault != (trap.Fault{Code: code, At: at}) {
		t.Errorf("12.2: %s: %v: %v %v, must be %d at %d", name, l, fault, ok, code, at)
	}
	if !alike(got, e) {
		t.Errorf("12.2: %s: %v: not all is undone: %+v, must be %+v", name, l, got, e)
	}
}

func TestRight(t *testing.T) {
	fine := ops(api.Set, 0, 0)
	wrong := ops(0, 0, 0)
	behind := append(slices.Repeat(fine, maxOps), wrong...)
	for name, l := range map[string][]api.Op{
		"nil":                        nil,
		"empty":                      {},
		"empty, wrong in spare room": wrong[:0],
		"one":                        fine,
		"one less than may be":       slices.Repeat(fine, maxOps-1),
		"as many as may be":          slices.Repeat(fine, maxOps),
		"more in spare room":         behind[:maxOps],
		"no such register":           ops(api.Set, 4, 0, api.Copy, -1, 99),
		"no such field":              ops(api.Get, 0, 8, api.Put, 5, 0),
		"on at none":                 ops(api.Jump, 0, 99, api.Zero, 0, -1),
	} {
		if !rule.Right(l) {
			t.Errorf("12.1: Right, %s: %v", name, l)
		}
	}
	for name, l := range map[string][]api.Op{
		"one more than may be":         slices.Repeat(fine, maxOps+1),
		"many more":                    slices.Repeat(fine, 1000),
		"one more, that is wrong, too": behind,
	} {
		if rule.Right(l) {
			t.Errorf("12.1: Right, %s: %v", name, l)
		}
	}
	for k := range maxOps {
		l := slices.Repeat(fine, maxOps)
		l[k] = api.Op{}
		if rule.Right(l) {
			t.Errorf("12.1: Right, a wrong op at %d", k)
		}
	}
}

func TestRightNumbers(t *testing.T) {
	for code, want := range map[int]bool{
		least: false, -1: false, 0: false, 1: true, 2: true, 3: true, 4: true, 5: true, 6: true, 7: true, 8: true,
		9: true, 10: true, 11: true, 12: true, 13: true, 14: false, 15: false, greatest: false,
	} {
		l := ops(code, 0, 0)
		if rule.Right(l) != want || rule.Right(join(ops(api.Stop, 0, 0), l)) != want {
			t.Errorf("12.1: Right of Code %d must be %v", code, want)
		}
	}
	for n, want := range map[int]bool{
		least: false, -most - 1: false, -most: true, -most + 1: true, -1: true, 0: true, 1: true,
		most - 1: true, most: true, most + 1: false, greatest: false,
	} {
		for code := 1; code <= codes; code++ {
			a, b := ops(code, n, 0), ops(code, 0, n)
			both := ops(code, n, n)
			if rule.Right(a) != want || rule.Right(b) != want || rule.Right(both) != want {
				t.Errorf("12.1: Right of Code %d with %d must be %v", code, n, want)
			}
			if behind := join(ops(api.Stop, 0, 0), a); rule.Right(behind) != want {
				t.Errorf("12.1: Right of Code %d with %d behind a right one must be %v", code, n, want)
			}
		}
	}
}

// TestRightTurnsNothing: neither the ops nor what lies behind them.
func TestRightTurnsNothing(t *testing.T) {
	l := ops(api.Set, most, -most, 99, 0, 0, api.Stop, 1, 2)
	kept := slices.Clone(l)
	if !rule.Right(l[:1]) || rule.Right(l) || !rule.Right(l[:1]) || !slices.Equal(l, kept) {
		t.Errorf("R2: Right turned its ops: %v", l)
	}
}

// TestNobodyRuns: a Body that is not right, or a Nobody: e, no fault, false, whatever the ops.
func TestNobodyRuns(t *testing.T) {
	rules := map[string][]api.Op{
		"no ops":            nil,
		"a register":        ops(api.Set, 0, 9),
		"a field":           ops(api.Put, 0, 1, api.Put, 1, 1, api.Put, 2, 1, api.Put, 3, 1),
		"a roll and a shot": ops(api.Set, 0, 9, api.Roll, 1, 0, api.Fire, 0, 0),
		"Stop":              ops(api.Stop, 0, 0),
		"a fault":           ops(api.Div, 0, 0),
		"no such op":        ops(99, 0, 0),
		"a loop":            ops(api.Jump, 0, 0),
	}
	bodies := map[string]func(*api.Body){
		"Nobody":              func(b *api.Body) { *b = api.Body{} },
		"a Nobody somewhere":  func(b *api.Body) { *b = api.Body{X: 1} },
		"a Nobody with a Mem": func(b *api.Body) { *b = api.Body{Mem: [regs]int{0, 0, 0, 1}} },
		"a Nobody as a body":  func(b *api.Body) { b.Kind = api.Nobody },
		"no such kind":        func(b *api.Body) { b.Kind = 3 },
		"a kind below":        func(b *api.Body) { b.Kind = -1 },
		"Owner":               func(b *api.Body) { b.Owner = 8 },
		"X below":             func(b *api.Body) { b.X = -1 },
		"X beyond":            func(b *api.Body) { b.X = 4096 },
		"Y":                   func(b *api.Body) { b.Y = 4096 },
		"VX":                  func(b *api.Body) { b.VX = 65 },
		"VY":                  func(b *api.Body) { b.VY = -65 },
		"Age":                 func(b *api.Body) { b.Age = 601 },
		"Mem beyond":          func(b *api.Body) { b.Mem[3] = most + 1 },
		"Mem below":           func(b *api.Body) { b.Mem[0] = -most - 1 },
		"Faults":              func(b *api.Body) { b.Faults = 65536 },
	}
	for what, l := range rules {
		for who, turn := range bodies {
			e := env(5, 6, 7, 8)
			turn(&e.Body)
			e.Shots = append(make([]api.Body, 0, 8), shot(1))
			got, fault, ok := call(t, l, e)
			if ok || fault != (trap.Fault{}) || !alike(got, e) {
				t.Errorf("12.1: %s of %s: %+v %v %v, must be %+v", what, who, got, fault, ok, e)
			}
		}
	}
}

// TestSomebodyRuns: a Player, and a Shot, at the ends of what they may be.
func TestSomebodyRuns(t *testing.T) {
	for _, kind := range []int{api.Player, api.Shot} {
		for _, b := range []api.Body{
			{Kind: kind},
			{Kind: kind, Owner: 7, X: 4095, Y: 4095, VX: 64, VY: 64, Age: 600, Mem: [regs]int{most, most, most, most}, Faults: 65535},
			{Kind: kind, VX: -64, VY: -64, Mem: [regs]int{-most, -most, -most, -most}},
		} {
			e := env()
			e.Body = b
			must(t, "no ops", nil, e, e)
			must(t, "no ops", []api.Op{}, e, e)
			want := e
			want.Body.Mem[1], want.Body.X = 12, 12
			want.Shots = []api.Body{{Kind: api.Shot, Owner: b.Owner, X: 12, Y: b.Y, VX: 12, VY: 12}}
			must(t, "somebody", ops(api.Set, 1, 12, api.Put, 0, 1, api.Fire, 1, 1), e, want)
		}
	}
}

// TestOneBehindTheOther: the ops are done in order, each of them once, and the last one too.
func TestOneBehindTheOther(t *testing.T) {
	mustMem(t, "first to last", ops(api.Set, 0, 2, api.Set, 1, 3, api.Mul, 0, 1, api.Add, 0, 1, api.Copy, 2, 0, api.Sub, 2, 1),
		nil, []int{9, 3, 6})
	mustMem(t, "the later one stays", ops(api.Set, 0, 2, api.Set, 0, 3), nil, []int{3})
	mustMem(t, "more ops than a right rule has", slices.Repeat(ops(api.Add, 0, 1), 20), []int{0, 3}, []int{60, 3})
	rules := append(ops(api.Set, 0, 2), ops(api.Set, 0, 9)...)
	mustMem(t, "no op of the spare room", rules[:1], nil, []int{2})
	mustMem(t, "what brings a Set within", ops(api.Set, 0, greatest, api.Set, 1, 1, api.Sub, 0, 1), nil, []int{most - 1, 1})
}

func TestSet(t *testing.T) {
	for n, want := range map[int]int{
		least: -most, -most - 1: -most, -most: -most, -most + 1: -most + 1, -1: -1, 0: 0, 1: 1, 99: 99,
		most - 1: most - 1, most: most, most + 1: most, greatest: most, -1 << 32: -most, 1 << 32: most,
	} {
		for a := range regs {
			mem := [regs]int{-5, 6, -7, 8}
			end := mem
			end[a] = want
			mustMem(t, "Set", ops(api.Set, a, n), mem[:], end[:])
		}
	}
}

// pair is an op on two registers: what they are, and what A is then.
type pair struct{ code, a, b, want int }

// TestPairs: Copy to Div, of registers that differ, each as A and each as B, the others as they were.
func TestPairs(t *testing.T) {
	for _, c := range []pair{
		{api.Copy, 5, -3, -3}, {api.Copy, 0, most, most}, {api.Copy, 1, -most, -most}, {api.Copy, 9, 0, 0},
		{api.Copy, 9, most - 1, most - 1}, {api.Copy, 9, -most + 1, -most + 1},

		{api.Add, 5, -3, 2}, {api.Add, -5, -3, -8}, {api.Add, 0, 0, 0}, {api.Add, most, 0, most},
		{api.Add, most - 2, 1, most - 1}, {api.Add, most - 1, 1, most}, {api.Add, most, 1, most}, {api.Add, 1, most, most},
		{api.Add, most, most, most}, {api.Add, most, -most, 0}, {api.Add, most, -1, most - 1},
		{api.Add, -most + 2, -1, -most + 1}, {api.Add, -most + 1, -1, -most}, {api.Add, -most, -1, -most},
		{api.Add, -most, -most, -most}, {api.Add, -most, 1, -most + 1}, {api.Add, 500000, 500001, most},

		{api.Sub, 5, -3, 8}, {api.Sub, -5, -3, -2}, {api.Sub, 3, 5, -2}, {api.Sub, 0, most, -most},
		{api.Sub, most - 2, -1, most - 1}, {api.Sub, most - 1, -1, most}, {api.Sub, most, -1, most},
		{api.Sub, most, -most, most}, {api.Sub, -most, most, -most}, {api.Sub, -most, -most, 0}, {api.Sub, most, most, 0},
		{api.Sub, -most + 2, 1, -most + 1}, {api.Sub, -most + 1, 1, -most}, {api.Sub, -most, 1, -most}, {api.Sub, -1, most, -most},

		{api.Mul, 5, -3, -15}, {api.Mul, -5, -3, 15}, {api.Mul, 0, most, 0}, {api.Mul, -most, 0, 0}, {api.Mul, most, 1, most},
		{api.Mul, most, -1, -most}, {api.Mul, 1000, 1000, most}, {api.Mul, 1001, 999, most - 1}, {api.Mul, 1000, 1001, most},
		{api.Mul, 101, 9901, most}, {api.Mul, -1001, 999, -most + 1}, {api.Mul, 1000, -1000, -most}, {api.Mul, -1000, 1001, -most},
		{api.Mul, -101, 9901, -most}, {api.Mul, most, most, most}, {api.Mul, -most, most, -most}, {api.Mul, -most, -most, most},
		{api.Mul, 65536, 65536, most}, {api.Mul, 65536, -65536, -most}, {api.Mul, 46341, 46341, most},

		{api.Div, 6, 2, 3}, {api.Div, -6, 2, -3}, {api.Div, 6, -2, -3}, {api.Div, -6, -2, 3},
		{api.Div, 7, 2, 3}, {api.Div, -7, 2, -3}, {api.Div, 7, -2, -3}, {api.Div, -7, -2, 3},
		{api.Div, 1, 2, 0}, {api.Div, -1, 2, 0}, {api.Div, 1, -2, 0}, {api.Div, -1, -2, 0}, {api.Div, 0, 5, 0}, {api.Div, 0, -5, 0},
		{api.Div, 99, 100, 0}, {api.Div, -99, 100, 0}, {api.Div, 100, 99, 1}, {api.Div, -100, 99, -1}, {api.Div, 199, -100, -1},
		{api.Div, most, 1, most}, {api.Div, most, -1, -most}, {api.Div, -most, 1, -most}, {api.Div, -most, -1, most},
		{api.Div, most, most, 1}, {api.Div, -most, most, -1}, {api.Div, most - 1, most, 0}, {api.Div, most - 1, 1, most - 1},
		{api.Div, most - 1, -1, -most + 1}, {api.Div, most, 3, 333333}, {api.Div, -most, 3, -333333},
	} {
		for a := range regs {
			for b := range regs {
				if a == b {
					continue
				}
				mem := [regs]int{-55, 66, -77, 88}
				mem[a], mem[b] = c.a, c.b
				end := mem
				end[a] = c.want
				mustMem(t, "a pair", ops(c.code, a, b), mem[:], end[:])
			}
		}
	}
}

// TestPairsOfOne: Copy to Div where A and B are the same register.
func TestPairsOfOne(t *testing.T) {
	for _, c := range []pair{
		{code: api.Copy, a: 7, want: 7}, {code: api.Copy, a: -most, want: -most},
		{code: api.Add, a: 7, want: 14}, {code: api.Add, a: 500000, want: most}, {code: api.Add, a: 500001, want: most},
		{code: api.Add, a: 499999, want: most - 2}, {code: api.Add, a: -500000, want: -most}, {code: api.Add, a: -500001, want: -most},
		{code: api.Sub, a: 7, want: 0}, {code: api.Sub, a: most, want: 0}, {code: api.Sub, a: -most, want: 0},
		{code: api.Mul, a: 7, want: 49}, {code: api.Mul, a: -7, want: 49}, {code: api.Mul, a: 1000, want: most},
		{code: api.Mul, a: 999, want: 998001}, {code: api.Mul, a: -1001, want: most},
		{code: api.Div, a: 7, want: 1}, {code: api.Div, a: -7, want: 1}, {code: api.Div, a: -most, want: 1},
	} {
		for a := range regs {
			mem := [regs]int{-55, 66, -77, 88}
			mem[a] = c.a
			end := mem
			end[a] = c.want
			mustMem(t, "one register", ops(c.code, a, a), mem[:], end[:])
		}
	}
}

// TestGet: each field, into each register; the body and the input stay.
func TestGet(t *testing.T) {
	for field, want := range []int{100, 200, 7, -9, 11, 170, -21, 42} {
		for a := range regs {
			mem := [regs]int{-55, 66, -77, 88}
			end := mem
			end[a] = want
			mustMem(t, "Get", ops(api.Get, a, field), mem[:], end[:])
		}
	}
	mustMem(t, "Gets", ops(api.Get, 0, api.FieldX, api.Get, 1, api.FieldY, api.Get, 2, api.FieldVX, api.Get, 3, api.FieldVY),
		nil, []int{100, 200, 7, -9})
	mustMem(t, "Gets", ops(api.Get, 0, api.FieldAge, api.Get, 1, api.FieldButtons, api.Get, 2, api.FieldStickX, api.Get, 3, api.FieldStickY),
		nil, []int{11, 170, -21, 42})
}

// TestGetWithin: what is gotten is brought within a register's bounds, as an input may be any.
func TestGetWithin(t *testing.T) {
	fields := []struct {
		field int
		at    func(*rule.Env) *int
	}{
		{api.FieldButtons, func(e *rule.Env) *int { return &e.In.Buttons }},
		{api.FieldStickX, func(e *rule.Env) *int { return &e.In.X }},
		{api.FieldStickY, func(e *rule.Env) *int { return &e.In.Y }},
	}
	for n, want := range map[int]int{
		least: -most, -most - 1: -most, -most: -most, -most + 1: -most + 1, -64: -64, 0: 0, 64: 64, 255: 255, 256: 256,
		most - 1: most - 1, most: most, most + 1: most, greatest: most,
	} {
		for _, f := range fields {
			e := env(1, 2, 3, 4)
			*f.at(&e) = n
			end := e
			end.Body.Mem[2] = want
			must(t, "Get of any input", ops(api.Get, 2, f.field), e, end)
		}
	}
	e := env()
	e.Body.X, e.Body.Y, e.Body.VX, e.Body.VY, e.Body.Age = 4095, 0, -64, 64, 600
	end := e
	end.Body.Mem = [regs]int{4095, 600, -64, 64}
	must(t, "Get at the ends", ops(api.Get, 0, 0, api.Get, 1, 4, api.Get, 2, 2, api.Get, 3, 3), e, end)
	end.Body.Mem = [regs]int{4095}
	must(t, "Get at the ends", ops(api.Get, 0, 0, api.Get, 1, 1), e, end)
}

// TestPut: each field that may be, from each register, brought within its ends; all else stays.
func TestPut(t *testing.T) {
	places := map[int]int{
		-most: 0, -4096: 0, -2: 0, -1: 0, 0: 0, 1: 1, 64: 64, 65: 65, 2048: 2048, 4094: 4094, 4095: 4095, 4096: 4095, 4097: 4095, most: 4095,
	}
	speeds := map[int]int{
		-most: -64, -4096: -64, -66: -64, -65: -64, -64: -64, -63: -63, -1: -1, 0: 0, 1: 1, 63: 63, 64: 64, 65: 64, 66: 64, 4095: 64, most: 64,
	}
	for _, f := range []struct {
		field int
		at    func(*api.Body) *int
		ends  map[int]int
	}{
		{0, func(b *api.Body) *int { return &b.X }, places},
		{1, func(b *api.Body) *int { return &b.Y }, places},
		{2, func(b *api.Body) *int { return &b.VX }, speeds},
		{3, func(b *api.Body) *int { return &b.VY }, speeds},
	} {
		for n, want := range f.ends {
			for r := range regs {
				e := env(-55, 66, -77, 88)
				e.Body.Mem[r] = n
				end := e
				*f.at(&end.Body) = want
				must(t, "Put", ops(api.Put, f.field, r), e, end)
			}
		}
	}
	e := env(1, 2, 3, 4)
	end := e
	end.Body.X, end.Body.Y, end.Body.VX, end.Body.VY = 4, 3, 2, 1
	must(t, "Puts", ops(api.Put, 0, 3, api.Put, 1, 2, api.Put, 2, 1, api.Put, 3, 0), e, end)
	end.Body.Mem[0] = 4
	must(t, "Put, then Get", ops(api.Put, 0, 3, api.Put, 1, 2, api.Put, 2, 1, api.Put, 3, 0, api.Get, 0, 0), e, end)
}

// roll is dice.Roll, by the chapter's words: n is at least 1 here.
func roll(s uint64, n int) (uint64, int) {
	s = s*6364136223846793005 + 1442695040888963407
	return s, int(s>>33) % n
}

// ahead is the state that comes just ahead of one whose number is n.
func ahead(n uint64) uint64 {
	const factor uint64 = 6364136223846793005
	inverse := uint64(1)
	for range 64 { // each turn makes one bit more of it right, at least
		inverse *= 2 - factor*inverse
	}
	return (n<<33 - 1442695040888963407) * inverse
}

func TestRoll(t *testing.T) {
	e, end := env(0, 6), env(2, 6)
	end.Dice = 7806831264735756412
	must(t, "Roll by 6 of 1", ops(api.Roll, 0, 1), e, end)
	for a := range regs {
		for b := range regs {
			for _, n := range []int{1, 2, 6, 1000, most - 1, most} {
				e := env(-55, 66, -77, 88)
				e.Body.Mem[b] = n
				end := e
				end.Dice, end.Body.Mem[a] = roll(1, n)
				must(t, "Roll", ops(api.Roll, a, b), e, end)
			}
		}
	}
	for _, c := range []struct {
		number  uint64
		n, want int
	}{
		{0, most, 0}, {1, most, 1}, {999998, most, 999998}, {999999, most, 999999}, {1000000, most, 0}, {1000001, most, 1},
		{1<<31 - 1, most, 483647}, {1<<31 - 1, 1, 0}, {999999, most - 1, 0}, {999998, most - 1, 999998}, {5, 6, 5}, {6, 6, 0},
	} {
		e := env(9, c.n)
		e.Dice = ahead(c.number)
		end := e
		end.Dice, end.Body.Mem[0] = c.number<<33, c.want
		must(t, "Roll of a number", ops(api.Roll, 0, 1), e, end)
	}
}

// TestRolls: each Roll goes on where the last one was, and nothing else turns Dice.
func TestRolls(t *testing.T) {
	e := env(0, 0, 1000)
	end := e
	for k := range 3 {
		end.Dice, end.Body.Mem[[]int{0, 1, 3}[k]] = roll(end.Dice, 1000)
	}
	must(t, "three Rolls", ops(api.Roll, 0, 2, api.Roll, 1, 2, api.Set, 3, 0, api.Get, 3, 4, api.Roll, 3, 2), e, end)

	e = env(0, most)
	end = e
	for range maxDone {
		end.Dice, end.Body.Mem[0] = roll(end.Dice, most)
	}
	must(t, "as many Rolls as may be", slices.Repeat(ops(api.Roll, 0, 1), maxDone), e, end)

	e = env(most)
	e.Dice = ahead(999999)
	end = e
	for range 3 {
		end.Dice, end.Body.Mem[0] = roll(end.Dice, end.Body.Mem[0])
	}
	must(t, "by what was rolled", slices.Repeat(ops(api.Roll, 0, 0), 3), e, end)

	e = env(1)
	e.Dice = math.MaxUint64
	end = e
	end.Body.Mem[0] = 0
	end.Dice, _ = roll(e.Dice, 1)
	must(t, "below 1 there is 0 alone", ops(api.Roll, 0, 0), e, end)
}

// TestFire: the shot is of the body as it is then, with the speeds of two registers.
func TestFire(t *testing.T) {
	for n, want := range map[int]int{
		-most: -64, -66: -64, -65: -64, -64: -64, -63: -63, -1: -1, 0: 0, 1: 1, 63: 63, 64: 64, 65: 64, 66: 64, most: 64,
	} {
		for a := range regs {
			for b := range regs {
				e := env(-5, 6, -7, 8)
				e.Body.Mem[a] = n
				vy := e.Body.Mem[b]
				if a == b {
					vy = want
				}
				end := e
				end.Shots = []api.Body{{Kind: api.Shot, Owner: 3, X: 100, Y: 200, VX: want, VY: vy}}
				must(t, "Fire", ops(api.Fire, a, b), e, end)

				e = env(-5, 6, -7, 8)
				e.Body.Mem[b] = n
				vx := e.Body.Mem[a]
				if a == b {
					vx = want
				}
				end = e
				end.Shots = []api.Body{{Kind: api.Shot, Owner: 3, X: 100, Y: 200, VX: vx, VY: want}}
				must(t, "Fire", ops(api.Fire, a, b), e, end)
			}
		}
	}
	e := env(10, 20, 30, 40)
	end := e
	end.Body.X, end.Body.Y, end.Body.VX = 30, 40, 40
	end.Shots = []api.Body{
		{Kind: api.Shot, Owner: 3, X: 100, Y: 200, VX: 10, VY: 20},
		{Kind: api.Shot, Owner: 3, X: 30, Y: 40, VX: 20, VY: 10},
	}
	must(t, "from where it is then", ops(api.Fire, 0, 1, api.Put, 0, 2, api.Put, 1, 3, api.Fire, 1, 0, api.Put, 2, 3), e, end)
}

// TestFireInto: Shots of any length, with spare room and without; call holds what is handed in and what lies behind it.
func TestFireInto(t *testing.T) {
	full := []api.Body{shot(0), shot(1), shot(2), shot(3), shot(4), shot(5)}
	for name, shots := range map[string][]api.Body{
		"nil":                        nil,
		"empty":                      {},
		"empty, with spare room":     full[:0],
		"one":                        full[:1:1],
		"one, with spare room for 1": full[:1:2],
		"one, with spare room":       full[:1],
		"some":                       full[:3:3],
		"some, with spare room":      full[:3],
		"some, with too little room": full[:3:4],
		"all":                        full,
	} {
		for fires := range 4 {
			e := env(1, 2)
			e.Shots, e.Room = shots, 20
			end := e
			end.Shots = slices.Clone(shots)
			for range fires {
				end.Shots = append(end.Shots, api.Body{Kind: api.Shot, Owner: 3, X: 100, Y: 200, VX: 1, VY: 2})
			}
			must(t, name, slices.Repeat(ops(api.Fire, 0, 1), fires), e, end)
			breaks(t, name, join(slices.Repeat(ops(api.Fire, 0, 1), fires), ops(api.Div, 0, 3)), e, api.FaultDiv, fires)
		}
	}
	if !slices.Equal(full, []api.Body{shot(0), shot(1), shot(2), shot(3), shot(4), shot(5)}) {
		t.Error("R2: the shots that were handed in were turned")
	}
}

// TestRoom: as many shots as Room, those of the beginning among them, and none more.
func TestRoom(t *testing.T) {
	some := []api.Body{shot(0), shot(1), shot(2)}
	fires := slices.Repeat(ops(api.Fire, 0, 1), 6)
	for _, c := range []struct{ shots, room, fits int }{
		{0, 0, 0}, {0, -1, 0}, {0, -7, 0}, {0, least, 0}, {0, 1, 1}, {0, 2, 2}, {0, 5, 5},
		{1, 0, 0}, {1, 1, 0}, {1, -1, 0}, {1, 2, 1}, {1, 5, 4},
		{3, -3, 0}, {3, 0, 0}, {3, 1, 0}, {3, 2, 0}, {3, 3, 0}, {3, 4, 1}, {3, 5, 2}, {3, 8, 5},
	} {
		e := env(1, 2)
		e.Shots, e.Room = some[:c.shots], c.room
		end := e
		end.Shots = slices.Clone(e.Shots)
		for range c.fits {
			end.Shots = append(end.Shots, api.Body{Kind: api.Shot, Owner: 3, X: 100, Y: 200, VX: 1, VY: 2})
		}
		must(t, "as many as there is room for", fires[:c.fits], e, end)
		breaks(t, "one more than there is room for", fires[:c.fits+1], e, api.FaultFull, c.fits)
		breaks(t, "one more behind others", join(idle(3), fires[:c.fits+1]), e, api.FaultFull, 3+c.fits)
	}
	e := env(1, 2)
	e.Shots, e.Room = some, greatest
	end := e
	end.Shots = slices.Clone(some)
	for range maxDone {
		end.Shots = append(end.Shots, api.Body{Kind: api.Shot, Owner: 3, X: 100, Y: 200, VX: 1, VY: 2})
	}
	must(t, "room for any", slices.Repeat(ops(api.Fire, 0, 1), maxDone), e, end)
}

func TestStop(t *testing.T) {
	for name, behind := range map[string][]api.Op{
		"none":       nil,
		"a Set":      ops(api.Set, 0, 9),
		"no such op": ops(99, 0, 0),
		"a register": ops(api.Set, 99, 0),
		"a field":    ops(api.Get, 0, 99),
		"a Div":      ops(api.Div, 0, 3),
		"a Roll":     ops(api.Roll, 0, 3),
		"a loop":     ops(api.Jump, 0, 0),
		"on at none": ops(api.Jump, 0, 99),
		"a Stop":     ops(api.Stop, 0, 0),
		"many":       slices.Repeat(ops(api.Set, 0, 9), 100),
	} {
		for _, stop := range [][]api.Op{ops(api.Stop, 0, 0), ops(api.Stop, -1, 99), ops(api.Stop, least, greatest)} {
			mustMem(t, "Stop first, behind it "+name, join(stop, behind), []int{1, 2}, []int{1, 2})
			mustMem(t, "Stop, behind it "+name, join(ops(api.Set, 0, 5, api.Add, 1, 0), stop, behind), []int{1, 2}, []int{5, 7})
		}
	}
	mustMem(t, "Stop that is passed by", ops(api.Jump, 0, 2, api.Stop, 0, 0, api.Set, 0, 3), nil, []int{3})
}

// TestZero: of a register that is 0, and of any other, to all the places that there are.
func TestZero(t *testing.T) {
	l := ops(api.Zero, 2, 3, api.Set, 0, 5, api.Stop, 0, 0, api.Set, 1, 6)
	for _, c := range []struct{ reg, first, second int }{
		{0, 0, 6}, {1, 5, 0}, {-1, 5, 0}, {most, 5, 0}, {-most, 5, 0}, {256, 5, 0}, {65536, 5, 0},
	} {
		mustMem(t, "Zero", l, []int{0, 0, c.reg}, []int{c.first, c.second, c.reg})
	}
	for a := range regs {
		mem := [regs]int{1, 1, 1, 1}
		rules := ops(api.Zero, a, 2, api.Set, 3-a, 9)
		end := mem
		end[3-a] = 9
		mustMem(t, "Zero, not 0", rules, mem[:], end[:])
		mem[a] = 0
		mustMem(t, "Zero, 0", rules, mem[:], mem[:])
	}
	// Where the register is not 0, B may be anything.
	for _, b := range []int{least, -1, 0, 1, 2, 3, 99, greatest} {
		mustMem(t, "Zero that does not go", ops(api.Zero, 1, b, api.Set, 0, 9), []int{0, 1}, []int{9, 1})
	}
}

// TestPlaces: where Zero and Jump go on: ahead, back, the list's length, and no place at all.
func TestPlaces(t *testing.T) {
	for _, goes := range []int{api.Zero, api.Jump} {
		mustMem(t, "the next one", ops(goes, 3, 1, api.Set, 0, 5), nil, []int{5})
		mustMem(t, "ahead", ops(goes, 3, 2, api.Set, 0, 5, api.Set, 1, 6), nil, []int{0, 6})
		mustMem(t, "the last one", ops(goes, 3, 3, api.Set, 0, 5, api.Set, 1, 6, api.Set, 2, 7), nil, []int{0, 0, 7})
		mustMem(t, "the list's length", ops(goes, 3, 2, api.Set, 0, 5), nil, nil)
		mustMem(t, "the list's length, from the last one", ops(api.Set, 0, 5, goes, 3, 2), nil, []int{5})
		mustMem(t, "the list's length, by itself", ops(goes, 3, 1), nil, nil)
		mustMem(t, "back", ops(api.Jump, 0, 3, api.Set, 0, 5, api.Stop, 0, 0, api.Set, 1, 6, goes, 3, 1, api.Set, 2, 7), nil, []int{5, 6})
		mustMem(t, "back to the first one", ops(api.Zero, 0, 2, api.Stop, 0, 0, api.Set, 0, 5, goes, 3, 0), nil, []int{5})
		breaks(t, "its own place", ops(goes, 3, 0), env(), api.FaultSteps, 0)
		breaks(t, "its own place, behind others", ops(api.Set, 0, 1, api.Set, 1, 1, goes, 3, 2), env(), api.FaultSteps, 2)
		for _, n := range []int{1, 2, 3, 4, 17} {
			for _, b := range []int{n + 1, n + 2, 99, -1, -n, least, greatest, 1 << 32, -1 << 32, most, -most} {
				l := append(idle(n-1), api.Op{Code: goes, A: 3, B: b})
				breaks(t, "no place", l, env(), api.FaultOp, n-1)
				l = append(ops(goes, 3, b), idle(n-1)...)
				breaks(t, "no place", l, env(), api.FaultOp, 0)
				breaks(t, "no place, with places in the spare room", l[:1:len(l)], rule.Env{Body: api.Body{Kind: api.Shot}}, api.FaultOp, 0)
			}
			l := idle(n + 1)
			l[0] = api.Op{Code: goes, A: 3, B: n + 1}
			breaks(t, "one of the spare room", l[:n], env(), api.FaultOp, 0)
		}
	}
	// Jump names no register.
	for _, a := range []int{least, -1, 4, 99, greatest} {
		mustMem(t, "any A of a Jump", ops(api.Jump, a, 2, api.Set, 0, 5, api.Set, 1, 6), nil, []int{0, 6})
	}
}

// down counts register 0 down from n by 1: 3 * n + 1 ops are done.
func down(n int) []api.Op {
	return ops(api.Set, 0, n, api.Set, 1, 1, api.Sub, 0, 1, api.Zero, 0, 5, api.Jump, 0, 2)
}

func TestLoops(t *testing.T) {
	mustMem(t, "down", down(20), nil, []int{0, 1})
	sum := ops(api.Set, 1, 1, api.Zero, 0, 5, api.Add, 2, 0, api.Sub, 0, 1, api.Jump, 0, 1)
	mustMem(t, "1 to 10", sum, []int{10}, []int{0, 1, 55})
	mustMem(t, "none", sum, []int{0}, []int{0, 1, 0})
	factorial := ops(api.Set, 1, 1, api.Set, 2, 1, api.Zero, 0, 6, api.Mul, 2, 0, api.Sub, 0, 1, api.Jump, 0, 2)
	mustMem(t, "9 times 8 times ..", factorial, []int{9}, []int{0, 1, 362880})
	mustMem(t, "10 times 9 times ..", factorial, []int{10}, []int{0, 1, most})
}

// TestSteps: MaxSteps ops may be done, and not one more, whatever it is.
func TestSteps(t *testing.T) {
	for _, n := range []int{63, 64} {
		mustMem(t, "one behind the other", idle(n), nil, nil)
		mustMem(t, "the last one counts", append(idle(n-1), ops(api.Set, 0, 5)...), nil, []int{5})
		mustMem(t, "the last one is Stop", append(idle(n-1), ops(api.Stop, 0, 0)...), nil, nil)
		mustMem(t, "the last one is Stop, with more behind it", join(idle(n-1), ops(api.Stop, 0, 0), idle(9)), nil, nil)
		mustMem(t, "the last one jumps to the end", append(idle(n-1), ops(api.Jump, 0, n)...), nil, nil)
		mustMem(t, "the last one goes to the end", append(idle(n-1), ops(api.Zero, 0, n)...), nil, nil)
	}
	mustMem(t, "Stop comes in time in a long list", join(idle(63), ops(api.Stop, 0, 0), idle(500)), nil, nil)
	breaks(t, "one more", idle(65), env(), api.FaultSteps, 64)
	breaks(t, "many more", idle(1000), env(), api.FaultSteps, 64)
	breaks(t, "one more is Stop", append(idle(64), ops(api.Stop, 0, 0)...), env(), api.FaultSteps, 64)
	breaks(t, "one more jumps to the end", append(idle(64), ops(api.Jump, 0, 65)...), env(), api.FaultSteps, 64)
	breaks(t, "one more goes to the end", append(idle(64), ops(api.Zero, 0, 65)...), env(), api.FaultSteps, 64)

	mustMem(t, "a loop of 64", down(21), nil, []int{0, 1})
	breaks(t, "a loop of 67", down(22), env(), api.FaultSteps, 4)
	late := ops(api.Set, 2, 5, api.Set, 0, 21, api.Set, 1, 1, api.Sub, 0, 1, api.Zero, 0, 6, api.Jump, 0, 3)
	breaks(t, "a loop of 65, the last of which would end it", late, env(), api.FaultSteps, 4)
	late[1].B = 20
	mustMem(t, "a loop of 62", late, nil, []int{0, 1, 5})

	for n := 1; n <= 9; n++ {
		l := append(slices.Repeat(ops(api.Add, 0, 1), n-1), ops(api.Jump, 0, 0)...)
		breaks(t, "round and round", l, env(0, 1), api.FaultSteps, 64%n)
		l = append(slices.Repeat(ops(api.Add, 0, 1), n-1), ops(api.Zero, 3, 0)...)
		breaks(t, "round and round", l, env(0, 1), api.FaultSteps, 64%n)
	}
	breaks(t, "to and fro", ops(api.Jump, 0, 2, api.Jump, 0, 0, api.Jump, 0, 1), env(), api.FaultSteps, 2)
}

// fault is an op that breaks in env(), and with what code.
type fault struct {
	name string
	op   api.Op
	code int
}

// faults are ops that break where registers are as in env(3, -2, 1, 0), and two shots are there.
func faults() []fault {
	l := []fault{
		{"Div by 0", api.Op{Code: api.Div, A: 0, B: 3}, api.FaultDiv},
		{"Div of 0 by 0", api.Op{Code: api.Div, A: 3, B: 3}, api.FaultDiv},
		{"Roll by 0", api.Op{Code: api.Roll, A: 0, B: 3}, api.FaultRoll},
		{"Roll below 0", api.Op{Code: api.Roll, A: 0, B: 1}, api.FaultRoll},
		{"Roll of 0 by itself", api.Op{Code: api.Roll, A: 3, B: 3}, api.FaultRoll},
		{"Fire where it is full", api.Op{Code: api.Fire, A: 0, B: 1}, api.FaultFull},
		{"Jump beyond", api.Op{Code: api.Jump, A: 0, B: 1000}, api.FaultOp},
		{"Jump below 0", api.Op{Code: api.Jump, A: 0, B: -1}, api.FaultOp},
		{"Zero beyond", api.Op{Code: api.Zero, A: 3, B: 1000}, api.FaultOp},
		{"Zero below 0", api.Op{Code: api.Zero, A: 3, B: -1}, api.FaultOp},
	}
	for _, code := range []int{least, -most, -2, -1, 0, 14, 15, 257, 269, 65537, 1<<32 + 1, greatest} {
		for _, n := range []int{-1, 0, 3, 4} {
			l = append(l, fault{"no such op", api.Op{Code: code, A: n, B: n}, api.FaultOp})
		}
	}
	for _, field := range []int{least, -1, 8, 9, 99, 256, greatest} {
		l = append(l, fault{"Get of no field", api.Op{Code: api.Get, A: 0, B: field}, api.FaultField})
	}
	for _, field := range []int{least, -1, 4, 5, 6, 7, 8, 99, 256, greatest} {
		l = append(l, fault{"Put of none", api.Op{Code: api.Put, A: field, B: 0}, api.FaultField})
	}
	for _, r := range []int{least, -most, -2, -1, 4, 5, 99, 256, 1 << 32, greatest} {
		for _, code := range []int{api.Copy, api.Add, api.Sub, api.Mul, api.Div, api.Roll, api.Fire} {
			l = append(l,
				fault{"no such A", api.Op{Code: code, A: r, B: 0}, api.FaultReg},
				fault{"no such B", api.Op{Code: code, A: 0, B: r}, api.FaultReg},
				fault{"neither A nor B", api.Op{Code: code, A: r, B: r}, api.FaultReg},
				fault{"no such A, and a B that breaks", api.Op{Code: code, A: r, B: 3}, api.FaultReg},
				fault{"no such A, and a B below 0", api.Op{Code: code, A: r, B: 1}, api.FaultReg})
		}
		l = append(l,
			fault{"Set of no register", api.Op{Code: api.Set, A: r, B: 0}, api.FaultReg},
			fault{"Get into no register", api.Op{Code: api.Get, A: r, B: 0}, api.FaultReg},
			fault{"Get into no register, of no field", api.Op{Code: api.Get, A: r, B: 99}, api.FaultReg},
			fault{"Get into no register, of a field below", api.Op{Code: api.Get, A: r, B: -1}, api.FaultReg},
			fault{"Put of no register", api.Op{Code: api.Put, A: 0, B: r}, api.FaultReg},
			fault{"Put of no register, into Age", api.Op{Code: api.Put, A: 4, B: r}, api.FaultReg},
			fault{"Put of no register, into no field", api.Op{Code: api.Put, A: 99, B: r}, api.FaultReg},
			fault{"Zero of no register", api.Op{Code: api.Zero, A: r, B: 0}, api.FaultReg},
			fault{"Zero of no register, on at none", api.Op{Code: api.Zero, A: r, B: -1}, api.FaultReg})
	}
	return l
}

// TestFaults: each of them, at the first op and behind others, where all that they did is undone; MaxSteps is ahead of all.
func TestFaults(t *testing.T) {
	// Each of these turns something: registers, fields, the dice, the shots.
	busy := ops(api.Set, 2, 6, api.Put, 0, 2, api.Put, 1, 2, api.Put, 2, 2, api.Put, 3, 2, api.Roll, 2, 2, api.Fire, 0, 1, api.Fire, 1, 0)
	full := env(3, -2, 1, 0)
	full.Shots = []api.Body{shot(0), shot(1)}
	spare := full
	spare.Shots, spare.Room = append(make([]api.Body, 0, 9), shot(0), shot(1)), 4
	for _, f := range faults() {
		l := []api.Op{f.op}
		breaks(t, f.name, l, full, f.code, 0)
		breaks(t, f.name+", with more behind it", join(l, busy, l), full, f.code, 0)
		breaks(t, f.name+", behind others", join(busy, l), spare, f.code, len(busy))
		breaks(t, f.name+", behind and ahead of others", join(busy, l, busy), spare, f.code, len(busy))
		breaks(t, f.name+", by a Jump", join(ops(api.Jump, 0, 4), idle(3), l), full, f.code, 4)
		breaks(t, f.name+", by a Jump back", join(ops(api.Jump, 0, 2), l, ops(api.Jump, 0, 1)), full, f.code, 1)
		breaks(t, f.name+", as the last one that may be done", join(idle(63), l), full, f.code, 63)
		breaks(t, f.name+", as one more", join(idle(64), l), full, api.FaultSteps, 64)
		breaks(t, f.name+", behind others, as one more", join(busy, idle(64-len(busy)), l), spare, api.FaultSteps, 64)
		mustMem(t, f.name+", behind a Stop", join(ops(api.Stop, 0, 0), l), []int{3, -2, 1}, []int{3, -2, 1})
	}
}

// TestNotNamed: numbers of an op that name no register may be anything else that the op takes.
func TestNotNamed(t *testing.T) {
	mustMem(t, "Set's B", ops(api.Set, 0, 4, api.Set, 1, -1), nil, []int{4, -1})
	mustMem(t, "Get's B", ops(api.Get, 0, 4, api.Get, 1, 7), nil, []int{11, 42})
	mustMem(t, "Zero's B", ops(api.Zero, 0, 5, api.Set, 0, 1, api.Set, 0, 1, api.Set, 0, 1, api.Set, 0, 1, api.Set, 1, 2), nil, []int{0, 2})
	breaks(t, "Put's A", ops(api.Put, 4, 0), env(), api.FaultField, 0)
	breaks(t, "Put's A", ops(api.Put, -1, 0), env(), api.FaultField, 0)
}

// TestDivExample: the chapter's own.
func TestDivExample(t *testing.T) {
	breaks(t, "Div 0 0", ops(api.Div, 0, 0), env(), api.FaultDiv, 0)
}

// TestUndone: a fault's answer is e alone, whatever had been turned ahead of it, and whatever a Run before did.
func TestUndone(t *testing.T) {
	e := env(9, 6)
	e.Shots = append(make([]api.Body, 0, 3), shot(7))
	l := ops(api.Roll, 2, 1, api.Put, 0, 0, api.Put, 3, 0, api.Fire, 0, 1, api.Copy, 3, 2, api.Div, 3, 0, api.Fire, 0, 1)
	breaks(t, "full at the end", l, e, api.FaultFull, 6)
	end := e
	end.Dice, end.Body.Mem[2] = roll(1, 6)
	end.Body.X, end.Body.VY = 9, 9
	end.Shots = []api.Body{shot(7), {Kind: api.Shot, Owner: 3, X: 9, Y: 200, VX: 9, VY: 6}}
	must(t, "the same ops but the last one", l[:6], e, end)
}

// The rest is a model: all that may break is asked of an op ahead of what it does, in the order that 12.2 has.

// named is the registers that an op names.
func named(op api.Op) []int {
	switch op.Code {
	case api.Set, api.Get, api.Zero:
		return []int{op.A}
	case api.Put:
		return []int{op.B}
	case api.Jump, api.Stop:
		return nil
	}
	return []int{op.A, op.B}
}

// breakOf is the Code of the first fault of an op that would be done now; 0 is none.
func breakOf(op api.Op, e rule.Env, done, length int) int {
	if done == maxDone {
		return api.FaultSteps
	}
	if op.Code < 1 || op.Code > codes {
		return api.FaultOp
	}
	for _, r := range named(op) {
		if r < 0 || r > 3 {
			return api.FaultReg
		}
	}
	mem := e.Body.Mem
	none := op.B < 0 || op.B > length
	switch {
	case op.Code == api.Get && (op.B < 0 || op.B > 7), op.Code == api.Put && (op.A < 0 || op.A > 3):
		return api.FaultField
	case op.Code == api.Div && mem[op.B] == 0:
		return api.FaultDiv
	case op.Code == api.Roll && mem[op.B] <= 0:
		return api.FaultRoll
	case op.Code == api.Fire && len(e.Shots) >= e.Room:
		return api.FaultFull
	case op.Code == api.Jump && none, op.Code == api.Zero && mem[op.A] == 0 && none:
		return api.FaultOp
	}
	return 0
}

func clamp(n, low, high int) int {
	if n < low {
		return low
	}
	if n > high {
		return high
	}
	return n
}

// quotient is a by b, rounded toward 0, by amounts.
func quotient(a, b int) int {
	amount := 0
	for left, by := max(a, -a), max(b, -b); left >= by; {
		times := 1
		for left >= 2*times*by {
			times *= 2
		}
		left -= times * by
		amount += times
	}
	if (a < 0) != (b < 0) {
		return -amount
	}
	return amount
}

// done is e behind an op that does not break, and the place of the next one.
func done(op api.Op, e rule.Env, at, length int) (rule.Env, int) {
	b, mem := &e.Body, &e.Body.Mem
	fields := []*int{&b.X, &b.Y, &b.VX, &b.VY, &b.Age, &e.In.Buttons, &e.In.X, &e.In.Y}
	set := func(n int) { mem[op.A] = clamp(n, -most, most) }
	switch op.Code {
	case api.Set:
		set(op.B)
	case api.Copy:
		set(mem[op.B])
	case api.Add:
		set(mem[op.A] + mem[op.B])
	case api.Sub:
		set(mem[op.A] - mem[op.B])
	case api.Mul:
		set(mem[op.A] * mem[op.B])
	case api.Div:
		set(quotient(mem[op.A], mem[op.B]))
	case api.Get:
		set(*fields[op.B])
	case api.Put:
		low, high := 0, 4095
		if op.A >= 2 {
			low, high = -64, 64
		}
		*fields[op.A] = clamp(mem[op.B], low, high)
	case api.Zero:
		if mem[op.A] == 0 {
			return e, op.B
		}
	case api.Jump:
		return e, op.B
	case api.Roll:
		state, n := roll(e.Dice, mem[op.B])
		e.Dice = state
		set(n)
	case api.Fire:
		e.Shots = append(slices.Clone(e.Shots), api.Body{Kind: api.Shot, Owner: b.Owner, X: b.X, Y: b.Y,
			VX: clamp(mem[op.A], -64, 64), VY: clamp(mem[op.B], -64, 64)})
	case api.Stop:
		return e, length
	}
	return e, at + 1
}

// model is what Run must answer, of somebody.
func model(l []api.Op, e rule.Env) (rule.Env, trap.Fault, bool) {
	now := e
	for at, n := 0, 0; at != len(l); n++ {
		if code := breakOf(l[at], now, n, len(l)); code != 0 {
			return e, trap.Fault{Code: code, At: at}, false
		}
		now, at = done(l[at], now, at, len(l))
	}
	return now, trap.Fault{}, true
}

// pick is one of some numbers.
func pick(r *rand.Rand, l ...int) int {
	return l[r.Intn(len(l))]
}

// anyOp is an op that mostly does not break, in a list of n.
func anyOp(r *rand.Rand, n int) api.Op {
	op := api.Op{Code: 1 + r.Intn(codes), A: r.Intn(regs), B: r.Intn(regs)}
	if op.Code == api.Stop && r.Intn(3) > 0 {
		op.Code = api.Set
	}
	switch op.Code {
	case api.Set:
		op.B = pick(r, 0, 1, -1, 2, 7, -13, 64, 65, 1000, 4095, 4096, most-1, most, most+1, -most, least, greatest, r.Intn(3000)-1500)
	case api.Get:
		op.B = r.Intn(8)
	case api.Zero, api.Jump:
		op.B = r.Intn(n + 1)
	}
	if r.Intn(60) == 0 {
		op.A = pick(r, -1, 4, 5, 99, least, greatest)
	}
	if r.Intn(60) == 0 {
		op.B = pick(r, -1, n, n+1, 4, 7, 8, least, greatest)
	}
	if r.Intn(120) == 0 {
		op.Code = pick(r, -1, 0, 14, 99)
	}
	return op
}

// anyEnv is one of somebody right.
func anyEnv(r *rand.Rand) rule.Env {
	e := rule.Env{
		Body: api.Body{Kind: pick(r, api.Player, api.Shot), Owner: r.Intn(8), X: r.Intn(4096), Y: r.Intn(4096),
			VX: r.Intn(129) - 64, VY: r.Intn(129) - 64, Age: r.Intn(601), Faults: r.Intn(65536)},
		In:   api.Input{Buttons: pick(r, r.Intn(256), greatest), X: r.Intn(129) - 64, Y: pick(r, r.Intn(129)-64, least)},
		Dice: r.Uint64(),
		Room: pick(r, -1, 0, 1, 2, 3, 9),
	}
	for k := range e.Body.Mem {
		e.Body.Mem[k] = pick(r, 0, 1, -1, r.Intn(200)-100, r.Intn(2*most+1)-most, most, -most)
	}
	e.Shots = make([]api.Body, r.Intn(3), 4)
	for k := range e.Shots {
		e.Shots[k] = shot(r.Intn(9))
	}
	return e
}

// TestSweep: lists of any ops against the model; each way to end must have come up often.
func TestSweep(t *testing.T) {
	r := rand.New(rand.NewSource(12))
	ends := map[int]int{}
	for range 60000 {
		n := r.Intn(24)
		l := make([]api.Op, n, n+2)
		for k := range l[:cap(l)] {
			l[:cap(l)][k] = anyOp(r, n)
		}
		e := anyEnv(r)
		got, f, ok := call(t, l, e)
		want, wantF, wantOk := model(l, e)
		if !alike(got, want) || f != wantF || ok != wantOk {
			t.Fatalf("12.1, 12.2: %v of %+v: %+v %v %v, must be %+v %v %v", l, e, got, f, ok, want, wantF, wantOk)
		}
		ends[f.Code]++
	}
	for code := 0; code <= 7; code++ {
		if ends[code] < 500 {
			t.Errorf("the sweep ended by %d only %d times", code, ends[code])
		}
	}
}

// TestSweepOfOne: each op with each small A and B, by itself, of registers of many kinds.
func TestSweepOfOne(t *testing.T) {
	numbers := []int{least, -most - 1, -most, -64, -2, -1, 0, 1, 2, 3, 4, 5, 6, 7, 8, 9, 64, most, most + 1, greatest}
	for code := -2; code <= codes+2; code++ {
		for _, a := range numbers {
			for _, b := range numbers {
				for _, e := range []rule.Env{env(), env(3, -2, 1, 0), env(most, -most, 65, -65), env(0, 1, 4096, -1)} {
					for _, l := range [][]api.Op{ops(code, a, b), ops(code, a, b, api.Stop, 0, 0)} {
						got, f, ok := call(t, l, e)
						want, wantF, wantOk := model(l, e)
						if !alike(got, want) || f != wantF || ok != wantOk {
							t.Fatalf("12.1, 12.2: %v of %+v: %+v %v %v, must be %+v %v %v", l, e, got, f, ok, want, wantF, wantOk)
						}
					}
				}
			}
		}
	}
}

// TestSideBySide: Runs at the same time know nothing of one another.
func TestSideBySide(t *testing.T) {
	e := env(0, 1000)
	e.Shots, e.Room = append(make([]api.Body, 0, 20), shot(1)), 20
	l := ops(api.Roll, 0, 1, api.Put, 0, 0, api.Fire, 0, 1, api.Zero, 2, 5, api.Div, 0, 3, api.Stop, 0, 0)
	want, _, _ := model(l, e)
	broken := e
	broken.Body.Mem[2] = 1
	type answer struct {
		e  rule.Env
		f  trap.Fault
		ok bool
	}
	answers := make(chan [2]answer)
	for range 8 {
		go func() {
			var two [2]answer
			for k, from := range []rule.Env{e, broken} {
				two[k].e, two[k].f, two[k].ok = rule.Run(l, from)
			}
			answers <- two
		}()
	}
	for range 8 {
		two := <-answers
		if !two[0].ok || !alike(two[0].e, want) {
			t.Errorf("R7: %+v, must be %+v", two[0], want)
		}
		if two[1].ok || two[1].f != (trap.Fault{Code: api.FaultDiv, At: 4}) || !alike(two[1].e, broken) {
			t.Errorf("R7: %+v, must be %+v", two[1], broken)
		}
	}
}
