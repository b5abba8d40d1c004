package state_test

import (
	"fmt"
	"testing"

	"doubletake/api"
	"doubletake/state"
	"doubletake/step"
	"doubletake/tag"
)

// differ holds that two states are not the same, asked both ways, and that each is the same as itself.
func differ(t *testing.T, name string, a, b api.State) {
	t.Helper()
	if state.Same(a, b) || state.Same(b, a) {
		t.Errorf("14.1: Same, %s: %+v and %+v", name, a, b)
	}
	alike(t, name, a)
	alike(t, name, b)
}

// alike holds that a state is the same as one that was made anew of its numbers.
func alike(t *testing.T, name string, s api.State) {
	t.Helper()
	x := api.State{Frame: s.Frame, Dice: s.Dice}
	for k, b := range s.Bodies {
		x.Bodies[k] = api.Body{Kind: b.Kind, Owner: b.Owner, X: b.X, Y: b.Y, VX: b.VX, VY: b.VY, Age: b.Age, Faults: b.Faults}
		for j, n := range b.Mem {
			x.Bodies[k].Mem[j] = n
		}
	}
	for k, n := range s.Score {
		x.Score[k] = n
	}
	if !state.Same(s, x) || !state.Same(x, s) || !state.Same(s, s) {
		t.Errorf("14.1: Same, %s: not as itself: %+v", name, s)
	}
}

// fields are all numbers of a state but Dice, those of bodies that stand nowhere and of no player among them.
func fields() []number {
	l := []number{{name: "Frame", at: func(s *api.State) *int { return &s.Frame }}}
	for place := range 16 {
		l = append(l,
			number{name: fmt.Sprint("Kind of ", place), at: func(s *api.State) *int { return &s.Bodies[place].Kind }},
			number{name: fmt.Sprint("Owner of ", place), at: func(s *api.State) *int { return &s.Bodies[place].Owner }})
		for _, n := range bodyNumbers(place) {
			n.name = fmt.Sprint(n.name, " of ", place)
			l = append(l, n)
		}
	}
	for k := range 8 {
		l = append(l, number{name: fmt.Sprint("Score ", k), at: func(s *api.State) *int { return &s.Score[k] }})
	}
	return l
}

// odd is a state that may not be, in all that it tells.
func odd() api.State {
	s := api.State{Frame: -7, Dice: 3}
	for k := range s.Bodies {
		s.Bodies[k] = api.Body{Kind: 9 + k, Owner: -k, X: least, Y: greatest, VX: 1 << 40, VY: -1 << 40, Age: -1, Mem: [4]int{greatest, least, 1 << 21, 0}, Faults: -k}
	}
	for k := range s.Score {
		s.Score[k] = -1 - k
	}
	return s
}

// bases are states of all kinds, be they right or not.
func bases() map[string]api.State {
	return map[string]api.State{
		"zero":       {},
		"odd":        odd(),
		"First of 1": step.First(config(1)),
		"First of 8": step.First(config(8)),
		"of 1":       crowd(1, 3),
		"of 3":       crowd(3, 3, 5, 15),
		"full":       crowd(8, 8, 9, 10, 11, 12, 13, 14, 15),
	}
}

// TestSame: of states that differ in one number alone, each of them in turn, by much or little.
func TestSame(t *testing.T) {
	for name, s := range bases() {
		alike(t, name, s)
		for _, n := range fields() {
			for _, more := range []int{1, -1, 2, 3, 4, 1 << 8, 1 << 10, 1 << 16, 1 << 21, 1 << 31, 1 << 32, 1 << 62, least} {
				x := s
				*n.at(&x) += more
				differ(t, fmt.Sprint(name, ", ", n.name, " more by ", more), s, x)
			}
		}
		for k := range 64 {
			x := s
			x.Dice ^= 1 << k
			differ(t, fmt.Sprint(name, ", Dice, bit ", k), s, x)
		}
	}
}

// TestSameSwapped: the same numbers at other places.
func TestSameSwapped(t *testing.T) {
	full := bases()["full"]
	l := fields()
	for j, a := range l {
		for _, b := range l[:j] {
			x := full
			*a.at(&x), *b.at(&x) = *b.at(&full), *a.at(&full)
			if *a.at(&full) == *b.at(&full) {
				alike(t, fmt.Sprint(a.name, " and ", b.name, " swapped, which are alike"), x)
				continue
			}
			differ(t, fmt.Sprint(a.name, " and ", b.name, " swapped"), full, x)
		}
	}
	for j := range 16 {
		for k := range j {
			x := full
			x.Bodies[j], x.Bodies[k] = full.Bodies[k], full.Bodies[j]
			differ(t, fmt.Sprint("bodies ", j, " and ", k, " swapped"), full, x)
		}
	}
}

// TestSameApart: of states that have nothing in common, and of ones that just look alike.
func TestSameApart(t *testing.T) {
	l := bases()
	for a := range l {
		for b := range l {
			if a != b {
				differ(t, a+" and "+b, l[a], l[b])
			}
		}
	}
	// What is not laid is asked, too.
	x := crowd(2, 5)
	y, z := x, x
	y.Bodies[3].X = 7
	z.Score[2] = 7
	differ(t, "a Nobody with an X", x, y)
	differ(t, "a Score of nobody", x, z)
	differ(t, "two that are not right", y, z)
	// Two that would be laid as the same bits, were they laid at all.
	y, z = x, x
	y.Frame += 1 << 10
	z.Bodies[0].Kind += 4
	differ(t, "Frame, round", x, y)
	differ(t, "Kind, round", x, z)
}

// TestMark: as it is for the bytes of Lay, and unlike for states that differ in one number; 0 of what may not be.
func TestMark(t *testing.T) {
	c, s := config(3), crowd(3, 3, 5, 15)
	seen := map[int]string{0: "what may not be", mark(t, c, s): "the state"}
	for _, n := range numbers(3, s) {
		for _, more := range []int{1, -1, 2} {
			x := s
			*n.at(&x) += more
			name := fmt.Sprint(n.name, " more by ", more)
			got := mark(t, c, x)
			b, err := lay(t, c, x)
			if err != api.OK || got != tag.Mark(b) {
				t.Errorf("14.1: Mark, %s: %d, must be %d", name, got, tag.Mark(b))
			}
			if was, there := seen[got]; there {
				t.Errorf("14.1: Mark, %s: %d, as of %s", name, got, was)
			}
			seen[got] = name
		}
	}
	for name, s := range bases() {
		for players := 1; players <= 8; players++ {
			want := 0
			if step.Right(config(players), s) {
				want = tag.Mark(packed(tape(players, s)))
			}
			if got := mark(t, config(players), s); got != want {
				t.Errorf("14.1: Mark, %s, %d players: %d, must be %d", name, players, got, want)
			}
		}
	}
}
