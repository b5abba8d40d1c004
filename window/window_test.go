package window_test

import (
	"math"
	"math/rand"
	"testing"

	"doubletake/window"
)

const (
	round = 65536
	half  = round / 2
	width = 64
)

// The constants are plain numbers: they fit into each kind that has room for them.
const (
	_ uint8   = window.Width
	_ float64 = window.Width
	_ uint8   = window.Fresh
	_ int8    = window.Twice
	_ float64 = window.Old
)

// told is all that a Window tells.
type told struct {
	any  bool
	last int
	bits uint64
}

func tell(w *window.Window) told { return told{w.Any(), w.Last(), w.Bits()} }

func wantTold(t *testing.T, what string, w *window.Window, want told) {
	t.Helper()
	if got := tell(w); got != want {
		t.Errorf("7.1: %s: any %v, last %d, bits %x, not any %v, last %d, bits %x", what, got.any, got.last, got.bits, want.any, want.last, want.bits)
	}
}

func wantNote(t *testing.T, what string, w *window.Window, n, want int) {
	t.Helper()
	if got := w.Note(n); got != want {
		t.Errorf("7.1: %s: Note(%d): %d, not %d", what, n, got, want)
	}
}

func wantCovers(t *testing.T, last int, bits uint64, n int, want bool) {
	t.Helper()
	if got := window.Covers(last, bits, n); got != want {
		t.Errorf("7.1: Covers(%d, %x, %d): %v", last, bits, n, got)
	}
}

// noting answers a Window that was told these numbers.
func noting(numbers ...int) *window.Window {
	w := new(window.Window)
	for _, n := range numbers {
		w.Note(n)
	}
	return w
}

// modulo is n modulo a round, 0 or more.
func modulo(n int) int {
	if n %= round; n < 0 {
		n += round
	}
	return n
}

// model keeps each number that was noted, for ever, by its place on a line that does not go round.
type model struct {
	noted map[int]bool
	last  int // its place on the line
}

// place is where n is on the line: of all places that are n, the nearest to last; half a round away the one behind it.
func (m *model) place(n int) int {
	far := modulo(modulo(n) - modulo(m.last))
	if far >= half {
		far -= round
	}
	return m.last + far
}

func (m *model) note(n int) int {
	if len(m.noted) == 0 {
		m.last = modulo(n)
		m.noted = map[int]bool{m.last: true}
		return 1
	}
	at := m.place(n)
	switch {
	case at < m.last-width:
		return 3
	case m.noted[at]:
		return 2
	}
	m.noted[at] = true
	m.last = max(m.last, at)
	return 1
}

func (m *model) tell() told {
	out := told{any: len(m.noted) > 0, last: modulo(m.last)}
	for k := range width {
		if m.noted[m.last-k-1] {
			out.bits += uint64(math.Pow(2, float64(k)))
		}
	}
	return out
}

// lasts are numbers about each end of a round, of its half and of the width.
func lasts() []int {
	return []int{0, 1, 2, 5, 62, 63, 64, 65, 66, 1000, 32703, 32704, 32767, 32768, 32769, 32832, 65470, 65471, 65472, 65534, 65535}
}

// wild are numbers outside of a round, or at its ends.
func wild() []int {
	all := []int{math.MinInt, math.MinInt + 1, math.MinInt + 64, math.MinInt + half, math.MaxInt, math.MaxInt - 1, math.MaxInt - 64, math.MaxInt - half}
	for _, middle := range []int{0, half, round, round + half, 2 * round, 1000 * round, 1 << 31, 1 << 32, 1 << 40, 1 << 53, 1 << 62} {
		for away := -2; away <= 2; away++ {
			all = append(all, middle+away, -middle-away)
		}
	}
	return all
}

func TestConstants(t *testing.T) {
	if window.Width != width {
		t.Errorf("7.1: Width is %d", window.Width)
	}
	if window.Fresh != 1 || window.Twice != 2 || window.Old != 3 {
		t.Errorf("7.1: Fresh, Twice, Old are %d, %d, %d", window.Fresh, window.Twice, window.Old)
	}
}

// Nothing was noted of a zero Window, and asking it turns nothing.
func TestZero(t *testing.T) {
	var w window.Window
	wantTold(t, "a zero Window", &w, told{})
	wantTold(t, "a zero Window, asked again", &w, told{})
	wantTold(t, "a new Window", new(window.Window), told{})
}

// step is a number, what becomes of it, and what the Window tells behind it.
type step struct {
	n, want, last int
	bits          uint64
}

// Runs that are worked out by hand.
func TestNoteOfFew(t *testing.T) {
	const f, tw, o = window.Fresh, window.Twice, window.Old
	for name, run := range map[string][]step{
		"the example":           {{5, f, 5, 0}, {7, f, 7, 2}, {6, f, 7, 3}, {5, tw, 7, 3}},
		"in their order":        {{1, f, 1, 0}, {2, f, 2, 1}, {3, f, 3, 3}, {4, f, 4, 7}, {5, f, 5, 15}},
		"in their order, twice": {{1, f, 1, 0}, {1, tw, 1, 0}, {2, f, 2, 1}, {2, tw, 2, 1}, {1, tw, 2, 1}, {3, f, 3, 3}, {1, tw, 3, 3}},
		"with gaps":             {{1, f, 1, 0}, {3, f, 3, 2}, {6, f, 6, 0x14}, {10, f, 10, 0x148}},
		"backward":              {{5, f, 5, 0}, {4, f, 5, 1}, {3, f, 5, 3}, {2, f, 5, 7}, {1, f, 5, 15}, {0, f, 5, 31}, {65535, f, 5, 63}},
		"out of order":          {{10, f, 10, 0}, {8, f, 10, 2}, {12, f, 12, 0xa}, {9, f, 12, 0xe}, {11, f, 12, 0xf}, {13, f, 13, 0x1f}, {8, tw, 13, 0x1f}, {12, tw, 13, 0x1f}},
		"0 first":               {{0, f, 0, 0}, {0, tw, 0, 0}, {1, f, 1, 1}, {0, tw, 1, 1}},
		"over the end":          {{65534, f, 65534, 0}, {65535, f, 65535, 1}, {0, f, 0, 3}, {1, f, 1, 7}, {65535, tw, 1, 7}, {65533, f, 1, 15}, {65534, tw, 1, 15}},
		"back over the end":     {{1, f, 1, 0}, {65535, f, 1, 2}, {0, f, 1, 3}, {65535, tw, 1, 3}},
		"just the width":        {{5, f, 5, 0}, {69, f, 69, 1 << 63}, {5, tw, 69, 1 << 63}, {4, o, 69, 1 << 63}, {6, f, 69, 3 << 62}},
		"one less":              {{5, f, 5, 0}, {68, f, 68, 1 << 62}, {5, tw, 68, 1 << 62}, {4, f, 68, 3 << 62}, {3, o, 68, 3 << 62}},
		"one more":              {{5, f, 5, 0}, {70, f, 70, 0}, {5, o, 70, 0}, {6, f, 70, 1 << 63}, {6, tw, 70, 1 << 63}},
		"pushed out":            {{5, f, 5, 0}, {6, f, 6, 1}, {69, f, 69, 3 << 62}, {70, f, 70, 1<<63 | 1}, {5, o, 70, 1<<63 | 1}, {6, tw, 70, 1<<63 | 1}, {71, f, 71, 3}, {6, o, 71, 3}},
		"far on":                {{5, f, 5, 0}, {6, f, 6, 1}, {200, f, 200, 0}, {199, f, 200, 1}, {136, f, 200, 1<<63 | 1}, {135, o, 200, 1<<63 | 1}, {6, o, 200, 1<<63 | 1}},
		"less than half round":  {{0, f, 0, 0}, {32767, f, 32767, 0}, {0, o, 32767, 0}},
		"half round":            {{0, f, 0, 0}, {32768, o, 0, 0}, {0, tw, 0, 0}, {1, f, 1, 1}, {32768, f, 32768, 0}, {0, o, 32768, 0}},
		"more than half round":  {{0, f, 0, 0}, {32769, o, 0, 0}, {65471, o, 0, 0}, {65472, f, 0, 1 << 63}},
		"half round from 40000": {{40000, f, 40000, 0}, {7232, o, 40000, 0}, {7233, o, 40000, 0}, {7231, f, 7231, 0}},
		"whole rounds":          {{70000, f, 4464, 0}, {4464, tw, 4464, 0}, {-61072, tw, 4464, 0}, {-61071, f, 4465, 1}, {70002, f, 4466, 3}},
		"below 0":               {{-1, f, 65535, 0}, {65535, tw, 65535, 0}, {-2, f, 65535, 1}, {65534, tw, 65535, 1}, {-65536, f, 0, 3}, {-65535, f, 1, 7}},
		"the ends of int":       {{math.MinInt, f, 0, 0}, {math.MaxInt, f, 0, 1}, {0, tw, 0, 1}, {65535, tw, 0, 1}, {math.MinInt + 1, f, 1, 3}, {math.MaxInt - 1, f, 1, 7}, {math.MinInt, tw, 1, 7}},
	} {
		var w window.Window
		for _, s := range run {
			wantNote(t, name, &w, s.n, s.want)
			wantTold(t, name, &w, told{true, s.last, s.bits})
		}
	}
}

// The first one is Fresh and is Last, whatever it is; of none ahead of it something is told.
func TestFirst(t *testing.T) {
	for n := range round {
		var w window.Window
		wantNote(t, "the first one", &w, n, window.Fresh)
		wantTold(t, "the first one", &w, told{true, n, 0})
		wantNote(t, "the first one again", &w, n, window.Twice)
		wantTold(t, "the first one again", &w, told{true, n, 0})
	}
	for _, n := range wild() {
		var w window.Window
		wantNote(t, "a first one of any size", &w, n, window.Fresh)
		wantTold(t, "a first one of any size", &w, told{true, modulo(n), 0})
	}
}

// Each number of the round as the second one: newer by less than half, the same, within the Width, further back.
func TestSecond(t *testing.T) {
	for _, last := range lasts() {
		for far := range round {
			w := noting(last)
			want, after := window.Old, told{true, last, 0}
			switch back := round - far; {
			case far == 0:
				want = window.Twice
			case far <= width:
				want, after = window.Fresh, told{true, modulo(last + far), 1 << (far - 1)}
			case far < half:
				want, after = window.Fresh, told{true, modulo(last + far), 0}
			case back <= width:
				want, after = window.Fresh, told{true, last, 1 << (back - 1)}
			}
			wantNote(t, "the second one", w, modulo(last+far), want)
			wantTold(t, "the second one", w, after)
		}
	}
}

// Each of the Width, alone: Fresh, then Twice; the bit is the one of its place.
func TestEachOfTheWidth(t *testing.T) {
	for _, last := range lasts() {
		for back := 1; back <= width; back++ {
			w := noting(last)
			wantNote(t, "one of the Width", w, modulo(last-back), window.Fresh)
			wantTold(t, "one of the Width", w, told{true, last, 1 << (back - 1)})
			wantNote(t, "one of the Width again", w, modulo(last-back), window.Twice)
			wantTold(t, "one of the Width again", w, told{true, last, 1 << (back - 1)})
			wantNote(t, "Last behind it", w, last, window.Twice)
			wantTold(t, "Last behind it", w, told{true, last, 1 << (back - 1)})
		}
	}
}

// All of the Width, then each of them again, and those further back.
func TestAllOfTheWidth(t *testing.T) {
	for _, last := range lasts() {
		w := noting(last)
		for back := 1; back <= width; back++ {
			wantNote(t, "all of the Width", w, modulo(last-back), window.Fresh)
		}
		full := told{true, last, math.MaxUint64}
		wantTold(t, "all of the Width", w, full)
		for back := 0; back <= width; back++ {
			wantNote(t, "all of the Width again", w, modulo(last-back), window.Twice)
		}
		for back := width + 1; back <= half; back++ {
			wantNote(t, "beyond the Width", w, modulo(last-back), window.Old)
		}
		wantTold(t, "beyond the Width", w, full)
	}
}

// A newer one, by each way that is newer: what was noted lies so much further back, and what falls off is Old.
func TestNewer(t *testing.T) {
	for _, last := range []int{0, 100, 32700, 65530} {
		for by := 1; by < half; by++ {
			w := noting(last, last-1, last-3, last-60, last-64)
			wantNote(t, "a newer one", w, modulo(last+by), window.Fresh)
			bits := uint64(0)
			for _, back := range []int{0, 1, 3, 60, 64} {
				if back+by <= width {
					bits += 1 << (back + by - 1)
				}
			}
			wantTold(t, "a newer one", w, told{true, modulo(last + by), bits})
			want := window.Old
			if by <= width {
				want = window.Twice
			}
			wantNote(t, "the Last of before", w, last, want)
			wantTold(t, "the Last of before", w, told{true, modulo(last + by), bits})
		}
	}
}

// An Old one turns nothing: what is noted afterwards is told as if it had not been.
func TestOldNotesNothing(t *testing.T) {
	for _, last := range lasts() {
		for _, back := range []int{65, 66, 100, 127, 128, 129, 1000, 32704, 32766, 32767, 32768} {
			w, other := noting(last, last-2, last-64), noting(last, last-2, last-64)
			wantNote(t, "an Old one", w, modulo(last-back), window.Old)
			wantNote(t, "an Old one again", w, modulo(last-back), window.Old)
			wantTold(t, "an Old one", w, told{true, last, 2 | 1<<63})
			for _, n := range []int{last - 1, last - 2, last + 1, last - 63, last - 64, last + 50, last, last + 40} {
				wantNote(t, "behind an Old one", w, n, other.Note(n))
				wantTold(t, "behind an Old one", w, tell(other))
			}
		}
	}
}

// Numbers in their order, for three rounds: each is Fresh, then Twice, and comes Fresh again a round later.
func TestRounds(t *testing.T) {
	var w window.Window
	for n := range 3 * round {
		wantNote(t, "round and round", &w, n%round, window.Fresh)
		bits := uint64(math.MaxUint64)
		if n < width {
			bits = 1<<n - 1
		}
		wantTold(t, "round and round", &w, told{true, n % round, bits})
		wantNote(t, "round and round again", &w, n%round, window.Twice)
	}
}

// A number with whole rounds more or less is the same number.
func TestNoteOfWholeRounds(t *testing.T) {
	random := rand.New(rand.NewSource(7))
	plain, more := new(window.Window), new(window.Window)
	near := 0
	for range 20000 {
		near += random.Intn(140) - 60
		rounds := []int{0, 1, -1, 2, -2, 1000, -1000, 1 << 40, -1 << 40, 1<<47 - 1, -1 << 47}[random.Intn(11)]
		wantNote(t, "whole rounds", more, modulo(near)+rounds*round, plain.Note(modulo(near)))
		wantTold(t, "whole rounds", more, tell(plain))
	}
}

// Numbers of any size, behind one another, against the model.
func TestNoteOfAnySize(t *testing.T) {
	for _, first := range wild() {
		for _, second := range wild() {
			var w window.Window
			var m model
			for _, n := range []int{first, second, first} {
				if want := m.note(n); w.Note(n) != want {
					t.Errorf("7.1: Note of %d, %d, %d: at %d not %d", first, second, first, n, want)
				}
				wantTold(t, "numbers of any size", &w, m.tell())
			}
		}
	}
}

// Runs of numbers that are near to one another, far away, and the same again, against the model.
func TestRunsAgainstModel(t *testing.T) {
	for seed := range 60 {
		random := rand.New(rand.NewSource(int64(seed)))
		var w window.Window
		var m model
		at := random.Intn(round)
		for range 150 {
			n := at
			switch random.Intn(10) {
			case 0:
				n = random.Intn(round)
			case 1:
				n += []int{half, half - 1, half + 1, -half, width, -width, width + 1, -width - 1}[random.Intn(8)]
			case 2, 3:
				n -= random.Intn(70)
			case 4:
				n += random.Intn(70)
			default:
				n += random.Intn(7) - 3
			}
			if want := m.note(n); w.Note(n) != want {
				t.Fatalf("7.1: run %d: Note(%d) is not %d", seed, n, want)
			}
			wantTold(t, "a run", &w, m.tell())
			at = w.Last()
		}
	}
}

// Asking turns nothing.
func TestAskingTurnsNothing(t *testing.T) {
	w := noting(10, 7, 12)
	want := told{true, 12, 0x12}
	for range 5 {
		wantTold(t, "asked again", w, want)
		window.Covers(w.Last(), w.Bits(), 11)
	}
	wantNote(t, "behind all asking", w, 11, window.Fresh)
}

// Of two Windows side by side one alone is told something.
func TestSideBySide(t *testing.T) {
	var pair [2]window.Window
	wantNote(t, "one of two", &pair[0], 5, window.Fresh)
	wantNote(t, "one of two", &pair[0], 4, window.Fresh)
	wantTold(t, "R7: the other one", &pair[1], told{})
	wantNote(t, "R7: the other one", &pair[1], 4, window.Fresh)
	wantTold(t, "R7: the other one", &pair[1], told{true, 4, 0})
	wantTold(t, "R7: the one", &pair[0], told{true, 5, 1})
	wantNote(t, "R7: the other one", &pair[1], 90, window.Fresh)
	wantNote(t, "R7: the one", &pair[0], 3, window.Fresh)
	wantTold(t, "R7: the other one", &pair[1], told{true, 90, 0})
	wantTold(t, "R7: the one", &pair[0], told{true, 5, 3})
}

// TestNoObject: a nil one has no answer, and panics with nothing.
func TestNoObject(t *testing.T) {
	var w *window.Window
	if got := w.Note(5); got != 0 || tell(w) != (told{}) {
		t.Errorf("R1: a nil Window: Note %d, then %v", got, tell(w))
	}
}

// Covers that are worked out by hand.
func TestCoversOfFew(t *testing.T) {
	const all = math.MaxUint64
	for _, c := range []struct {
		last int
		bits uint64
		n    int
		want bool
	}{
		{7, 0, 7, true}, {0, 0, 0, true}, {65535, 0, 65535, true}, {7, all, 7, true},
		{7, 0, 6, false}, {7, 1, 6, true}, {7, 1, 5, false}, {7, 2, 5, true}, {7, 2, 6, false}, {7, 3, 4, false}, {7, 4, 4, true},
		{100, 1 << 63, 36, true}, {100, 1 << 63, 35, false}, {100, 1 << 62, 37, true}, {100, 1 << 62, 36, false}, {100, all, 36, true}, {100, all, 35, false},
		{7, all, 8, false}, {7, all, 71, false}, {7, all, 32774, false}, {7, all, 32775, false}, {7, all, 32776, false},
		{0, 1, 65535, true}, {0, 1 << 63, 65472, true}, {0, all, 65471, false}, {65535, all, 0, false},
		{0, all, 32768, false}, {32768, all, 0, false}, {32768, 0, 0, false},
		{65536, 0, 0, true}, {0, 0, 65536, true}, {65543, 1, 6, true}, {7, 1, 65542, true}, {-1, 1, 65534, true}, {65535, 1, -2, true}, {-1, 0, -65537, true},
		{math.MaxInt, 0, -1, true}, {-1, 0, math.MaxInt, true}, {math.MinInt, 0, 0, true}, {math.MinInt, 1, math.MaxInt, true}, {math.MaxInt, all, math.MinInt, false},
		{math.MinInt, 1 << 63, math.MaxInt - 63, true}, {math.MinInt, all, math.MaxInt - 64, false},
	} {
		wantCovers(t, c.last, c.bits, c.n, c.want)
	}
}

// Each bit alone tells of one number alone, beside last.
func TestCoversOfEachBit(t *testing.T) {
	for _, last := range lasts() {
		for k := range width {
			for back := -130; back <= 130; back++ {
				wantCovers(t, last, 1<<k, modulo(last-back), back == 0 || back == k+1)
				wantCovers(t, last, ^uint64(1<<k), modulo(last-back), back >= 0 && back <= width && back != k+1)
			}
		}
	}
}

// No bit and all bits, asked of each number of the round.
func TestCoversOfEachNumber(t *testing.T) {
	for _, last := range lasts() {
		for back := range round {
			n := modulo(last - back)
			wantCovers(t, last, 0, n, back == 0)
			wantCovers(t, last, math.MaxUint64, n, back <= width)
		}
	}
}

// last and n of any size are the numbers of the round that they are.
func TestCoversOfAnySize(t *testing.T) {
	for _, last := range wild() {
		for _, n := range wild() {
			back := modulo(modulo(last) - modulo(n))
			for _, bits := range []uint64{0, 1, 2, 3, 1 << 62, 1 << 63, 0xaaaaaaaaaaaaaaaa, math.MaxUint64} {
				want := back == 0 || back <= width && bits/uint64(math.Pow(2, float64(back-1)))%2 == 1
				wantCovers(t, last, bits, n, want)
			}
		}
	}
}

// What a Window tells covers just what it noted, of Last and the Width ahead of it.
func TestCoversWhatWasNoted(t *testing.T) {
	for seed := range 40 {
		random := rand.New(rand.NewSource(int64(seed)))
		at := []int{0, 30, 32768, 65500, 65535}[seed%5]
		noted := map[int]bool{at: true} // by their places on a line
		w := noting(at)
		last := at
		for range 60 {
			n := last + random.Intn(20) - 12
			noted[n] = true
			last = max(last, n)
			w.Note(n)
			for back := -70; back <= 130; back++ {
				wantCovers(t, w.Last(), w.Bits(), modulo(last-back), back >= 0 && back <= width && noted[last-back])
			}
		}
	}
}

// A number is covered by what a Window tells, if and only if it would be Twice.
func TestCoversIsTwice(t *testing.T) {
	w := noting(60, 10, 30, 65530, 64, 3, 62)
	for n := range round {
		again := noting(60, 10, 30, 65530, 64, 3, 62)
		wantCovers(t, w.Last(), w.Bits(), n, again.Note(n) == window.Twice)
	}
}
