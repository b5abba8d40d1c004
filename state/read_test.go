package state_test

import (
	"bytes"
	"fmt"
	"math/rand"
	"slices"
	"strconv"
	"strings"
	"testing"

	"doubletake/api"
	"doubletake/state"
	"doubletake/step"
)

// model is a Read of its own: by the digits of the bits, and by bounds written out.
type model struct {
	digits string
	right  bool // nothing that may not be was told so far
}

// number takes a number of n bits; where they lack, or where it is beyond its bounds, nothing is right any more.
func (m *model) number(n, low, high int) int {
	if !m.right || len(m.digits) < n {
		m.right = false
		return 0
	}
	v, _ := strconv.ParseInt(m.digits[:n], 2, 64)
	if low < 0 && m.digits[0] == '1' {
		v -= 1 << n
	}
	m.digits = m.digits[n:]
	m.right = low <= int(v) && int(v) <= high
	return int(v)
}

func (m *model) body(place, players int) api.Body {
	b := api.Body{Kind: m.number(2, 0, 2)}
	if b.Kind != 0 {
		b.Owner = m.number(3, 0, players-1)
		b.X = m.number(12, 0, 4095)
		b.Y = m.number(12, 0, 4095)
		b.VX = m.number(8, -64, 64)
		b.VY = m.number(8, -64, 64)
		b.Age = m.number(10, 0, 600)
		for k := range b.Mem {
			b.Mem[k] = m.number(21, -1000000, 1000000)
		}
		b.Faults = m.number(16, 0, 65535)
	}
	m.right = m.right && mayStand(b, place, players)
	return b
}

// unpacked is bytes as a tape.
func unpacked(b []byte) string {
	l := make([]byte, 8*len(b))
	for k := range l {
		l[k] = '0' + b[k/8]>>(7-k%8)&1
	}
	return string(l)
}

// modelRead answers the state that bytes are, and whether they are one.
func modelRead(players int, b []byte) (api.State, bool) {
	m := model{digits: unpacked(b), right: true}
	s := api.State{Frame: m.number(10, 0, 600)}
	s.Dice = uint64(m.number(32, 0, 1<<32-1)) << 32
	s.Dice += uint64(m.number(32, 0, 1<<32-1))
	for place := range s.Bodies {
		s.Bodies[place] = m.body(place, players)
	}
	for k := range players {
		s.Score[k] = m.number(31, 0, 1<<31-1)
	}
	return s, m.right && len(m.digits) < 8 && !strings.Contains(m.digits, "1")
}

// checkRead holds Read against the model, and tells whether it is a state.
func checkRead(t *testing.T, name string, c api.Config, b []byte) bool {
	t.Helper()
	want, right := modelRead(c.Players, b)
	if !right {
		none(t, name, c, b)
		return false
	}
	if !step.Right(c, want) {
		t.Fatalf("the model of %s is not right: %+v", name, want)
	}
	taken(t, name, c, want, b)
	return true
}

// TestReadShort: each shorter length, down to no bytes.
func TestReadShort(t *testing.T) {
	for players := 1; players <= 8; players++ {
		for k, s := range crowds(players) {
			c, b := config(players), packed(tape(players, s))
			for n := range b {
				none(t, fmt.Sprint(players, " players, crowd ", k, ", ", n, " bytes"), c, b[:n])
			}
			none(t, fmt.Sprint(players, " players, nil"), c, nil)
		}
	}
}

// TestReadLong: bytes behind the last one, be they 0.
func TestReadLong(t *testing.T) {
	for players := 1; players <= 8; players++ {
		for k, s := range crowds(players) {
			c, b := config(players), packed(tape(players, s))
			for n := 1; n <= 40; n++ {
				name := fmt.Sprint(players, " players, crowd ", k, ", longer by ", n)
				none(t, name, c, append(slices.Clone(b), make([]byte, n)...))
				none(t, name+", not 0", c, append(slices.Clone(b), bytes.Repeat([]byte{1}, n)...))
				none(t, name+", twice", c, append(slices.Clone(b), b[:min(n, len(b))]...))
			}
			none(t, "twice", c, append(slices.Clone(b), b...))
			none(t, "much longer", c, append(slices.Clone(b), make([]byte, 1<<20)...))
			none(t, "a 0 ahead", c, append([]byte{0}, b...))
		}
	}
}

// TestReadBehind: bits behind the last one, up to the whole byte, that are not 0: each count of them, and all that they can be.
func TestReadBehind(t *testing.T) {
	counts := map[int]bool{}
	for players := 1; players <= 8; players++ {
		var shots []int
		for n := 0; n <= 16-players; n++ {
			s := crowd(players, shots...)
			shots = append(shots, players+n)
			was := tape(players, s)
			behind := (8 - len(was)%8) % 8
			counts[behind] = true
			c := config(players)
			taken(t, "nothing behind", c, s, packed(was))
			for v := 1; v < 1<<behind; v++ {
				none(t, fmt.Sprint(players, " players, ", n, " shots, behind ", v), c, packed(was+digits(v, behind)))
			}
			none(t, "a byte behind", c, packed(was+digits(0, behind)+"00000000"))
			none(t, "bits of a byte behind", c, packed(was+digits(0, behind)+"00000001"))
		}
	}
	if len(counts) != 8 {
		t.Errorf("these counts of bits behind were asked for: %v", counts)
	}
}

// TestReadOther: of another count of players.
func TestReadOther(t *testing.T) {
	for players := 1; players <= 8; players++ {
		for other := 1; other <= 8; other++ {
			for k, s := range append(crowds(players), step.First(config(players))) {
				b := packed(tape(players, s))
				if right := checkRead(t, fmt.Sprint("crowd ", k, " of ", players, " by ", other), config(other), b); right != (other == players) {
					t.Errorf("14.1: crowd %d of %d players, read as of %d: %v", k, players, other, right)
				}
			}
		}
	}
}

// TestReadPlain: bytes that are all alike, of each length that a state may have and more.
func TestReadPlain(t *testing.T) {
	for players := 1; players <= 8; players++ {
		for n := range 400 {
			for _, v := range []byte{0, 1, 0x55, 0x7f, 0x80, 0xaa, 0xff} {
				none(t, fmt.Sprint(players, " players, ", n, " bytes of ", v), config(players), bytes.Repeat([]byte{v}, n))
			}
		}
	}
}

// flipped is bytes with one bit turned.
func flipped(b []byte, at int) []byte {
	b = slices.Clone(b)
	b[at/8] ^= 128 >> (at % 8)
	return b
}

// TestReadTurned: any one bit turned is another state, or none.
func TestReadTurned(t *testing.T) {
	for _, players := range []int{1, 2, 5, 8} {
		l := crowds(players)
		for k, s := range []api.State{step.First(config(players)), l[0], l[3], l[5]} {
			b := packed(tape(players, s))
			for at := range 8 * len(b) {
				name := fmt.Sprint(players, " players, crowd ", k, ", bit ", at, " turned")
				if checkRead(t, name, config(players), flipped(b, at)) {
					if x, _ := state.Read(config(players), flipped(b, at)); state.Same(x, s) {
						t.Errorf("14.1: %s: the same state", name)
					}
				}
			}
		}
	}
}

// TestReadTurnedFirst: of a First of one player, what each bit turned is, counted by hand: all of Frame, Dice, X, Y, Age, Faults
// and Score may be; VX, VY and each Mem but with their sign; no Kind, no Owner, and no bit behind.
func TestReadTurnedFirst(t *testing.T) {
	c := config(1)
	b := packed(tape(1, step.First(c)))
	count := 0
	for at := range 8 * len(b) {
		if _, err := state.Read(c, flipped(b, at)); err == api.OK {
			count++
		}
	}
	if want := 10 + 64 + 12 + 12 + 7 + 7 + 10 + 4*20 + 16 + 31; count != want {
		t.Errorf("14.1: %d bits turned are states, must be %d", count, want)
	}
}

// wild is what was laid, with some bits turned, and bytes put in or taken out; or any bytes.
func wild(r *rand.Rand, b []byte) []byte {
	b = slices.Clone(b)
	for range 1 + r.Intn(3) {
		switch at := r.Intn(len(b)); r.Intn(8) {
		case 0:
			b = slices.Insert(b, at, byte(r.Intn(256)))
		case 1:
			b = slices.Delete(b, at, at+1)
		case 2:
			b[at] = byte(r.Intn(256))
		default:
			b[at] ^= 1 << r.Intn(8)
		}
	}
	if r.Intn(10) == 0 {
		r.Read(b)
	}
	return b
}

// TestReadWild: bytes by a fixed source, against the model.
func TestReadWild(t *testing.T) {
	r := rand.New(rand.NewSource(14))
	count := 0
	for k := range 8000 {
		players := 1 + r.Intn(8)
		s := crowds(players)[r.Intn(6)]
		if checkRead(t, fmt.Sprint("wild ", k), config(players), wild(r, packed(tape(players, s)))) {
			count++
		}
	}
	if count < 1000 || count > 7000 {
		t.Errorf("of 8000 wild bytes %d are states: too few or too many of them to tell", count)
	}
}

// TestReadKept: what is done to the bytes behind a Read turns nothing of what was read.
func TestReadKept(t *testing.T) {
	c, s := config(2), crowd(2, 4)
	b := packed(tape(2, s))
	x, err := state.Read(c, b)
	for k := range b {
		b[k] ^= 0xff
	}
	if err != api.OK || x != s {
		t.Errorf("R2: %d, %+v", err, x)
	}
	if y, err := state.Read(c, packed(tape(2, s))); err != api.OK || y != s {
		t.Errorf("R4: %d, %+v", err, y)
	}
}
