package tag_test

import (
	"bytes"
	"encoding/binary"
	"math"
	"math/big"
	"testing"

	"doubletake/tag"
)

// keys are the edges of a key: about 0, about P and its multiples, and the ends of int.
var keys = []int{
	0, 1, 2, 5, 7, 11, 1000, tag.P - 2, tag.P - 1, tag.P, tag.P + 1, 2*tag.P - 1, 2 * tag.P, 2*tag.P + 1,
	-1, -2, -5, 1 - tag.P, -tag.P, -tag.P - 1, 1 - 2*tag.P, -2 * tag.P, -2*tag.P - 1,
	1 << 31, 1 << 32, 1 << 62, -1 << 31, -1 << 32, -1 << 62,
	math.MaxInt, math.MaxInt - 1, math.MinInt, math.MinInt + 1,
}

// texts are bytes of many kinds: none, the least, the greatest, and mixed ones.
func texts() [][]byte {
	all := [][]byte{
		nil, {}, {0}, {1}, {127}, {128}, {255}, {0, 0}, {255, 255}, {0, 255}, {255, 0}, {1, 2, 3},
		{0, 0, 0, 0}, {255, 255, 255, 255}, []byte("game"), []byte("what was, and what was thought"),
		bytes.Repeat([]byte{0}, 300), bytes.Repeat([]byte{255}, 300),
	}
	for n := 1; n < 64; n += 3 {
		all = append(all, mixed(n))
	}
	return append(all, mixed(5000))
}

// mixed are n bytes without any order.
func mixed(n int) []byte {
	b := make([]byte, n)
	x := uint64(n)
	for k := range b {
		x = x*6364136223846793005 + 1442695040888963407
		b[k] = byte(x >> 56)
	}
	return b
}

// summed is the Sum as one number: powers of 257 without any bound, brought below P at the end alone.
func summed(key int, b []byte) int {
	prime, base := big.NewInt(tag.P), big.NewInt(257)
	h := new(big.Int).Mod(big.NewInt(int64(key)), prime) // 0 or more, whatever the sign
	h.Add(h, big.NewInt(1))
	h.Mul(h, new(big.Int).Exp(base, big.NewInt(int64(len(b))), nil))
	power := big.NewInt(1)
	for k := len(b) - 1; k >= 0; k-- {
		h.Add(h, new(big.Int).Mul(power, big.NewInt(int64(b[k])+1)))
		power.Mul(power, base)
	}
	h.Add(h, big.NewInt(int64(len(b))))
	return int(h.Mod(h, prime).Int64())
}

// closed is what Close answers, with the sum worked out by other means.
func closed(key int, b []byte) []byte {
	return binary.BigEndian.AppendUint32(bytes.Clone(b), uint32(summed(key, b)))
}

// refused tells of an Open that took what it may not take, or told something beside its false.
func refused(t *testing.T, what string, key int, b []byte) {
	t.Helper()
	if x, ok := tag.Open(key, b); ok || len(x) != 0 {
		t.Errorf("5.1: %s: Open(%d, %x): %x, %v", what, key, b, x, ok)
	}
}

// roomy is b with spare room behind it, all of it 9.
func roomy(b []byte) []byte {
	return append(bytes.Clone(b), bytes.Repeat([]byte{9}, 16)...)[:len(b)]
}

func TestP(t *testing.T) {
	if tag.P != 1<<31-1 || !big.NewInt(tag.P).ProbablyPrime(20) {
		t.Errorf("5.1: P is %d", tag.P)
	}
}

// Sums that are worked out by hand.
func TestSumOfFew(t *testing.T) {
	for _, c := range []struct {
		key  int
		b    []byte
		want int
	}{
		{0, nil, 1}, {0, []byte{}, 1},
		{5, nil, 6}, {-1, nil, 0}, {-2, nil, tag.P - 1}, {tag.P - 2, nil, tag.P - 1}, {tag.P - 1, nil, 0},
		{tag.P, nil, 1}, {tag.P + 1, nil, 2}, {-tag.P, nil, 1}, {-tag.P - 1, nil, 0}, {2 * tag.P, nil, 1},
		{math.MaxInt, nil, 2}, // 2^63 - 1, and 2^62 is 1
		{math.MinInt, nil, tag.P - 1},
		{0, []byte{0}, 257 + 1 + 1}, {0, []byte{255}, 257 + 256 + 1}, {1, []byte{0}, 2*257 + 1 + 1},
		{tag.P - 1, []byte{0}, 1 + 1}, {-1, []byte{255}, 256 + 1},
		{0, []byte{0, 0}, (257+1)*257 + 1 + 2}, {0, []byte{3, 4}, (257+4)*257 + 5 + 2},
		{0, []byte{0, 0, 0}, ((257+1)*257+1)*257 + 1 + 3},
	} {
		if got := tag.Sum(c.key, c.b); got != c.want {
			t.Errorf("5.1: Sum(%d, %x): %d, not %d", c.key, c.b, got, c.want)
		}
	}
}

// The last step comes round too: h is just below P, and the count of bytes brings it there or beyond.
func TestSumRoundAtLast(t *testing.T) {
	for n := 1; n <= 8; n++ {
		b := make([]byte, n)
		for away := range n {
			key := keyFor(t, b, tag.P-n+away)
			if got := tag.Sum(key, b); got != away {
				t.Errorf("5.1: Sum(%d, %d bytes): %d, not %d", key, n, got, away)
			}
		}
	}
}

// keyFor answers a key with which h is the one that is asked for, when all of b is in.
func keyFor(t *testing.T, b []byte, h int) int {
	t.Helper()
	prime := big.NewInt(tag.P)
	back := new(big.Int).ModInverse(big.NewInt(257), prime)
	x := big.NewInt(int64(h))
	for k := len(b) - 1; k >= 0; k-- {
		x.Sub(x, big.NewInt(int64(b[k])+1))
		x.Mul(x, back)
		x.Mod(x, prime)
	}
	return int(x.Int64()) - 1
}

func TestSumSweep(t *testing.T) {
	for _, b := range texts() {
		for _, key := range keys {
			got := tag.Sum(key, b)
			if want := summed(key, b); got != want {
				t.Errorf("5.1: Sum(%d, %x): %d, not %d", key, b, got, want)
			}
			if got < 0 || got >= tag.P {
				t.Errorf("5.1: Sum(%d, %x): %d is not modulo P", key, b, got)
			}
		}
	}
}

// Each value of a byte counts by itself, at each place.
func TestSumOfEachByte(t *testing.T) {
	for at := range 3 {
		for v := range 256 {
			b := []byte{7, 7, 7}
			b[at] = byte(v)
			if got, want := tag.Sum(1234567, b), summed(1234567, b); got != want {
				t.Errorf("5.1: Sum of %x: %d, not %d", b, got, want)
			}
		}
	}
}

// Bytes of 0 count too, ahead and behind, so that their number tells.
func TestSumOfZeros(t *testing.T) {
	seen := map[int]int{}
	for n := range 2000 {
		sum := tag.Sum(0, make([]byte, n))
		if m, ok := seen[sum]; ok {
			t.Errorf("5.1: Sum of %d and of %d zeros is %d", m, n, sum)
		}
		seen[sum] = n
	}
}

func TestSumOfMany(t *testing.T) {
	b := bytes.Repeat([]byte{255, 254, 0}, 1<<20)
	h := uint64(1)
	for _, v := range b {
		h = (h*257 + uint64(v) + 1) % tag.P
	}
	if got, want := tag.Sum(0, b), int((h+uint64(len(b)))%tag.P); got != want {
		t.Errorf("5.1: Sum of %d bytes: %d, not %d", len(b), got, want)
	}
}

// The four bytes, written out.
func TestCloseOfFew(t *testing.T) {
	for _, c := range []struct {
		key  int
		b    []byte
		want []byte
	}{
		{0, nil, []byte{0, 0, 0, 1}},
		{-1, nil, []byte{0, 0, 0, 0}},
		{tag.P - 2, nil, []byte{0x7f, 0xff, 0xff, 0xfe}},
		{0x01020303, nil, []byte{1, 2, 3, 4}},
		{0x7a8b9cac, nil, []byte{0x7a, 0x8b, 0x9c, 0xad}},
		{0, []byte{1}, []byte{1, 0, 0, 1, 4}},
		{0, []byte{0, 0}, []byte{0, 0, 0, 1, 3, 5}},
	} {
		if got := tag.Close(c.key, c.b); !bytes.Equal(got, c.want) {
			t.Errorf("5.1: Close(%d, %x): %x, not %x", c.key, c.b, got, c.want)
		}
	}
}

func TestCloseAndOpenSweep(t *testing.T) {
	for _, b := range texts() {
		for _, key := range keys {
			c := tag.Close(key, b)
			if want := closed(key, b); !bytes.Equal(c, want) {
				t.Errorf("5.1: Close(%d, %x): %x, not %x", key, b, c, want)
			}
			if x, ok := tag.Open(key, closed(key, b)); !ok || !bytes.Equal(x, b) {
				t.Errorf("5.1: Open(%d) of closed %x: %x, %v", key, b, x, ok)
			}
			again := tag.Close(key, c)
			if x, ok := tag.Open(key, again); !ok || !bytes.Equal(x, c) {
				t.Errorf("5.1: Open(%d) of twice closed %x: %x, %v", key, b, x, ok)
			}
		}
	}
}

func TestOpenOfFewerThanFour(t *testing.T) {
	for _, key := range keys {
		refused(t, "none", key, nil)
		refused(t, "none", key, []byte{})
		for n := range 4 {
			refused(t, "zeros", key, make([]byte, n))
			c := tag.Close(key, nil)
			refused(t, "front", key, c[:n])
			refused(t, "end", key, c[4-n:])
		}
	}
}

func TestOpenOfJustFour(t *testing.T) {
	for _, key := range keys {
		sum := uint32(summed(key, nil))
		if x, ok := tag.Open(key, binary.BigEndian.AppendUint32(nil, sum)); !ok || len(x) != 0 {
			t.Errorf("5.1: Open(%d) of the Sum of none: %x, %v", key, x, ok)
		}
		for _, other := range []uint32{sum + 1, sum - 1, ^sum, sum ^ 1<<31} {
			refused(t, "not the Sum", key, binary.BigEndian.AppendUint32(nil, other))
		}
	}
	refused(t, "the lowest first", 0, []byte{1, 0, 0, 0})
}

// A number that is alike modulo P is not the Sum.
func TestOpenOfSumBeyondP(t *testing.T) {
	for _, b := range texts() {
		for _, key := range []int{-1, 0, 1, tag.P - 1, 123456789} {
			sum := uint32(summed(key, b))
			refused(t, "the Sum and P", key, binary.BigEndian.AppendUint32(bytes.Clone(b), sum+tag.P))
		}
	}
	refused(t, "P, where the Sum is 0", -1, []byte{0x7f, 0xff, 0xff, 0xff})
	refused(t, "2 P, where the Sum is 0", -1, []byte{0xff, 0xff, 0xff, 0xfe})
}

func TestOpenOfTurned(t *testing.T) {
	for _, n := range []int{0, 1, 2, 3, 4, 5, 9, 30} {
		c := tag.Close(77, mixed(n))
		for k := range c {
			for turn := 1; turn < 256; turn++ {
				turned := bytes.Clone(c)
				turned[k] ^= byte(turn)
				refused(t, "turned", 77, turned)
			}
		}
	}
}

func TestOpenOfLongerAndShorter(t *testing.T) {
	for _, n := range []int{0, 1, 4, 9, 30} {
		c := tag.Close(77, mixed(n))
		for k := range len(c) {
			refused(t, "cut behind", 77, c[:k])
			refused(t, "cut ahead", 77, c[len(c)-k:])
		}
		refused(t, "one more behind", 77, append(bytes.Clone(c), 0))
		refused(t, "one more ahead", 77, append([]byte{0}, c...))
	}
}

// Keys are alike, if they are so modulo P, and only then.
func TestKeysModuloP(t *testing.T) {
	for _, b := range texts() {
		for _, key := range keys {
			c := tag.Close(key, b)
			for _, other := range keys {
				apart := new(big.Int).Sub(big.NewInt(int64(key)), big.NewInt(int64(other)))
				alike := apart.Mod(apart, big.NewInt(tag.P)).Sign() == 0
				x, ok := tag.Open(other, c)
				if ok != alike || ok && !bytes.Equal(x, b) || !ok && len(x) != 0 {
					t.Errorf("5.1: closed with %d, opened with %d: %x, %v", key, other, x, ok)
				}
			}
		}
	}
}

func TestMark(t *testing.T) {
	if got := tag.Mark(nil); got != 8*(1<<31)+12 {
		t.Errorf("5.1: Mark of none: %d", got)
	}
	if got := tag.Mark([]byte{0}); got != (8*257+2)*(1<<31)+12*257+2 {
		t.Errorf("5.1: Mark of a 0: %d", got)
	}
	for _, b := range texts() {
		got := tag.Mark(b)
		if want := summed(7, b)*(1<<31) + summed(11, b); got != want {
			t.Errorf("5.1: Mark of %x: %d, not %d", b, got, want)
		}
		if got>>31 != tag.Sum(7, b) || got&(1<<31-1) != tag.Sum(11, b) || got < 0 || got >= 1<<62 {
			t.Errorf("5.1: Mark of %x: %d is not its two Sums", b, got)
		}
	}
}

// Neither what is handed in nor the room behind it is changed.
func TestNothingIsChanged(t *testing.T) {
	for _, b := range texts() {
		for _, in := range [][]byte{b, tag.Close(3, b)} {
			own := roomy(in)
			whole := bytes.Clone(own[:cap(own)])
			tag.Sum(3, own)
			c := tag.Close(3, own)
			x, _ := tag.Open(3, own)
			tag.Mark(own)
			fill(c)
			fill(x)
			if !bytes.Equal(own[:cap(own)], whole) {
				t.Errorf("R2: %x is changed", in)
			}
		}
	}
}

// fill writes over all of b, its spare room too.
func fill(b []byte) {
	b = b[:cap(b)]
	for k := range b {
		b[k] = 0xee
	}
}

// What is changed behind a call turns no answer.
func TestNothingIsKept(t *testing.T) {
	for _, b := range texts() {
		own := roomy(b)
		c := tag.Close(3, own)
		fill(own)
		if !bytes.Equal(c, closed(3, b)) {
			t.Errorf("R2: Close kept %x", b)
		}
		own = roomy(c)
		x, ok := tag.Open(3, own)
		fill(own)
		if !ok || !bytes.Equal(x, b) {
			t.Errorf("R2: Open kept %x", b)
		}
	}
}

// An answer that is changed, or grows in its spare room, turns no other.
func TestAnswersAreNew(t *testing.T) {
	for _, b := range texts() {
		first, second := tag.Close(3, b), tag.Close(3, b)
		fill(first)
		if !bytes.Equal(second, closed(3, b)) || !bytes.Equal(tag.Close(3, b), second) {
			t.Errorf("R2: Close of %x", b)
		}
		x, _ := tag.Open(3, second)
		y, _ := tag.Open(3, second)
		fill(x)
		if z, _ := tag.Open(3, second); !bytes.Equal(y, b) || !bytes.Equal(z, b) {
			t.Errorf("R2: Open of %x", second)
		}
	}
}

// Spare room tells nothing: only the bytes up to the length count.
func TestSpareRoomIsNotRead(t *testing.T) {
	for _, b := range texts() {
		own := roomy(b)
		if tag.Sum(3, own) != summed(3, b) || tag.Mark(own) != tag.Mark(b) || !bytes.Equal(tag.Close(3, own), closed(3, b)) {
			t.Errorf("5.1: %x with spare room", b)
		}
	}
	c := tag.Close(3, []byte{1, 2})
	refused(t, "the Sum in the spare room", 3, c[:2])
	refused(t, "the last of the Sum in the spare room", 3, c[:5])
}

// nil and an empty list are the same.
func TestNoneIsEmpty(t *testing.T) {
	for _, key := range keys {
		if tag.Sum(key, nil) != tag.Sum(key, []byte{}) || !bytes.Equal(tag.Close(key, nil), tag.Close(key, []byte{})) {
			t.Errorf("R2: none, with key %d", key)
		}
	}
	if tag.Mark(nil) != tag.Mark([]byte{}) {
		t.Error("R2: Mark of none")
	}
}
