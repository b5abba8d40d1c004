package bits_test

import (
	"bytes"
	"math"
	"slices"
	"strconv"
	"strings"
	"testing"

	"doubletake/bits"
	"doubletake/trap"
)

// sizes are asked of Put, Get and both Signed: few bits, the edges of bytes, and what is no size.
var sizes = []int{
	0, 1, 2, 3, 7, 8, 9, 12, 15, 16, 17, 31, 32, 33, 63, 64,
	-1, -2, -8, -64, math.MinInt, 65, 72, 99, 128, math.MaxInt,
}

// numbers are laid in all those sizes.
var numbers = []uint64{
	0, 1, 2, 5, 0x7f, 0x80, 0xff, 0xabc, 1 << 31, 1 << 32, 1 << 63,
	1<<63 - 1, math.MaxUint64, 0x9e3779b97f4a7c15, 0xaaaaaaaaaaaaaaaa, 0x5555555555555555,
}

// mixed is the number behind n of a row without any order.
func mixed(n uint64) uint64 { return n*6364136223846793005 + 1442695040888963407 }

// within is n as a size: none below 0, 64 at most.
func within(n int) int {
	if n < 0 {
		return 0
	}
	if n > 64 {
		return 64
	}
	return n
}

// digits are the lowest n bits of v, written out.
func digits(v uint64, n int) string {
	all := strings.Repeat("0", 64) + strconv.FormatUint(v, 2)
	return all[len(all)-within(n):]
}

// number is the way back from digits.
func number(d string) uint64 {
	if d == "" {
		return 0
	}
	v, err := strconv.ParseUint(d, 2, 64)
	if err != nil {
		panic(err)
	}
	return v
}

// signed is the way back, where the first digit counts against the others.
func signed(d string) int {
	if d == "" || d[0] == '0' {
		return int(number(d))
	}
	turned := strings.NewReplacer("0", "1", "1", "0").Replace(d)
	return -int(number(turned)) - 1
}

// packed are digits as bytes, with 0s behind them up to a whole byte.
func packed(d string) []byte {
	for len(d)%8 != 0 {
		d += "0"
	}
	var b []byte
	for ; d != ""; d = d[8:] {
		b = append(b, byte(number(d[:8])))
	}
	return b
}

// unpacked are all bits of b as digits.
func unpacked(b []byte) string {
	var d strings.Builder
	for _, one := range b {
		d.WriteString(digits(uint64(one), 8))
	}
	return d.String()
}

// wantLaid holds what a Writer has against the digits that are wanted.
func wantLaid(t *testing.T, what string, w *bits.Writer, want string) {
	t.Helper()
	if got := w.Bytes(); !bytes.Equal(got, packed(want)) || w.Len() != len(want) {
		t.Errorf("4.1: %s: %x, %d bits, want %x, %d", what, got, w.Len(), packed(want), len(want))
	}
}

func TestWriterHasNoBitsAtFirst(t *testing.T) {
	w := bits.NewWriter()
	if w == nil || w.Len() != 0 || len(w.Bytes()) != 0 {
		t.Errorf("4.1: a new Writer: %x, %d bits", w.Bytes(), w.Len())
	}
}

func TestPutLaysTheLowestBitsHighestFirst(t *testing.T) {
	w := bits.NewWriter()
	w.Put(5, 3)
	w.Put(1, 1)
	wantLaid(t, "the chapter's example", w, "1011")
	if got := w.Bytes(); !bytes.Equal(got, []byte{0xb0}) || w.Len() != 4 {
		t.Errorf("4.1: the chapter's example: %x, %d bits", got, w.Len())
	}
	for _, v := range numbers {
		for _, n := range sizes {
			w := bits.NewWriter()
			w.Put(v, n)
			wantLaid(t, "Put of "+strconv.FormatUint(v, 16)+", "+strconv.Itoa(n), w, digits(v, n))
		}
	}
}

func TestPutGoesOnBehindWhatIsThere(t *testing.T) {
	for ahead := range 17 {
		for _, n := range sizes {
			for _, v := range numbers {
				w := bits.NewWriter()
				w.Put(0, ahead)
				w.Put(v, n)
				w.Put(6, 3)
				wantLaid(t, "behind "+strconv.Itoa(ahead)+" bits", w, strings.Repeat("0", ahead)+digits(v, n)+"110")
			}
		}
	}
	w := bits.NewWriter()
	for _, v := range []uint64{0xa, 0xb, 0xc, 0xd} {
		w.Put(v, 4)
	}
	if got := w.Bytes(); !bytes.Equal(got, []byte{0xab, 0xcd}) || w.Len() != 16 {
		t.Errorf("4.1: four halves of bytes: %x, %d bits", got, w.Len())
	}
}

// TestPutOfNoBits: no byte is begun for them, and those that are there stay.
func TestPutOfNoBits(t *testing.T) {
	for _, ahead := range []int{0, 1, 7, 8, 9, 16} {
		w := bits.NewWriter()
		w.Put(math.MaxUint64, ahead)
		for _, n := range []int{0, -1, -7, -8, -9, math.MinInt, math.MinInt + 1} {
			w.Put(math.MaxUint64, n)
			w.Signed(-1, n)
		}
		wantLaid(t, "no bits behind "+strconv.Itoa(ahead), w, strings.Repeat("1", ahead))
	}
}

func TestSignedLaysTwosComplement(t *testing.T) {
	for _, c := range []struct {
		v, n int
		want string
	}{
		{0, 1, "0"}, {-1, 1, "1"}, {1, 1, "1"},
		{0, 3, "000"}, {1, 3, "001"}, {3, 3, "011"}, {-1, 3, "111"}, {-3, 3, "101"}, {-4, 3, "100"},
		{4, 3, "100"}, {-5, 3, "011"}, {8, 3, "000"}, {5, 2, "01"}, {-6, 2, "10"},
		{-64, 8, "11000000"}, {64, 8, "01000000"}, {-128, 8, "10000000"}, {127, 8, "01111111"},
		{-2, 12, "111111111110"}, {300, 12, "000100101100"},
		{-1000000, 21, "100001011110111000000"}, {1000000, 21, "011110100001001000000"},
		{-1, 64, strings.Repeat("1", 64)}, {-1, 99, strings.Repeat("1", 64)}, {-1, math.MaxInt, strings.Repeat("1", 64)},
		{math.MinInt64, 64, "1" + strings.Repeat("0", 63)}, {math.MaxInt64, 64, "0" + strings.Repeat("1", 63)},
		{math.MinInt64, 63, strings.Repeat("0", 63)}, {-2, 65, strings.Repeat("1", 63) + "0"},
		{-1, 0, ""}, {-1, -2, ""}, {7, math.MinInt, ""},
	} {
		w := bits.NewWriter()
		w.Signed(c.v, c.n)
		wantLaid(t, "Signed of "+strconv.Itoa(c.v)+", "+strconv.Itoa(c.n), w, c.want)
		w.Put(1, 2)
		wantLaid(t, "Put behind Signed of "+strconv.Itoa(c.v), w, c.want+"01")
	}
}

// TestLenCountsBits: those up to a whole byte are not counted.
func TestLenCountsBits(t *testing.T) {
	w, want := bits.NewWriter(), 0
	for n := range 65 {
		w.Put(uint64(n), n)
		w.Signed(-n, n)
		want += 2 * n
		if got := w.Len(); got != want {
			t.Fatalf("4.1: Len is %d behind sizes up to %d, want %d", got, n, want)
		}
		if got := len(w.Bytes()); got != (want+7)/8 {
			t.Fatalf("4.1: %d bytes of %d bits", got, want)
		}
	}
}

func TestBytesFillsUpWithZeros(t *testing.T) {
	w := bits.NewWriter()
	for n, want := range []string{"", "80", "c0", "e0", "f0", "f8", "fc", "fe", "ff", "ff80", "ffc0"} {
		got := ""
		for _, b := range w.Bytes() {
			got += strconv.FormatUint(uint64(b), 16)
		}
		if got != want {
			t.Errorf("4.1: %d bits that are 1: %s, want %s", n, got, want)
		}
		w.Put(math.MaxUint64, 1)
	}
}

// TestBytesTurnsNothing: what is laid behind it goes where it would have gone.
func TestBytesTurnsNothing(t *testing.T) {
	w, want := bits.NewWriter(), ""
	for n := range 30 {
		for range 2 {
			wantLaid(t, "asked twice", w, want)
		}
		w.Put(0x2d6b5ad5, n%7)
		want += digits(0x2d6b5ad5, n%7)
	}
	wantLaid(t, "asked all along", w, want)
}

// whole is all of b's memory, its spare room, too.
func whole(b []byte) []byte { return b[:cap(b)] }

// TestBytesAnswersNewMemory: neither the Writer nor another answer sees what becomes of one.
func TestBytesAnswersNewMemory(t *testing.T) {
	for n := range 70 {
		w := bits.NewWriter()
		for range n {
			w.Put(5, 3)
		}
		want := strings.Repeat("101", n)
		first, second := w.Bytes(), w.Bytes()
		for i := range whole(first) {
			whole(first)[i] = 0x3c
		}
		if !bytes.Equal(second, packed(want)) {
			t.Errorf("R2: an answer turned with another: %x", second)
		}
		wantLaid(t, "an answer was written over", w, want)
		w.Put(math.MaxUint64, 64)
		if !bytes.Equal(second, packed(want)) {
			t.Errorf("R2: an answer turned with a later Put: %x", second)
		}
		for i := range whole(first) {
			if whole(first)[i] != 0x3c {
				t.Errorf("R2: a later Put wrote into an answer: %x", whole(first))
			}
		}
		wantLaid(t, "its spare room was written over", w, want+strings.Repeat("1", 64))
	}
}

func TestWritersKnowNothingOfOneAnother(t *testing.T) {
	a, b := bits.NewWriter(), bits.NewWriter()
	a.Put(5, 3)
	b.Put(1, 12)
	a.Put(2, 9)
	wantLaid(t, "R7: the one", a, "101"+"000000010")
	wantLaid(t, "R7: the other", b, "000000000001")
}

// TestWriterAgainstDigits: many numbers of any size, one behind the other.
func TestWriterAgainstDigits(t *testing.T) {
	seed := uint64(1)
	for range 200 {
		w := bits.NewWriter()
		var want strings.Builder
		for range 60 {
			seed = mixed(seed)
			n := int(seed>>40)%80 - 8
			v := seed ^ seed>>29
			if seed>>63 == 0 {
				w.Put(v, n)
			} else {
				w.Signed(int(v), n)
			}
			want.WriteString(digits(v, n))
		}
		wantLaid(t, "any numbers", w, want.String())
	}
}

// wantLack holds that f throws Lack at a place, and that the Reader then has as many bits left as before.
func wantLack(t *testing.T, what string, r *bits.Reader, f func(), at int) {
	t.Helper()
	left, want := r.Left(), trap.Fault{Code: 100, At: at}
	if got, is := trap.Catch(f); got != want || !is {
		t.Errorf("4.2: %s: got %+v, %t, want %+v, true", what, got, is, want)
	}
	if got := r.Left(); got != left {
		t.Errorf("4.2: %s: %d bits are left, want %d: nothing is taken", what, got, left)
	}
}

// taken is what f answers, or a failed test, if it throws.
func taken[T any](t *testing.T, what string, f func() T) T {
	t.Helper()
	var v T
	if fault, is := trap.Catch(func() { v = f() }); is {
		t.Fatalf("4.2: %s: it threw %+v", what, fault)
	}
	return v
}

func TestLackIsItsNumber(t *testing.T) {
	if bits.Lack != 100 {
		t.Errorf("4.2: Lack is %d", bits.Lack)
	}
}

func TestGetTakesFromTheFront(t *testing.T) {
	r := bits.NewReader([]byte{0xb0, 0xab, 0xcd})
	for _, c := range []struct {
		n    int
		want uint64
		left int
	}{{3, 5, 21}, {1, 1, 20}, {0, 0, 20}, {4, 0, 16}, {12, 0xabc, 4}, {-3, 0, 4}, {1, 1, 3}, {3, 5, 0}, {0, 0, 0}} {
		if got := r.Get(c.n); got != c.want || r.Left() != c.left {
			t.Errorf("4.2: Get(%d) is %x, %d left, want %x, %d", c.n, got, r.Left(), c.want, c.left)
		}
	}
}

func TestGetIsBroughtWithinItsSizes(t *testing.T) {
	b := []byte{0x81, 0x23, 0x45, 0x67, 0x89, 0xab, 0xcd, 0xef, 0x5a}
	for _, n := range sizes {
		for ahead := range 9 {
			r := bits.NewReader(b)
			r.Get(ahead)
			want := unpacked(b)[ahead : ahead+within(n)]
			got := taken(t, "Get", func() uint64 { return r.Get(n) })
			if got != number(want) || r.Left() != 72-ahead-within(n) {
				t.Errorf("4.2: Get(%d) at %d: %x, %d left, want %s", n, ahead, got, r.Left(), want)
			}
			r = bits.NewReader(b)
			r.Get(ahead)
			back := taken(t, "Signed", func() int { return r.Signed(n) })
			if back != signed(want) || r.Left() != 72-ahead-within(n) {
				t.Errorf("4.2: Signed(%d) at %d: %d, %d left, want %s", n, ahead, back, r.Left(), want)
			}
		}
	}
}

func TestSignedTakesTheSign(t *testing.T) {
	for _, c := range []struct {
		d    string
		want int
	}{
		{"0", 0}, {"1", -1},
		{"00", 0}, {"01", 1}, {"10", -2}, {"11", -1},
		{"011", 3}, {"100", -4}, {"101", -3}, {"111", -1},
		{"01111111", 127}, {"10000000", -128}, {"11000000", -64}, {"01000000", 64},
		{"100001011110111000000", -1000000}, {"011110100001001000000", 1000000},
		{"1" + strings.Repeat("0", 62), -1 << 62}, {"0" + strings.Repeat("1", 62), 1<<62 - 1},
		{"1" + strings.Repeat("0", 63), math.MinInt64}, {"0" + strings.Repeat("1", 63), math.MaxInt64},
		{strings.Repeat("1", 63), -1}, {strings.Repeat("1", 64), -1}, {strings.Repeat("0", 64), 0},
	} {
		r := bits.NewReader(packed("10" + c.d + "1"))
		r.Get(2)
		if got := r.Signed(len(c.d)); got != c.want {
			t.Errorf("4.2: Signed of %s is %d, want %d", c.d, got, c.want)
		}
		if got := r.Get(1); got != 1 {
			t.Errorf("4.2: behind Signed of %s comes %d", c.d, got)
		}
	}
}

// TestSignedOfNoSize: 0, and nothing is taken, where bits are left and where none are.
func TestSignedOfNoSize(t *testing.T) {
	for _, b := range [][]byte{nil, {0xff}, {0xff, 0xff}} {
		r := bits.NewReader(b)
		for _, n := range []int{0, -1, -5, -64, -65, math.MinInt} {
			got := taken(t, "Signed", func() int { return r.Signed(n) })
			if got != 0 || r.Left() != 8*len(b) {
				t.Errorf("4.2: Signed(%d) is %d, %d left of %d", n, got, r.Left(), 8*len(b))
			}
		}
	}
}

func TestThereAndBack(t *testing.T) {
	for _, v := range numbers {
		w := bits.NewWriter()
		for _, n := range sizes {
			w.Put(v, n)
			w.Signed(int(v), n)
		}
		r := bits.NewReader(w.Bytes())
		for _, n := range sizes {
			if got, want := r.Get(n), number(digits(v, n)); got != want {
				t.Errorf("4.2: %x in %d bits came back as %x", want, n, got)
			}
			if got, want := r.Signed(n), signed(digits(v, n)); got != want {
				t.Errorf("4.2: %d in %d bits came back as %d", want, n, got)
			}
		}
		if got := r.Left(); got != 8*len(w.Bytes())-w.Len() || got > 7 {
			t.Errorf("4.2: %d bits are left", got)
		}
		if got := r.Get(r.Left()); got != 0 {
			t.Errorf("4.1: %x up to a whole byte", got)
		}
	}
}

// TestSignedGoesThereAndBack: all that go into their bits, and the next ones beyond.
func TestSignedGoesThereAndBack(t *testing.T) {
	for n := 1; n <= 9; n++ {
		half := 1 << (n - 1)
		for v := -half - 1; v <= half; v++ {
			want := v
			if v == half {
				want = -half
			}
			if v == -half-1 {
				want = half - 1
			}
			w := bits.NewWriter()
			w.Signed(v, n)
			if got := bits.NewReader(w.Bytes()).Signed(n); got != want {
				t.Errorf("4.2: %d in %d bits came back as %d, want %d", v, n, got, want)
			}
		}
	}
}

func TestLackThrowsAtItsPlace(t *testing.T) {
	for length := range 10 {
		b := bytes.Repeat([]byte{0xa7}, length)
		for at := range 8*length + 1 {
			r := bits.NewReader(b)
			for range at {
				r.Get(1)
			}
			left := 8*length - at
			for _, n := range sizes {
				if within(n) <= left {
					continue
				}
				what := strconv.Itoa(n) + " of " + strconv.Itoa(left)
				wantLack(t, "Get: "+what, r, func() { r.Get(n) }, at)
				wantLack(t, "Signed: "+what, r, func() { r.Signed(n) }, at)
			}
			if left < 64 {
				wantLack(t, "one more", r, func() { r.Get(left + 1) }, at)
				wantLack(t, "one more, Signed", r, func() { r.Signed(left + 1) }, at)
			}
		}
	}
}

// TestReaderGoesOnBehindLack: what is left comes as if nothing had been asked.
func TestReaderGoesOnBehindLack(t *testing.T) {
	r := bits.NewReader([]byte{0xb4, 0x8f})
	if got := r.Get(3); got != 5 {
		t.Errorf("4.2: the first three: %d", got)
	}
	wantLack(t, "14 of 13", r, func() { r.Get(14) }, 3)
	wantLack(t, "64 of 13", r, func() { r.Signed(64) }, 3)
	if got := r.Signed(5); got != -12 {
		t.Errorf("4.2: behind a Lack: %d", got)
	}
	wantLack(t, "9 of 8", r, func() { r.Signed(9) }, 8)
	if got := r.Get(8); got != 0x8f {
		t.Errorf("4.2: all that is left, behind a Lack: %x", got)
	}
	wantLack(t, "1 of 0", r, func() { r.Get(1) }, 16)
	wantLack(t, "1 of 0, again", r, func() { r.Signed(1) }, 16)
	if got := r.Get(0); got != 0 || r.Left() != 0 {
		t.Errorf("4.2: nothing, at the end: %d", got)
	}
}

// TestLackEndsWhatIsUnderWay: what was taken ahead of it stays taken.
func TestLackEndsWhatIsUnderWay(t *testing.T) {
	r, last := bits.NewReader([]byte{0x12, 0x34}), uint64(99)
	fault, is := trap.Catch(func() {
		for {
			last = r.Get(5)
		}
	})
	if want := (trap.Fault{Code: bits.Lack, At: 15}); fault != want || !is {
		t.Errorf("4.2: got %+v, %t, want %+v", fault, is, want)
	}
	if last != 0x1a || r.Left() != 1 || r.Get(1) != 0 {
		t.Errorf("4.2: the last one was %x, and %d are left", last, r.Left())
	}
}

// TestLackWithoutCatchPanics: as any Throw does.
func TestLackWithoutCatchPanics(t *testing.T) {
	defer func() {
		if recover() == nil {
			t.Error("4.2: a Lack without any Catch went by")
		}
	}()
	bits.NewReader(nil).Get(1)
}

func TestReaderOfNoBytes(t *testing.T) {
	for _, b := range [][]byte{nil, {}, make([]byte, 0, 9)} {
		r := bits.NewReader(b)
		if got := r.Left(); got != 0 {
			t.Errorf("4.2: %d bits of no bytes", got)
		}
		if got := taken(t, "Get", func() uint64 { return r.Get(0) }); got != 0 {
			t.Errorf("4.2: %d in no bits", got)
		}
		wantLack(t, "one of none", r, func() { r.Get(1) }, 0)
		wantLack(t, "64 of none", r, func() { r.Signed(64) }, 0)
	}
}

// TestReaderLeavesItsBytes: it neither changes nor keeps them, nor reads their spare room.
func TestReaderLeavesItsBytes(t *testing.T) {
	for length := range 40 {
		room := bytes.Repeat([]byte{0xe7}, length+9)
		own, was := room[:length], slices.Clone(room)
		r := bits.NewReader(own)
		if got := r.Left(); got != 8*length {
			t.Errorf("R2: %d bits of %d bytes", got, length)
		}
		for range length / 2 {
			r.Get(8)
		}
		if !bytes.Equal(room, was) {
			t.Errorf("R2: what was handed in is %x", room)
		}
		for i := range room {
			room[i] = 0x18
		}
		for range length - length/2 {
			if got := r.Get(8); got != 0xe7 {
				t.Errorf("R2: bytes that were changed behind NewReader came: %x", got)
			}
		}
		wantLack(t, "the spare room", r, func() { r.Get(1) }, 8*length)
		if !bytes.Equal(room, bytes.Repeat([]byte{0x18}, length+9)) {
			t.Errorf("R2: what was handed in is %x", room)
		}
	}
}

// TestReaderOfAWritersBytes: what the Writer is told behind them is not theirs.
func TestReaderOfAWritersBytes(t *testing.T) {
	w := bits.NewWriter()
	w.Put(9, 4)
	r := bits.NewReader(w.Bytes())
	w.Put(15, 4)
	if got := r.Get(8); got != 0x90 {
		t.Errorf("R7: a later Put came: %x", got)
	}
}

func TestReadersKnowNothingOfOneAnother(t *testing.T) {
	b := []byte{0x12, 0x34}
	first, second := bits.NewReader(b), bits.NewReader(b)
	first.Get(4)
	wantLack(t, "R7: the one", first, func() { first.Get(13) }, 4)
	if got := second.Get(16); got != 0x1234 || first.Left() != 12 {
		t.Errorf("R7: %x, and %d are left of the other", got, first.Left())
	}
}

// TestReaderAgainstDigits: any bytes, taken in any sizes, to their end.
func TestReaderAgainstDigits(t *testing.T) {
	seed := uint64(7)
	for length := range 150 {
		b := make([]byte, length)
		for i := range b {
			seed = mixed(seed)
			b[i] = byte(seed >> 50)
		}
		r, all, at := bits.NewReader(b), unpacked(b), 0
		for at < len(all) {
			seed = mixed(seed)
			n := int(seed>>40)%80 - 8
			if within(n) > len(all)-at {
				wantLack(t, "any bytes", r, func() { r.Get(n) }, at)
				wantLack(t, "any bytes", r, func() { r.Signed(n) }, at)
				continue
			}
			want := all[at : at+within(n)]
			at += within(n)
			if seed>>63 == 0 {
				if got := r.Get(n); got != number(want) {
					t.Fatalf("4.2: Get(%d) is %x, want %s", n, got, want)
				}
			} else if got := r.Signed(n); got != signed(want) {
				t.Fatalf("4.2: Signed(%d) is %d, want %s", n, got, want)
			}
			if got := r.Left(); got != len(all)-at {
				t.Fatalf("4.2: %d bits are left, want %d", got, len(all)-at)
			}
		}
	}
}

// TestManyBits: a great row goes there and back, and its places are counted on beyond 2^24.
func TestManyBits(t *testing.T) {
	const many = 1 << 19
	w, seed := bits.NewWriter(), uint64(3)
	for range many {
		seed = mixed(seed)
		w.Put(seed>>20, 33)
	}
	if got := w.Len(); got != 33*many {
		t.Fatalf("4.1: %d bits", got)
	}
	r := bits.NewReader(w.Bytes())
	seed = 3
	for k := range many {
		seed = mixed(seed)
		if got, want := r.Get(33), seed>>20&(1<<33-1); got != want {
			t.Fatalf("4.2: number %d is %x, want %x", k, got, want)
		}
	}
	wantLack(t, "behind many", r, func() { r.Get(1) }, 33*many)
}

// TestNoObject: a nil one has no answer, and panics with nothing.
func TestNoObject(t *testing.T) {
	var w *bits.Writer
	w.Put(1, 8)
	w.Signed(-1, 8)
	if got := w.Bytes(); len(got) != 0 || w.Len() != 0 {
		t.Errorf("R1: no Writer: %x, %d bits", got, w.Len())
	}
	var r *bits.Reader
	if r.Get(8) != 0 || r.Signed(8) != 0 || r.Left() != 0 {
		t.Error("R1: no Reader answered")
	}
}
