package frame_test

import (
	"bytes"
	"fmt"
	"math"
	"math/rand"
	"slices"
	"testing"

	"ratline/api"
	"ratline/frame"
)

// brief is how bytes are told of: there may be too many to show.
func brief(b []byte) string {
	if len(b) <= 40 {
		return fmt.Sprint(b)
	}
	return fmt.Sprint(b[:20], " .. ", b[len(b)-20:], " (", len(b), " bytes)")
}

// counted is n bytes that differ from their neighbours.
func counted(n int) []byte {
	b := make([]byte, n)
	for i := range b {
		b[i] = byte(7*i + i/256)
	}
	return b
}

func wantBytes(t *testing.T, what string, got, want []byte) {
	t.Helper()
	if !bytes.Equal(got, want) {
		t.Errorf("%s: %s, want %s", what, brief(got), brief(want))
	}
}

func wantSum(t *testing.T, b []byte, model func([]byte) uint32) {
	t.Helper()
	if got, want := frame.Sum(b), model(b); got != want {
		t.Errorf("Sum(%s): %d, want %d", brief(b), got, want)
	}
}

func wantSeal(t *testing.T, b, want []byte) {
	t.Helper()
	wantBytes(t, "Seal of "+brief(b), frame.Seal(b), want)
}

func wantTake(t *testing.T, b, within, rest []byte) {
	t.Helper()
	w, r, e := frame.Take(b)
	if !bytes.Equal(w, within) || !bytes.Equal(r, rest) || e != api.OK {
		t.Errorf("Take(%s): %s, %s, error %d, want %s, %s", brief(b), brief(w), brief(r), e, brief(within), brief(rest))
	}
}

// wantNone is that there is no frame, and nothing else is returned.
func wantNone(t *testing.T, what string, b []byte) {
	t.Helper()
	w, r, e := frame.Take(b)
	if len(w) > 0 || len(r) > 0 || e != api.ErrFrame {
		t.Errorf("Take(%s), %s: %s, %s, error %d, want nothing and ErrFrame", brief(b), what, brief(w), brief(r), e)
	}
}

func TestExamples(t *testing.T) {
	for _, s := range []struct {
		b   []byte
		sum uint32
	}{{nil, 4294967295}, {[]byte{255}, 16777215}, {[]byte{0}, 3232617357}} {
		if got := frame.Sum(s.b); got != s.sum {
			t.Errorf("Sum(%v): %d, want %d", s.b, got, s.sum)
		}
	}
	empty := slices.Concat([]byte{0, 0, 0, 0}, four(frame.Sum([]byte{0, 0, 0, 0})))
	wantSeal(t, nil, empty)
	wantTake(t, slices.Concat(empty, []byte{5}), nil, []byte{5})
	seven := frame.Seal([]byte{7})
	if len(seven) != 9 {
		t.Errorf("Seal of 7 has %d bytes", len(seven))
	}
	wantBytes(t, "Seal of 7", seven[:5], []byte{1, 0, 0, 0, 7})
	wantNone(t, "seven bytes", []byte{0, 0, 0, 0, 1, 2, 3})
}

// The frames of a few bytes, written out.
func TestP5_2Frames(t *testing.T) {
	for _, f := range []struct{ within, b []byte }{
		{nil, []byte{0, 0, 0, 0, 59, 50, 67, 8}},
		{[]byte{}, []byte{0, 0, 0, 0, 59, 50, 67, 8}},
		{[]byte{0}, []byte{1, 0, 0, 0, 0, 166, 245, 148, 106}},
		{[]byte{7}, []byte{1, 0, 0, 0, 7, 106, 203, 186, 39}},
		{[]byte{255}, []byte{1, 0, 0, 0, 255, 212, 217, 198, 170}},
		{[]byte("123456789"), []byte{9, 0, 0, 0, 49, 50, 51, 52, 53, 54, 55, 56, 57, 72, 234, 2, 118}},
	} {
		wantSeal(t, f.within, f.b)
		wantTake(t, f.b, f.within, nil)
	}
}

func TestP5_1Nothing(t *testing.T) {
	for _, b := range [][]byte{nil, {}, make([]byte, 0, 8), counted(3)[:0]} {
		if got := frame.Sum(b); got != math.MaxUint32 {
			t.Errorf("Sum of nothing: %d", got)
		}
	}
}

// Each byte alone, and each behind and before any other one.
func TestP5_1EachByte(t *testing.T) {
	seen := map[uint32]int{}
	for a := range 256 {
		b := []byte{byte(a)}
		wantSum(t, b, modelSum)
		if other, there := seen[frame.Sum(b)]; there {
			t.Errorf("the bytes %d and %d have the same sum", other, a)
		}
		seen[frame.Sum(b)] = a
		for c := range 256 {
			wantSum(t, []byte{byte(a), byte(c)}, modelSum)
		}
	}
}

// The sums of some bytes, written out.
func TestP5_1Sums(t *testing.T) {
	for _, s := range []struct {
		b   string
		sum uint32
	}{
		{"123456789", 3535941457},
		{"\x00\x00\x00\x00", 138621499},
		{"\xff\xff\xff\xff", 0},
		{"\xff\xff\xff\xff\x00", 0},
		{"\xff\xff\xff\xff\x80", 3945912366},
		{"\xff\xff\xff\xff\x01", 2526397642},
	} {
		if got := frame.Sum([]byte(s.b)); got != s.sum {
			t.Errorf("Sum(%q): %d, want %d", s.b, got, s.sum)
		}
	}
}

// lengths are of bytes that have a frame: the edges of each of the four bytes of the number, and of MaxFrame.
var lengths = []int{0, 1, 2, 3, 4, 5, 7, 8, 9, 127, 128, 255, 256, 257, 511, 512, 1023, 65535, 65536, 65537, 1 << 19, api.MaxFrame - 1, api.MaxFrame}

func TestP5_2ByLengths(t *testing.T) {
	for _, n := range lengths {
		for _, within := range [][]byte{counted(n), make([]byte, n), bytes.Repeat([]byte{255}, n)} {
			f := modelSeal(within)
			wantSeal(t, within, f)
			wantTake(t, f, within, nil)
			for _, behind := range [][]byte{{0}, {5}, f[:4], counted(300)} {
				wantTake(t, slices.Concat(f, behind), within, behind)
			}
		}
	}
	for n := range 600 {
		f := modelSeal(counted(n))
		wantSeal(t, counted(n), f)
		wantTake(t, f, counted(n), nil)
	}
}

// More than MaxFrame bytes have no frame; what would be one, with the right sum, is none.
func TestP5_2TooLong(t *testing.T) {
	for _, n := range []int{api.MaxFrame + 1, api.MaxFrame + 2, api.MaxFrame + 256, 2 * api.MaxFrame, 1<<24 - 1, 1 << 24, 1<<24 + 1} {
		within := counted(n)
		if f := frame.Seal(within); len(f) > 0 {
			t.Errorf("Seal of %d bytes: %s", n, brief(f))
		}
		if n <= 2*api.MaxFrame {
			f := told(uint32(n), within)
			wantNone(t, "more than MaxFrame bytes", f)
			wantNone(t, "more than MaxFrame bytes, and one behind", append(f, 5))
		}
	}
}

// Frames one behind the other are taken one by one.
func TestP5_2OneBehindTheOther(t *testing.T) {
	for _, many := range [][]int{{0, 0}, {0, 1, 0}, {1, 1, 1}, {3, 0, 300, 5, 0}, {api.MaxFrame, 0, 7}, {8, 9, 10, 11, 12, 13, 14, 15, 16}} {
		var b []byte
		for _, n := range many {
			b = append(b, frame.Seal(counted(n))...)
		}
		for i, n := range many {
			w, rest, e := frame.Take(b)
			if !bytes.Equal(w, counted(n)) || e != api.OK {
				t.Errorf("the frame %d of %v: %s, error %d", i, many, brief(w), e)
			}
			wantBytes(t, "the rest", rest, b[min(8+n, len(b)):])
			b = rest
		}
		if len(b) > 0 {
			t.Errorf("behind the frames %v there is %s", many, brief(b))
		}
	}
}

// What is behind a frame that is damaged, or torn, does not make one of it.
func TestP5_2BehindADamagedOne(t *testing.T) {
	one, two := modelSeal(counted(5)), modelSeal(counted(9))
	one[6] ^= 1
	wantNone(t, "the first one damaged", slices.Concat(one, two))
	one[6] ^= 1
	wantNone(t, "the first one torn", slices.Concat(one[:len(one)-1], two))
	two[6] ^= 1
	wantTake(t, slices.Concat(one, two), counted(5), two)
}

// A frame within a frame is bytes as others are.
func TestP5_2FrameWithin(t *testing.T) {
	f := []byte{7}
	for range 20 {
		within := f
		f = frame.Seal(within)
		wantTake(t, f, within, nil)
		wantTake(t, slices.Concat(f, f), within, f)
	}
}

func TestP5_3Prefixes(t *testing.T) {
	for n := range 70 {
		for _, within := range [][]byte{counted(n), make([]byte, n), bytes.Repeat([]byte{255}, n)} {
			f := frame.Seal(within)
			for k := range f {
				wantNone(t, "a prefix", f[:k])
				wantNone(t, "a prefix, nothing to spare", slices.Clip(f[:k]))
			}
		}
	}
	for _, n := range lengths {
		f := frame.Seal(counted(n))
		for _, k := range []int{0, 1, 3, 4, 5, 7, 8, len(f) / 2, len(f) - 5, len(f) - 4, len(f) - 3, len(f) - 2, len(f) - 1} {
			if k >= 0 && k < len(f) {
				wantNone(t, "a prefix", f[:k])
			}
		}
	}
}

// A number that is greater than what follows, with a sum that would be right.
func TestP5_2NumberTooGreat(t *testing.T) {
	for n := range 40 {
		within := counted(n)
		for _, more := range []uint32{1, 2, 3, 4, 5, 8, 100, 1 << 8, 1 << 16, 1<<20 - uint32(n)} {
			f := told(uint32(n)+more, within)
			wantNone(t, "a number greater than what follows", f)
			if more > 1 {
				wantNone(t, "a number greater than what follows, and one behind", append(f, 0))
			}
		}
	}
}

// Numbers greater than MaxFrame, up to the greatest of 32 bits, at which sums of numbers wrap around.
func TestP5_2NumberNearTheGreatest(t *testing.T) {
	for n := range 40 {
		var wrong []uint32
		for less := range uint32(64) {
			wrong = append(wrong, math.MaxUint32-less, 1<<31-1-less, 1<<31+less, 1<<20+1+less, 1<<21+less, 1<<24+less, 1<<30+less)
		}
		for _, x := range wrong {
			wantNone(t, "a number greater than MaxFrame", told(x, counted(n)))
			wantNone(t, "a number greater than MaxFrame, a sum of nothing", slices.Concat(four(x), four(math.MaxUint32), counted(n)))
		}
	}
	for b := 21; b < 32; b++ {
		wantNone(t, "a bit too many in the number", told(1<<b+3, counted(3)))
	}
}

// A number that is less than what there is, and so the sum is not where it should be.
func TestP5_2NumberTooSmall(t *testing.T) {
	for n := 1; n < 40; n++ {
		f := modelSeal(counted(n))
		for less := range n {
			wantNone(t, "a number less than what is within", slices.Concat(four(uint32(less)), f[4:]))
		}
	}
}

// Every bit, and every pair of them, within 32 neighbouring ones, behind the first four bytes: in the bytes within, in the check sum, and across the two.
func TestP5_3OneOrTwoBitsInverted(t *testing.T) {
	for n := range 16 {
		f := frame.Seal(counted(n))
		for at := 32; at < 8*len(f); at++ {
			for last := at; last < min(at+32, 8*len(f)); last++ {
				bad := inverted(f, at, 1|1<<(last-at))
				wantNone(t, fmt.Sprint("the bits ", at, " and ", last, " inverted"), bad)
				wantNone(t, "bits inverted, and a frame behind", slices.Concat(bad, f))
			}
		}
	}
}

// All of some neighbouring bits, at each place, and many choices of 32.
func TestP5_3BitsInverted(t *testing.T) {
	r := rand.New(rand.NewSource(6))
	for n := range 16 {
		f := frame.Seal(counted(n))
		for at := 32; at < 8*len(f); at++ {
			for many := 1; many <= 32; many++ {
				wantNone(t, fmt.Sprint(many, " bits inverted from ", at), inverted(f, at, 1<<many-1))
			}
			for range 200 {
				which := uint64(r.Uint32() | 1)
				wantNone(t, fmt.Sprintf("the bits %b inverted from %d", which, at), inverted(f, at, which))
			}
		}
	}
}

// In the greatest frame, at its beginning, in its middle, and at its end.
func TestP5_3BitsInvertedInTheGreatest(t *testing.T) {
	r := rand.New(rand.NewSource(7))
	f := frame.Seal(counted(api.MaxFrame))
	for _, at := range []int{32, 33, 8*len(f)/2 - 3, 8*len(f) - 65, 8*len(f) - 63, 8*len(f) - 40, 8*len(f) - 33, 8*len(f) - 31, 8*len(f) - 1} {
		for _, which := range []uint64{1, 1<<32 - 1, uint64(r.Uint32() | 1)} {
			wantNone(t, fmt.Sprintf("the bits %b inverted from %d", which, at), inverted(f, at, which))
		}
	}
}

// inverted is a frame with those bits inverted of the ones from at on, as far as it goes.
func inverted(f []byte, at int, which uint64) []byte {
	b := bytes.Clone(f)
	for i := at; i < min(at+32, 8*len(b)); i++ {
		b[i/8] ^= byte(which>>(i-at)&1) << (i % 8)
	}
	return b
}

// Sums that are not that of the frame.
func TestP5_2WrongSum(t *testing.T) {
	for n := range 40 {
		within := counted(n)
		whole := slices.Concat(four(uint32(n)), within)
		right := modelSum(whole)
		for _, sum := range []uint32{
			modelSum(within), // without the number
			modelSum(nil),
			modelSum(four(uint32(n))),
			modelSum(slices.Concat(within, four(uint32(n)))),
			modelSum(slices.Concat(four(uint32(n+1)), within)),
			^right, right + 1, right - 1,
			right>>24 | right>>8&0xff00 | right<<8&0xff0000 | right<<24,
			0, 1, math.MaxUint32,
		} {
			if sum != right {
				wantNone(t, "a wrong sum", slices.Concat(whole, four(sum)))
				wantNone(t, "a wrong sum, and the right one behind", slices.Concat(whole, four(sum), four(right)))
			}
		}
	}
}

// The sum of another frame.
func TestP5_2SumOfAnotherFrame(t *testing.T) {
	var all [][]byte
	for n := range 12 {
		all = append(all, counted(n), bytes.Repeat([]byte{1}, n+1), bytes.Repeat([]byte{255}, n+1))
	}
	for i, a := range all {
		for k, b := range all {
			one, two := modelSeal(a), modelSeal(b)
			mixed := slices.Concat(one[:4+len(a)], two[4+len(b):])
			if bytes.Equal(a, b) {
				wantTake(t, mixed, a, nil)
			} else {
				wantNone(t, fmt.Sprint("the sum of the frame ", k, " in the frame ", i), mixed)
			}
		}
	}
}

// noFrames are bytes that begin with none.
var noFrames = []struct {
	what string
	b    []byte
}{
	{"nothing", nil},
	{"nothing, not nil", []byte{}},
	{"one byte", []byte{0}},
	{"three bytes", []byte{0, 0, 0}},
	{"a number alone", []byte{0, 0, 0, 0}},
	{"seven bytes", make([]byte, 7)},
	{"zeros", make([]byte, 8)},
	{"many zeros", make([]byte, 70000)},
	{"bytes 255", bytes.Repeat([]byte{255}, 70000)},
	{"a number, the highest bits first", slices.Concat([]byte{0, 0, 0, 1, 7}, four(modelSum([]byte{0, 0, 0, 1, 7})))},
	{"a frame behind a byte", slices.Concat([]byte{0}, modelSeal([]byte{7}))},
}

func TestP5_2None(t *testing.T) {
	for _, n := range noFrames {
		wantNone(t, n.what, n.b)
	}
}

// P5.3: no frame is a proper prefix of another one.
func TestP5_3NoFrameBeginsAnother(t *testing.T) {
	var all [][]byte
	for n := range 20 {
		for _, c := range []byte{0, 1, 7, 8, 255} {
			all = append(all, frame.Seal(bytes.Repeat([]byte{c}, n)))
		}
	}
	all = append(all, frame.Seal(all[1]), frame.Seal(all[7]), frame.Seal(all[50]))
	for _, a := range all {
		for _, b := range all {
			if len(a) < len(b) && bytes.HasPrefix(b, a) {
				t.Errorf("%v begins with %v", b, a)
			}
		}
	}
}

// The arguments and their spare capacity stay.
func TestR3ArgumentsStay(t *testing.T) {
	for _, n := range []int{0, 1, 5, 300} {
		room := counted(n + 50)
		was := bytes.Clone(room)
		frame.Sum(room[:n])
		frame.Seal(room[:n])
		wantBytes(t, "the argument and its spare capacity", room, was)
		more := slices.Concat(modelSeal(counted(n)), counted(50))
		was = bytes.Clone(more)
		for k := range more {
			_, rest, _ := frame.Take(more[:k])
			_ = append(rest, 1, 2, 3)
			wantBytes(t, "the argument and its spare capacity", more, was)
		}
	}
}

// What is returned shares nothing with the argument, or with another result.
func TestR3SealHasMemoryOfItsOwn(t *testing.T) {
	for _, n := range []int{0, 1, 5, 300} {
		b := counted(n)
		want := modelSeal(b)
		one, two := frame.Seal(b), frame.Seal(b)
		clear(one[:cap(one)])
		clear(b)
		wantBytes(t, "the other result", two, want)
	}
}

func TestR3TakeHasMemoryOfItsOwn(t *testing.T) {
	for _, n := range []int{0, 1, 5, 300} {
		for _, m := range []int{0, 1, 9, 300} {
			b := slices.Concat(modelSeal(counted(n)), counted(m))
			was := bytes.Clone(b)
			within, rest, _ := frame.Take(b)
			clear(within[:cap(within)])
			wantBytes(t, "the argument", b, was)
			wantBytes(t, "the rest", rest, counted(m))
			within, rest, _ = frame.Take(b)
			clear(rest[:cap(rest)])
			wantBytes(t, "the argument", b, was)
			wantBytes(t, "what is within", within, counted(n))
			within, rest, _ = frame.Take(b)
			clear(b)
			wantBytes(t, "what is within", within, counted(n))
			wantBytes(t, "the rest", rest, counted(m))
		}
	}
}

// R4: a call returns what it returned before, whatever was called in between, and whatever the spare capacity is.
func TestR4SameAgain(t *testing.T) {
	for n := range 20 {
		b := counted(n)
		f := modelSeal(b)
		for _, c := range [][]byte{slices.Clip(b), append(b, 1, 2, 3)[:n]} {
			wantSeal(t, c, f)
			wantSum(t, c, modelSum)
			wantNone(t, "a prefix, the rest as spare capacity", f[:len(f)-1])
			wantTake(t, f, b, nil)
		}
	}
}
