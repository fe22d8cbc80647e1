package nums_test

import (
	"bytes"
	"math"
	"slices"
	"strings"
	"testing"

	"ratline/nums"
)

// again is n times the byte c, and tail behind these.
func again(c byte, n int, tail ...byte) []byte {
	return append(bytes.Repeat([]byte{c}, n), tail...)
}

// forms are short forms, which chapter 2 tells how to make, written out by hand.
var forms = []struct {
	x uint64
	b []byte
}{
	{0, []byte{0}},
	{1, []byte{1}},
	{126, []byte{126}},
	{127, []byte{127}},
	{128, []byte{128, 1}},
	{129, []byte{129, 1}},
	{255, []byte{255, 1}},
	{256, []byte{128, 2}},
	{300, []byte{172, 2}},
	{1<<14 - 1, []byte{255, 127}},
	{1 << 14, []byte{128, 128, 1}},
	{1<<21 - 1, []byte{255, 255, 127}},
	{1 << 21, []byte{128, 128, 128, 1}},
	{1<<32 - 1, []byte{255, 255, 255, 255, 15}},
	{1 << 32, []byte{128, 128, 128, 128, 16}},
	{1<<56 - 1, again(255, 7, 127)},
	{1 << 56, again(128, 8, 1)},
	{1<<63 - 1, again(255, 8, 127)},
	{1 << 63, again(128, 9, 1)},
	{math.MaxUint64 - 1, append([]byte{254}, again(255, 8, 1)...)},
	{math.MaxUint64, again(255, 9, 1)},
}

// noForms are bytes that begin with no short form.
var noForms = []struct {
	what string
	b    []byte
}{
	{"nothing", nil},
	{"nothing, not nil", []byte{}},
	{"ends early", []byte{128}},
	{"ends early", []byte{255}},
	{"ends early", []byte{172, 172}},
	{"nine bytes, ends early", again(255, 9)},
	{"ten bytes, ends early", again(128, 10)},
	{"ten bytes, ends early", again(255, 10)},
	{"0 in two bytes", []byte{128, 0}},
	{"0 in two bytes, more behind", []byte{128, 0, 1}},
	{"1 in two bytes", []byte{129, 0}},
	{"300 in three bytes", []byte{172, 130, 0}},
	{"0 in ten bytes", again(128, 9, 0)},
	{"a number below 2^63 in ten bytes", again(255, 9, 0)},
	{"2^64", again(128, 9, 2)},
	{"2^64 + 1", append([]byte{129}, again(128, 8, 2)...)},
	{"above 2^64", again(255, 9, 2)},
	{"3 * 2^63", again(128, 9, 3)},
	{"above 2^64", again(128, 9, 64)},
	{"above 2^64", again(255, 9, 127)},
	{"eleven bytes, the last one 0", again(128, 10, 0)},
	{"eleven bytes, the tenth one 1 and 128", append(again(128, 9, 129), 0)},
	{"eleven bytes", again(128, 10, 1)},
	{"eleven bytes", again(255, 10, 1)},
	{"the number 2^77", again(128, 11, 1)},
	{"a hundred bytes", again(128, 100, 1)},
	{"a hundred bytes, the last one 0", again(128, 100, 0)},
}

var texts = []string{"", "a", "ab", "\x00", "\x80\xff\x00", "\xff", strings.Repeat("k", 64), strings.Repeat("t", 127), strings.Repeat("u", 128), strings.Repeat("v", 256), strings.Repeat("w", 20000)}

// befores are bytes behind which something is put, and behinds what stands behind what is taken.
var befores = [][]byte{nil, {}, {0}, {128}, {1, 2, 255}, again(9, 300)}

var behinds = [][]byte{nil, {0}, {9}, {1}, {128}, {255, 255}, again(128, 12), again(7, 300)}

func wantBytes(t *testing.T, what string, got, want []byte) {
	t.Helper()
	if !bytes.Equal(got, want) {
		t.Errorf("%s: %v, want %v", what, got, want)
	}
}

func wantTake(t *testing.T, b []byte, x uint64, rest []byte) {
	t.Helper()
	if gx, gr, ok := nums.Take(b); gx != x || !bytes.Equal(gr, rest) || !ok {
		t.Errorf("Take(%v): %d %v %t, want %d %v", b, gx, gr, ok, x, rest)
	}
}

func wantNoTake(t *testing.T, what string, b []byte) {
	t.Helper()
	if x, rest, ok := nums.Take(b); x != 0 || rest != nil || ok {
		t.Errorf("Take(%v), %s: %d %v %t, want none", b, what, x, rest, ok)
	}
}

func wantTakeText(t *testing.T, b []byte, most int, s string, rest []byte) {
	t.Helper()
	if gs, gr, ok := nums.TakeText(b, most); gs != s || !bytes.Equal(gr, rest) || !ok {
		t.Errorf("TakeText(%v, %d): %q %v %t, want %q %v", b, most, gs, gr, ok, s, rest)
	}
}

func wantNoTakeText(t *testing.T, what string, b []byte, most int) {
	t.Helper()
	if s, rest, ok := nums.TakeText(b, most); s != "" || rest != nil || ok {
		t.Errorf("TakeText(%v, %d), %s: %q %v %t, want none", b, most, what, s, rest, ok)
	}
}

func wantTakeFour(t *testing.T, b []byte, x uint32, rest []byte) {
	t.Helper()
	if gx, gr, ok := nums.TakeFour(b); gx != x || !bytes.Equal(gr, rest) || !ok {
		t.Errorf("TakeFour(%v): %d %v %t, want %d %v", b, gx, gr, ok, x, rest)
	}
}

func TestExamples(t *testing.T) {
	wantBytes(t, "Put 0", nums.Put(nil, 0), []byte{0})
	wantBytes(t, "Put 127", nums.Put(nil, 127), []byte{127})
	wantBytes(t, "Put 128", nums.Put(nil, 128), []byte{128, 1})
	wantBytes(t, "Put 300", nums.Put(nil, 300), []byte{172, 2})
	wantTake(t, []byte{172, 2, 9}, 300, []byte{9})
	wantNoTake(t, "128", []byte{128})
	wantNoTake(t, "128 0", []byte{128, 0})
	wantNoTake(t, "ten bytes 255 and one 1", again(255, 10, 1))
	wantBytes(t, "PutText ab", nums.PutText(nil, "ab"), []byte{2, 97, 98})
	wantTakeText(t, []byte{2, 97, 98, 7}, 2, "ab", []byte{7})
	wantNoTakeText(t, "longer than it may be", []byte{2, 97, 98, 7}, 1)
	wantBytes(t, "PutFour 258", nums.PutFour(nil, 258), []byte{2, 1, 0, 0})
}

func TestP2_1Put(t *testing.T) {
	for _, f := range forms {
		for _, before := range befores {
			wantBytes(t, "Put", nums.Put(before, f.x), slices.Concat(before, f.b))
		}
	}
}

func TestP2_1Take(t *testing.T) {
	for _, f := range forms {
		for _, behind := range behinds {
			wantTake(t, slices.Concat(f.b, behind), f.x, behind)
		}
	}
}

// Each proper prefix of a short form ends before a last byte.
func TestP2_1TakeEndsEarly(t *testing.T) {
	for _, f := range forms {
		for n := range f.b {
			wantNoTake(t, "a prefix", f.b[:n])
		}
	}
}

func TestP2_1TakeNone(t *testing.T) {
	for _, n := range noForms {
		wantNoTake(t, n.what, n.b)
	}
}

func TestP2_2PutText(t *testing.T) {
	for _, s := range texts {
		for _, before := range befores {
			wantBytes(t, "PutText", nums.PutText(before, s), slices.Concat(nums.Put(before, uint64(len(s))), []byte(s)))
		}
	}
	wantBytes(t, "no bytes", nums.PutText(nil, ""), []byte{0})
	wantBytes(t, "no byte is special", nums.PutText([]byte{5}, "\x00\xff\x80"), []byte{5, 3, 0, 255, 128})
	wantBytes(t, "128 bytes", nums.PutText(nil, strings.Repeat("a", 128)), slices.Concat([]byte{128, 1}, again('a', 128)))
}

// A text may be just as long as most, and no byte longer.
func TestP2_2TakeText(t *testing.T) {
	for _, s := range texts {
		for _, behind := range behinds {
			b := slices.Concat(nums.PutText(nil, s), behind)
			for _, most := range []int{len(s), len(s) + 1, len(s) + 1000, math.MaxInt} {
				wantTakeText(t, b, most, s, behind)
			}
			for _, most := range []int{len(s) - 1, len(s) / 2, 0, -1, -len(s), math.MinInt} {
				if most < len(s) {
					wantNoTakeText(t, "longer than it may be", b, most)
				}
			}
		}
	}
}

func TestP2_2TakeTextEndsEarly(t *testing.T) {
	for _, s := range texts[:len(texts)-1] {
		b := nums.PutText(nil, s)
		for n := range b {
			wantNoTakeText(t, "a prefix", b[:n], len(s))
			wantNoTakeText(t, "a prefix", b[:n], math.MaxInt)
		}
	}
}

// Bytes that begin with no length begin with no text.
func TestP2_2TakeTextWithoutLength(t *testing.T) {
	for _, n := range noForms {
		for _, most := range []int{0, 1, math.MaxInt, -1, math.MinInt} {
			wantNoTakeText(t, n.what, n.b, most)
			if len(n.b) > 0 { // a byte 0 that ends what ended early is one too many
				wantNoTakeText(t, n.what, slices.Concat(n.b, again(0, 20)), most)
			}
		}
	}
}

// Lengths that no int, or no int of half its size, holds.
func TestP2_2TakeTextGreatLength(t *testing.T) {
	for _, x := range []uint64{4, 1 << 31, 1 << 32, 1<<32 + 3, 1<<63 - 1, 1 << 63, 1<<63 + 3, math.MaxUint64 - 2, math.MaxUint64} {
		b := append(nums.Put(nil, x), "abc"...)
		for _, most := range []int{0, 3, 4, math.MaxInt, -1, -3, math.MinInt} {
			wantNoTakeText(t, "too few bytes", b, most)
		}
	}
}

func TestP2_3Four(t *testing.T) {
	for _, c := range []struct {
		x uint32
		b []byte
	}{
		{0, []byte{0, 0, 0, 0}},
		{1, []byte{1, 0, 0, 0}},
		{255, []byte{255, 0, 0, 0}},
		{256, []byte{0, 1, 0, 0}},
		{258, []byte{2, 1, 0, 0}},
		{1 << 16, []byte{0, 0, 1, 0}},
		{1 << 24, []byte{0, 0, 0, 1}},
		{1 << 31, []byte{0, 0, 0, 128}},
		{0x04030201, []byte{1, 2, 3, 4}},
		{0xfcfdfeff, []byte{255, 254, 253, 252}},
		{math.MaxUint32, []byte{255, 255, 255, 255}},
	} {
		for _, before := range befores {
			wantBytes(t, "PutFour", nums.PutFour(before, c.x), slices.Concat(before, c.b))
		}
		for _, behind := range behinds {
			wantTakeFour(t, slices.Concat(c.b, behind), c.x, behind)
		}
	}
}

func TestP2_3TakeFourEndsEarly(t *testing.T) {
	for _, b := range [][]byte{nil, {}, {1}, {1, 2}, {1, 2, 3}, {0, 0, 0}} {
		if x, rest, ok := nums.TakeFour(b); x != 0 || rest != nil || ok {
			t.Errorf("TakeFour(%v): %d %v %t, want none", b, x, rest, ok)
		}
	}
}

// puts are the functions that put, each with something to put.
var puts = map[string]func(b []byte) []byte{
	"Put 5":      func(b []byte) []byte { return nums.Put(b, 5) },
	"Put 2^64-1": func(b []byte) []byte { return nums.Put(b, math.MaxUint64) },
	"PutText":    func(b []byte) []byte { return nums.PutText(b, "xyz") },
	"PutText ''": func(b []byte) []byte { return nums.PutText(b, "") },
	"PutFour":    func(b []byte) []byte { return nums.PutFour(b, 0x04030201) },
}

// What is put stands in memory of its own, also if the argument has room for it.
func TestR3PutHasMemoryOfItsOwn(t *testing.T) {
	for what, put := range puts {
		room := again(77, 40)
		b := room[:3]
		one, two := put(b), put(b)
		want := bytes.Clone(one)
		wantBytes(t, what+": the argument and its spare capacity", room, again(77, 40))
		one = append(one, 1, 2, 3)
		for i := range one {
			one[i] = 0
		}
		wantBytes(t, what+": the argument behind the result's change", room, again(77, 40))
		for i := range room {
			room[i] = 0
		}
		wantBytes(t, what+": the other result", two, want)
	}
}

// takes are the functions that take, with bytes that they take something of: what is returned as the rest is 5, 6, 7.
var takes = map[string]func() (b, rest, again []byte){
	"Take": func() (b, rest, again []byte) {
		b = []byte{172, 2, 5, 6, 7, 8, 9}[:5]
		_, rest, _ = nums.Take(b)
		_, again, _ = nums.Take(b)
		return b, rest, again
	},
	"TakeText": func() (b, rest, again []byte) {
		b = []byte{2, 97, 98, 5, 6, 7, 8, 9}[:6]
		_, rest, _ = nums.TakeText(b, 2)
		_, again, _ = nums.TakeText(b, 2)
		return b, rest, again
	},
	"TakeFour": func() (b, rest, again []byte) {
		b = []byte{1, 2, 3, 4, 5, 6, 7, 8, 9}[:7]
		_, rest, _ = nums.TakeFour(b)
		_, again, _ = nums.TakeFour(b)
		return b, rest, again
	},
}

func TestR3TakeHasMemoryOfItsOwn(t *testing.T) {
	for what, take := range takes {
		b, rest, again := take()
		whole := b[:cap(b)]
		was := bytes.Clone(whole)
		rest = append(rest, 1, 1)
		clear(rest)
		wantBytes(t, what+": the argument and its spare capacity", whole, was)
		clear(whole)
		wantBytes(t, what+": the other result", again, []byte{5, 6, 7})
	}
}

// A text that was taken stays as it is if the bytes change.
func TestR3TextHasMemoryOfItsOwn(t *testing.T) {
	b := []byte{2, 97, 98}
	s, _, _ := nums.TakeText(b, 2)
	clear(b)
	if s != "ab" {
		t.Errorf("%q", s)
	}
}

// An empty rest shares nothing with the argument, either.
func TestR3EmptyRest(t *testing.T) {
	b := []byte{1, 97, 5, 5}
	_, one, _ := nums.Take(b[:1])
	_, two, _ := nums.TakeText(b[:2], 1)
	_, three, _ := nums.TakeFour(b[:4])
	for _, rest := range [][]byte{one, two, three} {
		if len(rest) != 0 {
			t.Errorf("rest %v", rest)
		}
		_ = append(rest, 9)
	}
	wantBytes(t, "the argument", b, []byte{1, 97, 5, 5})
}
