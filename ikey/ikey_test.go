package ikey_test

import (
	"bytes"
	"fmt"
	"math"
	"slices"
	"strings"
	"testing"

	"ratline/api"
	"ratline/ikey"
	"ratline/nums"
)

const (
	del = api.KindDelete
	put = api.KindPut
)

func internal(key string, seq uint64, kind uint8) api.Ikey {
	return api.Ikey{Key: key, Seq: seq, Kind: kind}
}

func entry(key string, seq uint64, kind uint8, val string) api.Entry {
	return api.Entry{K: internal(key, seq, kind), Val: val}
}

// show is how internal keys are told of: their bytes need not be letters.
func show(l ...api.Ikey) string {
	var told []string
	for _, k := range l {
		told = append(told, fmt.Sprintf("%q %d %d", k.Key, k.Seq, k.Kind))
	}
	return strings.Join(told, ", ")
}

// entries are of internal keys, without values.
func entries(l ...api.Ikey) []api.Entry {
	var all []api.Entry
	for _, k := range l {
		all = append(all, api.Entry{K: k})
	}
	return all
}

// again is n times the letter k.
func again(n int) string {
	return strings.Repeat("k", n)
}

// rightKeys are right ones: the edges of each part.
var rightKeys = []api.Ikey{
	internal("a", 5, put),
	internal("a", 5, del),
	internal("a", 0, put),
	internal("a", 0, del),
	internal("\x00", 1, put),
	internal("\xff", 1, del),
	internal("\x00\xff\x80", 63, put),
	internal("ab", 64, del),
	internal(again(63), 1<<32, put),
	internal(again(64), 1<<32-1, put),
	internal(strings.Repeat("\x00", 64), api.MaxSeq, del),
	internal("b", api.MaxSeq-1, put),
	internal("b", api.MaxSeq, del),
	internal("b", api.MaxSeq, put),
	internal(again(64), api.MaxSeq, put),
}

// wrongKeys are not right, each by one part, or by more.
var wrongKeys = []api.Ikey{
	{},
	internal("", 5, put),
	internal("", 0, del),
	internal(again(65), 5, put),
	internal(again(65), 5, del),
	internal(again(128), 5, put),
	internal(again(70000), 5, put),
	internal("a", api.MaxSeq+1, put),
	internal("a", api.MaxSeq+1, del),
	internal("a", api.MaxSeq+2, put),
	internal("a", 1<<57, put),
	internal("a", 1<<63-1, put),
	internal("a", 1<<63, del),
	internal("a", 1<<63+5, put),
	internal("a", math.MaxUint64, put),
	internal("a", 5, 2),
	internal("a", 5, 3),
	internal("a", 5, 128),
	internal("a", 5, 254),
	internal("a", 5, 255),
	internal("", math.MaxUint64, 255),
}

// befores are bytes behind which something is put, and behinds what stands behind what is taken.
var befores = [][]byte{nil, {}, {0}, {128}, {1, 97, 11}, bytes.Repeat([]byte{9}, 300)}

var behinds = [][]byte{nil, {0}, {7}, {1, 97, 11}, {128}, {255, 255}, bytes.Repeat([]byte{7}, 300)}

func wantBytes(t *testing.T, what string, got, want []byte) {
	t.Helper()
	if !bytes.Equal(got, want) {
		t.Errorf("%s: %v, want %v", what, got, want)
	}
}

// wantOrder holds two internal keys against each other, from both sides.
func wantOrder(t *testing.T, a, b api.Ikey, want int) {
	t.Helper()
	if got := ikey.Compare(a, b); got != want {
		t.Errorf("Compare(%s): %d, want %d", show(a, b), got, want)
	}
	if got := ikey.Compare(b, a); got != -want {
		t.Errorf("Compare(%s): %d, want %d", show(b, a), got, -want)
	}
}

func wantTake(t *testing.T, b []byte, k api.Ikey, rest []byte) {
	t.Helper()
	if gk, gr, ok := ikey.Take(b); gk != k || !bytes.Equal(gr, rest) || !ok {
		t.Errorf("Take(%v): %s %v %t, want %s %v", b, show(gk), gr, ok, show(k), rest)
	}
}

func wantNoTake(t *testing.T, what string, b []byte) {
	t.Helper()
	if k, rest, ok := ikey.Take(b); k != (api.Ikey{}) || rest != nil || ok {
		t.Errorf("Take(%v), %s: %s %v %t, want none", b, what, show(k), rest, ok)
	}
}

func TestExamples(t *testing.T) {
	wantOrder(t, internal("a", 5, put), internal("a", 4, put), -1)
	wantOrder(t, internal("a", 5, put), internal("a", 5, del), -1)
	wantOrder(t, internal("a", 5, put), internal("ab", 9, put), -1)
	wantOrder(t, internal("a", 5, put), internal("a", 6, del), 1)
	if k := ikey.Sought("a", 5); k != internal("a", 5, put) {
		t.Errorf("Sought(a, 5): %s", show(k))
	}
	wantBytes(t, "Put a 5 put", ikey.Put(nil, internal("a", 5, put)), []byte{1, 97, 11})
	wantBytes(t, "Put a 5 delete", ikey.Put(nil, internal("a", 5, del)), []byte{1, 97, 10})
	wantTake(t, []byte{1, 97, 11, 7}, internal("a", 5, put), []byte{7})
	wantNoTake(t, "a key of no byte", []byte{0, 11})
	if ikey.Entry(entry("a", 5, del, "x")) {
		t.Error("a delete with a value is right")
	}
}

func TestP3_1Right(t *testing.T) {
	for _, k := range rightKeys {
		if !ikey.Right(k) {
			t.Errorf("%s is not right", show(k))
		}
	}
	for _, k := range wrongKeys {
		if ikey.Right(k) {
			t.Errorf("%s is right", show(k))
		}
	}
}

func TestP3_1RightByLength(t *testing.T) {
	for n := range 300 {
		if got := ikey.Right(internal(again(n), 5, put)); got != (n >= 1 && n <= 64) {
			t.Errorf("a key of %d bytes: %t", n, got)
		}
	}
}

func TestP3_1RightByKind(t *testing.T) {
	for kind := range 256 {
		if got := ikey.Right(internal("a", 5, uint8(kind))); got != (kind < 2) {
			t.Errorf("kind %d: %t", kind, got)
		}
	}
}

func TestP3_1RightEntry(t *testing.T) {
	for _, k := range rightKeys {
		for _, n := range []int{0, 1, 2, 255, 256, 257, 258, 512, 70000} {
			want := n <= 256 && (n == 0 || k.Kind == put)
			if got := ikey.Entry(api.Entry{K: k, Val: again(n)}); got != want {
				t.Errorf("%s with a value of %d bytes: %t", show(k), n, got)
			}
		}
	}
	if !ikey.Entry(entry("a", 5, put, "\x00\xff")) || ikey.Entry(entry("a", 5, del, "\x00")) {
		t.Error("bytes of a value are special")
	}
}

// An entry whose internal key is not right is not right, whatever its value.
func TestP3_1WrongEntry(t *testing.T) {
	for _, k := range wrongKeys {
		for _, n := range []int{0, 1, 256, 257} {
			if ikey.Entry(api.Entry{K: k, Val: again(n)}) {
				t.Errorf("%s with a value of %d bytes is right", show(k), n)
			}
		}
	}
}

// inOrder are internal keys, each one before all that stand behind it: right ones, and others.
var inOrder = []api.Ikey{
	internal("", math.MaxUint64, 255),
	internal("", 3, put),
	internal("", 3, del),
	internal("\x00", 0, del),
	internal("\x00\x00", 9, put),
	internal("\x00\x01", 9, put),
	internal("\x01", 0, put),
	internal("A", 1, put),
	internal("a", math.MaxUint64, put),
	internal("a", 1<<63, put),
	internal("a", 1<<63-1, put),
	internal("a", api.MaxSeq+1, put),
	internal("a", api.MaxSeq, put),
	internal("a", api.MaxSeq, del),
	internal("a", 1<<32, put),
	internal("a", 1<<32-1, put),
	internal("a", 6, put),
	internal("a", 6, del),
	internal("a", 5, 255),
	internal("a", 5, 128),
	internal("a", 5, 127),
	internal("a", 5, 2),
	internal("a", 5, put),
	internal("a", 5, del),
	internal("a", 1, put),
	internal("a", 0, put),
	internal("a", 0, del),
	internal("a\x00", 9, put),
	internal("aa", 9, put),
	internal("aab", 2, put),
	internal("aab", 1, put),
	internal("ab", 9, put),
	internal("ab\xff", 9, put),
	internal("b", 0, del),
	internal(again(64), 7, put),
	internal(again(65), 8, put),
	internal("\x7f", 1, put),
	internal("\x80", 2, put),
	internal("\xc3\xa4", 2, put),
	internal("\xff", 3, put),
	internal("\xff\x00", 0, del),
	internal("\xff\xff", 0, del),
}

func TestP3_1Compare(t *testing.T) {
	for i, a := range inOrder {
		wantOrder(t, a, a, 0)
		for _, b := range inOrder[i+1:] {
			wantOrder(t, a, b, -1)
		}
	}
}

// Keys of the same bytes are the same, wherever these stand.
func TestP3_1CompareBytes(t *testing.T) {
	one, two := []byte("key"), []byte("key")
	wantOrder(t, internal(string(one), 5, put), internal(string(two), 5, put), 0)
}

func TestP3_1Rising(t *testing.T) {
	a5, a4, b9 := internal("a", 5, put), internal("a", 4, put), internal("b", 9, put)
	for i, c := range []struct {
		l    []api.Entry
		want bool
	}{
		{nil, true},
		{[]api.Entry{}, true},
		{entries(a5), true},
		{entries(a5, a4), true},
		{entries(a4, a5), false},
		{entries(a5, a5), false},
		{entries(a5, a4, b9), true},
		{entries(a5, a5, a4, b9), false},
		{entries(a5, a4, a4, b9), false},
		{entries(a5, a4, b9, b9), false},
		{entries(b9, a5, a4), false},
		{entries(a5, b9, a4), false},
		{entries(internal("a", 5, put), internal("a", 5, del)), true},
		{entries(internal("a", 5, del), internal("a", 5, put)), false},
		{entries(internal("a", 5, put), internal("ab", 5, put)), true},
		{entries(internal("ab", 5, put), internal("a", 5, put)), false},
		{entries(internal("\x7f", 5, put), internal("\x80", 5, put)), true},
		{entries(internal("\x80", 5, put), internal("\x7f", 5, put)), false},
		{entries(inOrder...), true},
	} {
		if got := ikey.Rising(c.l); got != c.want {
			t.Errorf("list %d: Rising %t, want %t", i, got, c.want)
		}
	}
}

// What is no right entry is in order, or not, all the same.
func TestP3_1RisingOfWrongOnes(t *testing.T) {
	if !ikey.Rising([]api.Entry{{}}) {
		t.Error("one zero entry does not rise")
	}
	if ikey.Rising([]api.Entry{{}, {}}) {
		t.Error("two zero entries rise")
	}
	if !ikey.Rising([]api.Entry{entry("", 5, 9, again(999)), entry("a", math.MaxUint64, 200, "x")}) {
		t.Error("what is no right entry does not rise")
	}
}

// Values are not part of the order.
func TestP3_1RisingWhateverTheValues(t *testing.T) {
	if ikey.Rising([]api.Entry{entry("a", 5, put, "x"), entry("a", 5, put, "y")}) {
		t.Error("entries of the same internal key rise by their values")
	}
	if !ikey.Rising([]api.Entry{entry("a", 5, put, "y"), entry("a", 4, put, "x")}) {
		t.Error("entries do not rise for their values")
	}
}

// One swap, or one entry twice, anywhere in a long list, is found.
func TestP3_1RisingAnywhere(t *testing.T) {
	long := entries(inOrder...)
	for i := range len(long) - 1 {
		swapped := slices.Clone(long)
		swapped[i], swapped[i+1] = swapped[i+1], swapped[i]
		if ikey.Rising(swapped) {
			t.Errorf("entries %d and %d are swapped, and rise", i, i+1)
		}
		twice := slices.Insert(slices.Clone(long), i, long[i])
		if ikey.Rising(twice) {
			t.Errorf("entry %d is there twice, and rises", i)
		}
	}
}

func TestP3_2Sought(t *testing.T) {
	for _, key := range []string{"", "a", "\x00\xff", again(64), again(65), again(70000)} {
		for _, seq := range []uint64{0, 1, 5, api.MaxSeq, api.MaxSeq + 1, 1 << 63, math.MaxUint64} {
			if k := ikey.Sought(key, seq); k != (api.Ikey{Key: key, Seq: seq, Kind: put}) {
				t.Errorf("Sought(%q, %d): %s", key, seq, show(k))
			}
		}
	}
}

// forms are those of internal keys, written out by hand.
var forms = []struct {
	k api.Ikey
	b []byte
}{
	{internal("a", 5, put), []byte{1, 97, 11}},
	{internal("a", 5, del), []byte{1, 97, 10}},
	{internal("a", 0, del), []byte{1, 97, 0}},
	{internal("a", 0, put), []byte{1, 97, 1}},
	{internal("\x00", 1, del), []byte{1, 0, 2}},
	{internal("\xff\x80", 63, put), []byte{2, 255, 128, 127}},
	{internal("ab", 64, del), []byte{2, 97, 98, 128, 1}},
	{internal("ab", 64, put), []byte{2, 97, 98, 129, 1}},
	{internal("a", 150, del), []byte{1, 97, 172, 2}},
	{internal("a", 8191, put), []byte{1, 97, 255, 127}},
	{internal("a", 8192, del), []byte{1, 97, 128, 128, 1}},
	{internal("a", 1<<31, del), []byte{1, 97, 128, 128, 128, 128, 16}},
	{internal("a", api.MaxSeq, put), []byte{1, 97, 255, 255, 255, 255, 255, 255, 255, 255, 1}},
	{internal("a", api.MaxSeq, del), []byte{1, 97, 254, 255, 255, 255, 255, 255, 255, 255, 1}},
	{internal(again(64), 5, put), slices.Concat([]byte{64}, []byte(again(64)), []byte{11})},
}

func TestP3_3Put(t *testing.T) {
	for _, f := range forms {
		for _, before := range befores {
			wantBytes(t, "Put", ikey.Put(before, f.k), slices.Concat(before, f.b))
		}
	}
}

func TestP3_3PutByNums(t *testing.T) {
	for _, k := range rightKeys {
		for _, before := range befores {
			want := nums.Put(nums.PutText(before, k.Key), 2*k.Seq+uint64(k.Kind))
			wantBytes(t, "Put", ikey.Put(before, k), want)
		}
	}
}

func TestP3_3PutOfWrongOnes(t *testing.T) {
	for _, k := range wrongKeys {
		for _, before := range befores {
			wantBytes(t, "Put of what is not right", ikey.Put(before, k), before)
		}
	}
}

func TestP3_3Take(t *testing.T) {
	for _, f := range forms {
		for _, behind := range behinds {
			wantTake(t, slices.Concat(f.b, behind), f.k, behind)
		}
	}
}

// Each proper prefix of a form ends too early.
func TestP3_3TakeEndsEarly(t *testing.T) {
	for _, f := range forms {
		for n := range f.b {
			wantNoTake(t, "a prefix", f.b[:n])
		}
	}
}

// noForms are bytes that begin with no form of a right internal key.
var noForms = []struct {
	what string
	b    []byte
}{
	{"nothing", nil},
	{"nothing, not nil", []byte{}},
	{"a key of no byte", []byte{0, 11}},
	{"a key of no byte, more behind", []byte{0, 1, 97, 11}},
	{"a key of no byte, and nothing", []byte{0}},
	{"a key of 65 bytes", slices.Concat([]byte{65}, []byte(again(65)), []byte{11})},
	{"a key of 65 bytes, more behind", slices.Concat([]byte{65}, []byte(again(65)), []byte{11, 1, 97, 11})},
	{"a key of 127 bytes", slices.Concat([]byte{127}, []byte(again(127)), []byte{11})},
	{"a key of 128 bytes", slices.Concat([]byte{128, 1}, []byte(again(128)), []byte{11})},
	{"a key of 300 bytes", slices.Concat([]byte{172, 2}, []byte(again(300)), []byte{11})},
	{"a length that no int holds", []byte{255, 255, 255, 255, 255, 255, 255, 255, 255, 1, 97, 11}},
	{"a length that is no short form", []byte{129, 0, 97, 11}},
	{"no length", []byte{128}},
	{"the greatest sequence and one, a delete", []byte{1, 97, 128, 128, 128, 128, 128, 128, 128, 128, 2}},
	{"the greatest sequence and one, a put", []byte{1, 97, 129, 128, 128, 128, 128, 128, 128, 128, 2}},
	{"the sequence 2^63 - 1, a put", []byte{1, 97, 255, 255, 255, 255, 255, 255, 255, 255, 255, 1}},
	{"the sequence 2^62", []byte{1, 97, 128, 128, 128, 128, 128, 128, 128, 128, 128, 1}},
	{"the number 2^64 and 11", []byte{1, 97, 139, 128, 128, 128, 128, 128, 128, 128, 128, 2}},
	{"a number that is no short form", []byte{1, 97, 139, 0}},
	{"0 that is no short form", []byte{1, 97, 128, 0}},
	{"no number", []byte{1, 97}},
	{"no number, a key of 64 bytes", slices.Concat([]byte{64}, []byte(again(64)))},
	{"a number without a last byte", []byte{1, 97, 139}},
}

func TestP3_3TakeNone(t *testing.T) {
	for _, n := range noForms {
		wantNoTake(t, n.what, n.b)
	}
}

// The argument and its spare capacity stay, and what is returned shares nothing with it, or with another result.
func TestR3PutHasMemoryOfItsOwn(t *testing.T) {
	for _, k := range []api.Ikey{internal("a", 5, put), internal(again(64), api.MaxSeq, put), internal("", 5, put), internal("a", 5, 2)} {
		room := bytes.Repeat([]byte{77}, 200)
		was := bytes.Clone(room)
		one, two := ikey.Put(room[:3], k), ikey.Put(room[:3], k)
		want := bytes.Clone(one)
		one = append(one, 1, 2, 3)
		clear(one)
		wantBytes(t, "the argument and its spare capacity", room, was)
		clear(room)
		wantBytes(t, "the other result", two, want)
	}
}

func TestR3PutOfNothingHasMemoryOfItsOwn(t *testing.T) {
	room := []byte{7, 7, 7}
	_ = append(ikey.Put(room[:0], api.Ikey{}), 1, 2, 3)
	wantBytes(t, "the argument", room, []byte{7, 7, 7})
}

func TestR3TakeHasMemoryOfItsOwn(t *testing.T) {
	whole := []byte{1, 97, 11, 5, 6, 7, 8, 9}
	was := bytes.Clone(whole)
	k, one, _ := ikey.Take(whole[:6])
	_, two, _ := ikey.Take(whole[:6])
	one = append(one, 1, 1)
	clear(one)
	wantBytes(t, "the argument and its spare capacity", whole, was)
	clear(whole)
	wantBytes(t, "the other result", two, []byte{5, 6, 7})
	if k != internal("a", 5, put) {
		t.Errorf("the key changed with the bytes: %s", show(k))
	}
}

// An empty rest shares nothing with the argument, either.
func TestR3EmptyRest(t *testing.T) {
	b := []byte{1, 97, 11, 5}
	_, rest, _ := ikey.Take(b[:3])
	_ = append(rest, 9)
	wantBytes(t, "the argument", b, []byte{1, 97, 11, 5})
}

func TestR3RisingChangesNothing(t *testing.T) {
	l := entries(internal("b", 1, put), internal("a", 1, put), internal("a", 2, put))
	was := slices.Clone(l)
	ikey.Rising(l)
	if !slices.Equal(l, was) {
		t.Errorf("the list became %v", l)
	}
}
