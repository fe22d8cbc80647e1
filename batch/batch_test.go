package batch_test

import (
	"bytes"
	"fmt"
	"math"
	"slices"
	"strings"
	"testing"

	"ratline/api"
	"ratline/batch"
	"ratline/nums"
)

const (
	del = api.KindDelete
	put = api.KindPut
)

func op(kind uint8, key, val string) api.Op {
	return api.Op{Kind: kind, Key: key, Val: val}
}

func entry(key string, seq uint64, kind uint8, val string) api.Entry {
	return api.Entry{K: api.Ikey{Key: key, Seq: seq, Kind: kind}, Val: val}
}

// show is how entries are told of: their bytes need not be letters.
func show(l ...api.Entry) string {
	var told []string
	for _, e := range l {
		told = append(told, fmt.Sprintf("%q %d %d %q", e.K.Key, e.K.Seq, e.K.Kind, e.Val))
	}
	return strings.Join(told, ", ")
}

// again is n times the letter k.
func again(n int) string {
	return strings.Repeat("k", n)
}

// number is n operations, puts and deletes, that differ in their keys.
func number(n int) []api.Op {
	l := make([]api.Op, n)
	for i := range l {
		l[i] = op(put, fmt.Sprint("key", i), fmt.Sprint(i))
		if i%3 == 1 {
			l[i] = op(del, fmt.Sprint("key", i), "")
		}
	}
	return l
}

// greatest is n operations with as many bytes as there may be.
func greatest(n int) []api.Op {
	return slices.Repeat([]api.Op{op(put, again(64), again(256))}, n)
}

// form is that of one operation, by nums.
func form(o api.Op) []byte {
	b := nums.PutText([]byte{o.Kind}, o.Key)
	if o.Kind == put {
		b = nums.PutText(b, o.Val)
	}
	return b
}

// told is the form with that number at its beginning, whether it is that of the operations or not.
func told(n uint64, l ...api.Op) []byte {
	b := nums.Put(nil, n)
	for _, o := range l {
		b = append(b, form(o)...)
	}
	return b
}

// rightOps are right ones: the edges of each part.
var rightOps = []api.Op{
	op(put, "a", "x"),
	op(put, "a", ""),
	op(del, "a", ""),
	op(put, "\x00", "\x00"),
	op(del, "\x00", ""),
	op(put, "\xff\x80", "\x00\xff\x80"),
	op(put, again(63), again(127)),
	op(put, again(64), again(128)),
	op(del, again(64), ""),
	op(put, again(64), ""),
	op(put, "b", again(255)),
	op(put, "b", again(256)),
	op(put, again(64), again(256)),
	op(put, strings.Repeat("\x00", 64), strings.Repeat("\x00", 256)),
}

// wrongOps are not right, each by one part, or by more.
var wrongOps = []api.Op{
	{},
	op(put, "", "x"),
	op(put, "", ""),
	op(del, "", ""),
	op(put, again(65), "x"),
	op(del, again(65), ""),
	op(put, again(128), "x"),
	op(put, again(70000), ""),
	op(put, "a", again(257)),
	op(put, "a", again(512)),
	op(put, again(64), again(70000)),
	op(del, "a", "x"),
	op(del, "a", "\x00"),
	op(del, "a", again(256)),
	op(del, "a", again(257)),
	op(2, "a", ""),
	op(2, "a", "x"),
	op(3, "a", "x"),
	op(128, "a", ""),
	op(255, "a", "x"),
	op(255, "", again(257)),
}

func wantBytes(t *testing.T, what string, got, want []byte) {
	t.Helper()
	if !bytes.Equal(got, want) {
		t.Errorf("%s: %v, want %v", what, got, want)
	}
}

func wantForm(t *testing.T, l []api.Op, want []byte) {
	t.Helper()
	if b, e := batch.Bytes(l); !bytes.Equal(b, want) || e != api.OK {
		t.Errorf("Bytes(%q): %v, error %d, want %v", l, b, e, want)
	}
}

func wantNoForm(t *testing.T, what string, l []api.Op) {
	t.Helper()
	if b, e := batch.Bytes(l); len(b) > 0 || e != api.ErrBatch {
		t.Errorf("Bytes of %s: %v, error %d, want none and ErrBatch", what, b, e)
	}
}

func wantParse(t *testing.T, b []byte, want []api.Op) {
	t.Helper()
	if l, e := batch.Parse(b); !slices.Equal(l, want) || e != api.OK {
		t.Errorf("Parse(%v): %q, error %d, want %q", b, l, e, want)
	}
}

func wantNoParse(t *testing.T, what string, b []byte) {
	t.Helper()
	if l, e := batch.Parse(b); len(l) > 0 || e != api.ErrBatch {
		t.Errorf("Parse(%v), %s: %q, error %d, want none and ErrBatch", b, what, l, e)
	}
}

func wantEntries(t *testing.T, l []api.Op, first uint64, want []api.Entry) {
	t.Helper()
	if got := batch.Entries(l, first); !slices.Equal(got, want) {
		t.Errorf("Entries(%q, %d): %s, want %s", l, first, show(got...), show(want...))
	}
}

func TestExamples(t *testing.T) {
	l := []api.Op{op(put, "a", "x"), op(del, "b", "")}
	b := []byte{2, 1, 1, 97, 1, 120, 0, 1, 98}
	wantForm(t, l, b)
	wantParse(t, b, l)
	for more := range 256 {
		wantNoParse(t, "one more byte", slices.Concat(b, []byte{byte(more)}))
	}
	wantNoParse(t, "no operation", []byte{0})
	wantNoParse(t, "a kind of 2", []byte{1, 2, 1, 97})
	wantEntries(t, l, 7, []api.Entry{entry("a", 7, put, "x"), entry("b", 8, del, "")})
	wantNoForm(t, "no operations", nil)
	wantNoForm(t, "129 operations", number(129))
}

func TestP4_1Op(t *testing.T) {
	for _, o := range rightOps {
		if !batch.Op(o) {
			t.Errorf("%q is not right", o)
		}
	}
	for _, o := range wrongOps {
		if batch.Op(o) {
			t.Errorf("%q is right", o)
		}
	}
}

func TestP4_1OpByLengths(t *testing.T) {
	for n := range 300 {
		key, val := n >= 1 && n <= 64, n <= 256
		if got := batch.Op(op(put, again(n), "x")); got != key {
			t.Errorf("a put of a key of %d bytes: %t", n, got)
		}
		if got := batch.Op(op(del, again(n), "")); got != key {
			t.Errorf("a delete of a key of %d bytes: %t", n, got)
		}
		if got := batch.Op(op(put, "a", again(n))); got != val {
			t.Errorf("a put of a value of %d bytes: %t", n, got)
		}
		if got := batch.Op(op(del, "a", again(n))); got != (n == 0) {
			t.Errorf("a delete with a value of %d bytes: %t", n, got)
		}
	}
}

func TestP4_1OpByKind(t *testing.T) {
	for kind := range 256 {
		if got := batch.Op(op(uint8(kind), "a", "")); got != (kind < 2) {
			t.Errorf("kind %d, no value: %t", kind, got)
		}
		if got := batch.Op(op(uint8(kind), "a", "x")); got != (kind == 1) {
			t.Errorf("kind %d with a value: %t", kind, got)
		}
	}
}

func TestP4_1Right(t *testing.T) {
	if batch.Right(nil) || batch.Right([]api.Op{}) {
		t.Error("no operations are right")
	}
	for n := range 200 {
		if got := batch.Right(number(n)); got != (n >= 1 && n <= 32) {
			t.Errorf("%d operations: %t", n, got)
		}
	}
	if !batch.Right(rightOps) || !batch.Right(greatest(32)) || batch.Right(greatest(33)) {
		t.Error("a batch is not right by the number and by each of its operations alone")
	}
}

// One operation that is not right, anywhere, and the batch is not.
func TestP4_1RightWithAWrongOne(t *testing.T) {
	for _, o := range wrongOps {
		for _, n := range []int{1, 2, 3, 31, 32} {
			for i := range n {
				l := number(n)
				l[i] = o
				if batch.Right(l) {
					t.Errorf("%d operations with %q at %d are right", n, o, i)
				}
			}
		}
	}
}

// The same operation, or the same key, may be there more than once.
func TestP4_1RightTwice(t *testing.T) {
	if !batch.Right([]api.Op{op(put, "a", "x"), op(put, "a", "x"), op(del, "a", ""), op(del, "a", "")}) {
		t.Error("operations of one key are not right")
	}
}

// forms are those of groups, written out by hand.
var forms = []struct {
	l []api.Op
	b []byte
}{
	{[]api.Op{op(put, "a", "x")}, []byte{1, 1, 1, 97, 1, 120}},
	{[]api.Op{op(put, "a", "")}, []byte{1, 1, 1, 97, 0}},
	{[]api.Op{op(del, "a", "")}, []byte{1, 0, 1, 97}},
	{[]api.Op{op(put, "\x00", "\x00")}, []byte{1, 1, 1, 0, 1, 0}},
	{[]api.Op{op(del, "\x01\x00", "")}, []byte{1, 0, 2, 1, 0}},
	{[]api.Op{op(put, "\xff\x80", "\xfe")}, []byte{1, 1, 2, 255, 128, 1, 254}},
	{[]api.Op{op(put, "a", "x"), op(del, "b", "")}, []byte{2, 1, 1, 97, 1, 120, 0, 1, 98}},
	{[]api.Op{op(del, "b", ""), op(put, "a", "x")}, []byte{2, 0, 1, 98, 1, 1, 97, 1, 120}},
	{[]api.Op{op(del, "b", ""), op(del, "b", ""), op(put, "b", "")}, []byte{3, 0, 1, 98, 0, 1, 98, 1, 1, 98, 0}},
	{[]api.Op{op(del, again(64), "")}, slices.Concat([]byte{1, 0, 64}, []byte(again(64)))},
	{[]api.Op{op(put, "a", again(127))}, slices.Concat([]byte{1, 1, 1, 97, 127}, []byte(again(127)))},
	{[]api.Op{op(put, "a", again(128))}, slices.Concat([]byte{1, 1, 1, 97, 128, 1}, []byte(again(128)))},
	{[]api.Op{op(put, "a", again(256))}, slices.Concat([]byte{1, 1, 1, 97, 128, 2}, []byte(again(256)))},
	{slices.Repeat([]api.Op{op(del, "a", "")}, 127), slices.Concat([]byte{127}, bytes.Repeat([]byte{0, 1, 97}, 127))},
	{slices.Repeat([]api.Op{op(del, "a", "")}, 128), slices.Concat([]byte{128, 1}, bytes.Repeat([]byte{0, 1, 97}, 128))},
}

func TestP4_2Forms(t *testing.T) {
	for _, f := range forms {
		wantForm(t, f.l, f.b)
		wantParse(t, f.b, f.l)
	}
}

func TestP4_2ByNumber(t *testing.T) {
	wantNoForm(t, "no operations", []api.Op{})
	for n := range 300 {
		for _, l := range [][]api.Op{number(n), greatest(n)} {
			b := told(uint64(n), l...)
			if n < 1 || n > 128 {
				wantNoForm(t, fmt.Sprint(n, " operations"), l)
				wantNoParse(t, fmt.Sprint(n, " operations"), b)
				continue
			}
			wantForm(t, l, b)
			wantParse(t, b, l)
		}
	}
}

func TestP4_2ByLengths(t *testing.T) {
	for n := range 300 {
		for _, o := range []api.Op{op(put, again(n), "x"), op(del, again(n), ""), op(put, "a", again(n))} {
			l := []api.Op{o, op(del, "b", "")}
			if b := told(2, l...); batch.Op(o) {
				wantForm(t, l, b)
				wantParse(t, b, l)
			} else {
				wantNoForm(t, fmt.Sprintf("%q", l), l)
				wantNoParse(t, "a key or a value that may not be", b)
			}
		}
	}
}

// One operation that is not right, anywhere, and it is no group.
func TestP4_2BytesWithAWrongOne(t *testing.T) {
	for _, o := range wrongOps {
		for _, n := range []int{1, 2, 33, 128} {
			for _, i := range []int{0, n / 2, n - 1} {
				l := number(n)
				l[i] = o
				wantNoForm(t, fmt.Sprintf("%d operations with %q at %d", n, o, i), l)
			}
		}
	}
}

// Each proper prefix of a form ends too early, and with any byte more it goes on too long.
func TestP4_2ParseExactly(t *testing.T) {
	for _, f := range forms {
		for n := range f.b {
			wantNoParse(t, "a prefix", f.b[:n])
		}
		for more := range 256 {
			wantNoParse(t, "one more byte", slices.Concat(f.b, []byte{byte(more)}))
		}
		for _, more := range [][]byte{{0, 1, 97}, {1, 1, 97, 0}, f.b, make([]byte, 70000)} {
			wantNoParse(t, "more behind", slices.Concat(f.b, more))
		}
	}
}

// The number is held against how many operations there are.
func TestP4_2ParseWrongNumber(t *testing.T) {
	for _, n := range []uint64{1, 2, 3, 33, 127, 128} {
		l := number(int(n))
		wantParse(t, told(n, l...), l)
		wrong := []uint64{0, n - 1, n + 1, 129, 255, 256 + n, 1<<16 + n, 1<<31 + n, 1<<32 + n, 1<<63 - 1, 1<<63 + n, math.MaxUint64}
		for _, w := range wrong {
			wantNoParse(t, fmt.Sprint(n, " operations"), told(w, l...))
		}
		wantNoParse(t, "a number that is no short form", slices.Concat([]byte{byte(n%128) + 128, byte(n/128) + 128, 0}, told(n, l...)[len(nums.Put(nil, n)):]))
	}
}

// Every kind that is none of the two, whatever is behind it.
func TestP4_2ParseWrongKind(t *testing.T) {
	for kind := 2; kind < 256; kind++ {
		for _, behind := range [][]byte{nil, {1, 97}, {1, 97, 0}, {1, 97, 1, 120}, {1, 97, 1}} {
			bad := slices.Concat([]byte{byte(kind)}, behind)
			wantNoParse(t, "a kind", slices.Concat([]byte{1}, bad))
			wantNoParse(t, "a kind, the last one", slices.Concat([]byte{2, 0, 1, 98}, bad))
			wantNoParse(t, "a kind, the first one", slices.Concat([]byte{2}, bad, []byte{0, 1, 98}))
		}
	}
}

// noForms are bytes that are no form of a group.
var noForms = []struct {
	what string
	b    []byte
}{
	{"nothing", nil},
	{"nothing, not nil", []byte{}},
	{"no operation, and one behind", []byte{0, 0, 1, 97}},
	{"no operation, no short form", []byte{128, 0}},
	{"no number", []byte{128}},
	{"a number that is no short form", []byte{129, 0, 0, 1, 97}},
	{"a number that is no short form, longer", []byte{129, 128, 0, 0, 1, 97}},
	{"the number 2^64 and 1", []byte{129, 128, 128, 128, 128, 128, 128, 128, 128, 2, 0, 1, 97}},
	{"a number of eleven bytes", []byte{129, 128, 128, 128, 128, 128, 128, 128, 128, 128, 0, 0, 1, 97}},
	{"a number alone", []byte{1}},
	{"a kind alone", []byte{1, 0}},
	{"a delete of a key of no byte", []byte{1, 0, 0}},
	{"a put of a key of no byte", []byte{1, 1, 0, 1, 120}},
	{"a put without a value", []byte{1, 1, 1, 97}},
	{"a delete with a value", []byte{1, 0, 1, 97, 1, 120}},
	{"a delete with a value of no byte", []byte{1, 0, 1, 97, 0}},
	{"a key that ends early", []byte{1, 0, 2, 97}},
	{"a value that ends early", []byte{1, 1, 1, 97, 2, 120}},
	{"a length of a key that is no short form", []byte{1, 0, 129, 0, 97}},
	{"a length of a value that is no short form", []byte{1, 1, 1, 97, 129, 0, 120}},
	{"a length of 0 that is no short form", []byte{1, 1, 1, 97, 128, 0}},
	{"a length of a key that no int holds", []byte{1, 0, 255, 255, 255, 255, 255, 255, 255, 255, 255, 1, 97}},
	{"a length of a value that no int holds", []byte{1, 1, 1, 97, 255, 255, 255, 255, 255, 255, 255, 255, 255, 1, 120}},
	{"a key of 2^64 and 1 bytes", []byte{1, 0, 129, 128, 128, 128, 128, 128, 128, 128, 128, 2, 97}},
	{"a key of 65 bytes", slices.Concat([]byte{1, 0, 65}, []byte(again(65)))},
	{"a key of 321 bytes", slices.Concat([]byte{1, 0, 193, 2}, []byte(again(321)))},
	{"a value of 257 bytes", slices.Concat([]byte{1, 1, 1, 97, 129, 2}, []byte(again(257)))},
	{"a value of 513 bytes", slices.Concat([]byte{1, 1, 1, 97, 129, 4}, []byte(again(513)))},
	{"a second one that ends early", []byte{2, 0, 1, 97, 0, 2, 98}},
	{"a first one that is not right", []byte{2, 0, 0, 0, 1, 98}},
}

func TestP4_2ParseNone(t *testing.T) {
	for _, n := range noForms {
		wantNoParse(t, n.what, n.b)
	}
}

// firsts are sequences: the edges of what is right, and of 64 bits.
var firsts = []uint64{0, 1, 7, api.MaxSeq - 1, api.MaxSeq, api.MaxSeq + 1, 1<<63 - 1, 1 << 63, math.MaxUint64 - 1, math.MaxUint64}

func TestP4_3Entries(t *testing.T) {
	for _, l := range [][]api.Op{rightOps, wrongOps, number(1), number(32), number(33), number(128), number(129), number(1000)} {
		for _, first := range firsts {
			var want []api.Entry
			seq := first
			for _, o := range l {
				want = append(want, entry(o.Key, seq, o.Kind, o.Val))
				seq++
			}
			wantEntries(t, l, first, want)
		}
	}
}

func TestP4_3EntriesWrapAround(t *testing.T) {
	l := []api.Op{op(put, "a", "x"), op(del, "b", ""), op(9, "", "y"), op(put, "a", "z")}
	wantEntries(t, l, math.MaxUint64-1, []api.Entry{
		entry("a", math.MaxUint64-1, put, "x"),
		entry("b", math.MaxUint64, del, ""),
		entry("", 0, 9, "y"),
		entry("a", 1, put, "z"),
	})
	wantEntries(t, l[:2], api.MaxSeq, []api.Entry{entry("a", api.MaxSeq, put, "x"), entry("b", api.MaxSeq+1, del, "")})
}

func TestP4_3EntriesOfNothing(t *testing.T) {
	for _, first := range firsts {
		wantEntries(t, nil, first, nil)
		wantEntries(t, []api.Op{}, first, nil)
	}
}

// The arguments and their spare capacity stay.
func TestR3ArgumentsStay(t *testing.T) {
	for _, n := range []int{0, 1, 5, 32, 33, 128, 129} {
		room := append(number(n), rightOps...)
		was := slices.Clone(room)
		batch.Right(room[:n])
		batch.Entries(room[:n], 7)
		b, _ := batch.Bytes(room[:n])
		if !slices.Equal(room, was) {
			t.Errorf("%d operations, or what is behind them, became %q", n, room)
		}
		more := slices.Concat(b, []byte{1, 2, 3})
		whole := bytes.Clone(more)
		batch.Parse(more[:len(b)])
		batch.Parse(more)
		wantBytes(t, "the argument and its spare capacity", more, whole)
	}
}

// What is returned shares nothing with another result, and stays when the arguments change.
func TestR3BytesHaveMemoryOfTheirOwn(t *testing.T) {
	for _, n := range []int{1, 5, 128} {
		l := number(n)
		want := told(uint64(n), l...)
		one, _ := batch.Bytes(l)
		two, _ := batch.Bytes(l)
		clear(append(one, 1, 2, 3))
		clear(l)
		wantBytes(t, "the other result", two, want)
	}
}

func TestR3ParseHasMemoryOfItsOwn(t *testing.T) {
	for _, n := range []int{1, 5, 128} {
		want := number(n)
		b := told(uint64(n), want...)
		one, _ := batch.Parse(b)
		two, _ := batch.Parse(b)
		clear(append(one, op(put, "c", "y")))
		clear(b)
		if !slices.Equal(two, want) {
			t.Errorf("the other result became %q", two)
		}
	}
}

func TestR3EntriesHaveMemoryOfTheirOwn(t *testing.T) {
	l := number(5)
	one, two := batch.Entries(l, 3), batch.Entries(l, 3)
	want := slices.Clone(two)
	clear(append(one, entry("c", 1, put, "y")))
	clear(l)
	if !slices.Equal(two, want) {
		t.Errorf("the other result became %s", show(two...))
	}
}
