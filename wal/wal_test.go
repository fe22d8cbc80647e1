package wal_test

import (
	"bytes"
	"fmt"
	"math"
	"slices"
	"strings"
	"testing"

	"ratline/api"
	"ratline/wal"
)

const (
	del = api.KindDelete
	put = api.KindPut
)

func op(kind uint8, key, val string) api.Op {
	return api.Op{Kind: kind, Key: key, Val: val}
}

func rec(first uint64, ops ...api.Op) api.Rec {
	return api.Rec{First: first, Ops: ops}
}

// again is n times the letter k.
func again(n int) string {
	return strings.Repeat("k", n)
}

// number is n operations, puts and deletes, that differ in their keys.
func number(n int) []api.Op {
	l := make([]api.Op, n)
	for i := range l {
		l[i] = op(put, fmt.Sprint("key", i), fmt.Sprint(i))
		if i%3 == 1 {
			l[i] = op(del, fmt.Sprint("key", i), "")
		}
	}
	return l
}

// greatest is n operations with as many bytes as there may be.
func greatest(n int) []api.Op {
	return slices.Repeat([]api.Op{op(put, again(64), again(256))}, n)
}

// written is records, right or not, one after the other.
func written(l ...api.Rec) []byte {
	var b []byte
	for _, r := range l {
		b = append(b, modelForm(r)...)
	}
	return b
}

// several is a log of records of different sizes, from that sequence on.
func several(first uint64) []api.Rec {
	var l []api.Rec
	for _, ops := range [][]api.Op{{op(put, "a", "x")}, {op(del, "b", "")}, number(3), {op(put, "c", "")}, number(40), {op(put, again(64), again(256))}, number(1)} {
		l = append(l, rec(first, ops...))
		first += uint64(len(ops))
	}
	return l
}

// show is how records are told of: there may be too much of them to show.
func show(l ...api.Rec) string {
	var told []string
	for _, r := range l {
		ops := fmt.Sprintf("%q", r.Ops)
		if len(r.Ops) > 4 {
			ops = fmt.Sprint(len(r.Ops), " operations")
		}
		told = append(told, fmt.Sprint(r.First, ": ", ops))
	}
	return fmt.Sprint(len(l), " records [", strings.Join(told[:min(8, len(told))], "; "), "]")
}

// brief is how bytes are told of.
func brief(b []byte) string {
	if len(b) <= 60 {
		return fmt.Sprint(b)
	}
	return fmt.Sprint(b[:30], " .. ", b[len(b)-30:], " (", len(b), " bytes)")
}

func same(a, b api.Rec) bool {
	return a.First == b.First && slices.Equal(a.Ops, b.Ops)
}

func wantBytes(t *testing.T, what string, got, want []byte) {
	t.Helper()
	if !bytes.Equal(got, want) {
		t.Errorf("%s: %s, want %s", what, brief(got), brief(want))
	}
}

func wantNumber(t *testing.T, name string, want uint64) {
	t.Helper()
	if num, ok := wal.Number(name); num != want || !ok {
		t.Errorf("Number(%q): %d, %t, want %d", name, num, ok, want)
	}
}

func wantNoNumber(t *testing.T, name string) {
	t.Helper()
	if num, ok := wal.Number(name); num != 0 || ok {
		t.Errorf("Number(%q): %d, %t, want none", name, num, ok)
	}
}

func wantForm(t *testing.T, r api.Rec, want []byte) {
	t.Helper()
	if b, e := wal.Bytes(r); !bytes.Equal(b, want) || e != api.OK {
		t.Errorf("Bytes(%s): %s, error %d, want %s", show(r), brief(b), e, brief(want))
	}
}

// wantNoForm is that a record has none, and nothing else is returned.
func wantNoForm(t *testing.T, what string, r api.Rec) {
	t.Helper()
	if b, e := wal.Bytes(r); len(b) > 0 || e != api.ErrRecord {
		t.Errorf("Bytes(%s), %s: %s, error %d, want nothing and ErrRecord", show(r), what, brief(b), e)
	}
}

func wantRead(t *testing.T, what string, b []byte, want []api.Rec, used int, torn bool) {
	t.Helper()
	l, n, cut := wal.Read(b)
	if !slices.EqualFunc(l, want, same) || n != used || cut != torn {
		t.Errorf("Read(%s), %s: %s, %d, %t, want %s, %d, %t", brief(b), what, show(l...), n, cut, show(want...), used, torn)
	}
}

// wantNoRecord is that bytes begin with none: as a log, behind a record, and with a whole record behind.
func wantNoRecord(t *testing.T, what string, b []byte) {
	t.Helper()
	one := rec(1, op(put, "a", "x"))
	ahead, behind := written(one), written(several(2)...)
	wantRead(t, what, b, nil, 0, len(b) > 0)
	wantRead(t, what+", behind a record", slices.Concat(ahead, b), []api.Rec{one}, len(ahead), len(b) > 0)
	if len(b) > 0 {
		wantRead(t, what+", between records", slices.Concat(ahead, b, behind), []api.Rec{one}, len(ahead), true)
		wantRead(t, what+", ahead of records", slices.Concat(b, behind), nil, 0, true)
	}
}

func TestExamples(t *testing.T) {
	if name := wal.Name(7); name != "log.7" {
		t.Errorf("Name(7): %q", name)
	}
	wantNoNumber(t, "log.07")
	wantNoNumber(t, "log.0")
	one, two, three := rec(1, op(put, "a", "x")), rec(2, op(del, "b", "")), rec(3, op(del, "b", ""))
	first, e := wal.Bytes(one)
	second, f := wal.Bytes(two)
	third, g := wal.Bytes(three)
	if e != api.OK || f != api.OK || g != api.OK {
		t.Errorf("the errors %d, %d, %d", e, f, g)
	}
	both := slices.Concat(first, second)
	wantRead(t, "both", both, []api.Rec{one, two}, len(both), false)
	wantRead(t, "without the last byte", both[:len(both)-1], []api.Rec{one}, len(first), true)
	wantRead(t, "no 2", slices.Concat(first, third), []api.Rec{one}, len(first), true)
	wantRead(t, "nothing", nil, nil, 0, false)
}

// names are those of logs, written out.
var names = []struct {
	num  uint64
	name string
}{
	{1, "log.1"},
	{2, "log.2"},
	{7, "log.7"},
	{9, "log.9"},
	{10, "log.10"},
	{99, "log.99"},
	{100, "log.100"},
	{1002, "log.1002"},
	{2147483647, "log.2147483647"},
	{2147483648, "log.2147483648"},
	{4294967295, "log.4294967295"},
	{4294967296, "log.4294967296"},
	{9007199254740993, "log.9007199254740993"},
	{72057594037927935, "log.72057594037927935"},
	{9223372036854775807, "log.9223372036854775807"},
	{9223372036854775808, "log.9223372036854775808"},
	{10000000000000000000, "log.10000000000000000000"},
	{18446744073709551614, "log.18446744073709551614"},
	{18446744073709551615, "log.18446744073709551615"},
}

func TestP6_1Names(t *testing.T) {
	for _, n := range names {
		if got := wal.Name(n.num); got != n.name {
			t.Errorf("Name(%d): %q, want %q", n.num, got, n.name)
		}
		wantNumber(t, n.name, n.num)
	}
	if got := wal.Name(0); got != "" {
		t.Errorf("Name(0): %q", got)
	}
	wantNoNumber(t, wal.Name(0))
}

// Each name that is returned has its number, and no other.
func TestP6_1NameThenNumber(t *testing.T) {
	of := map[string]uint64{}
	for x := uint64(1); x < 3000; x++ {
		for _, num := range []uint64{x, x << 20, x << 40, x << 52, math.MaxUint64 - x} {
			name := wal.Name(num)
			wantNumber(t, name, num)
			if other, there := of[name]; there && other != num {
				t.Errorf("%d and %d have the name %q", other, num, name)
			}
			of[name] = num
		}
	}
}

func TestP6_1NoNames(t *testing.T) {
	for _, name := range []string{
		"", "l", "log", "log.", ".", "7", ".7", "og.7", "log7", "log..7", "log.7.", "log,7", "log 7", "log-7",
		"Log.7", "LOG.7", "log.7.log", "log.log.7", "xlog.7", "lof.7", "loh.7", "tab.7", "MANIFEST", "MANIFEST.tmp",
		"log.0", "log.00", "log.07", "log.007", "log.01", "log.010", "log.0000000000000000000000000000000000001",
		"log.+7", "log.-7", "log.+0", "log.-0", "log.--7", "log.+", "log.-",
		"log.7a", "log.a7", "log.a", "log.0x7", "log.0b1", "log.0o7", "log.7e2", "log.1.5", "log.1_000", "log._1", "log.1_", "log.f", "log.1,000",
		" log.7", "log. 7", "log.7 ", "log.7\n", "\nlog.7", "log.7\t", "log.7\x00", "\x00log.7", "log.\x007", "log.\xff7", "log.٧", "log.７", "log．7",
		"log.18446744073709551616", "log.18446744073709551617", "log.18446744073709551625", "log.18446744073709551715", "log.18446744073709551623",
		"log.18446744073709552615", "log.20000000000000000000", "log.28446744073709551615", "log.36893488147419103233", "log.99999999999999999999",
		"log.100000000000000000000", "log.184467440737095516150", "log.018446744073709551615", "log.340282366920938463463374607431768211457",
		"log." + strings.Repeat("1", 1000), "log." + strings.Repeat("0", 1000), "log." + strings.Repeat("0", 1000) + "7", strings.Repeat("log.", 1000) + "7",
	} {
		wantNoNumber(t, name)
	}
}

// forms are those of records, written out by hand but for their check sums.
var forms = []struct {
	r api.Rec
	b []byte
}{
	{rec(1, op(put, "a", "x")), framed([]byte{1, 1, 1, 1, 97, 1, 120})},
	{rec(2, op(del, "b", "")), framed([]byte{2, 1, 0, 1, 98})},
	{rec(1, op(put, "a", "")), framed([]byte{1, 1, 1, 1, 97, 0})},
	{rec(127, op(put, "a", "x"), op(del, "b", "")), framed([]byte{127, 2, 1, 1, 97, 1, 120, 0, 1, 98})},
	{rec(128, op(del, "\x00", "")), framed([]byte{128, 1, 1, 0, 1, 0})},
	{rec(300, op(del, "\xff\x80", ""), op(del, "\xff\x80", "")), framed([]byte{172, 2, 2, 0, 2, 255, 128, 0, 2, 255, 128})},
	{rec(16383, op(del, "b", "")), framed([]byte{255, 127, 1, 0, 1, 98})},
	{rec(16384, op(del, "b", "")), framed([]byte{128, 128, 1, 1, 0, 1, 98})},
	{rec(api.MaxSeq, op(del, "b", "")), framed([]byte{255, 255, 255, 255, 255, 255, 255, 127, 1, 0, 1, 98})},
	{rec(api.MaxSeq-1, op(del, "b", ""), op(del, "c", "")), framed([]byte{254, 255, 255, 255, 255, 255, 255, 127, 2, 0, 1, 98, 0, 1, 99})},
}

func TestP6_2Forms(t *testing.T) {
	for _, f := range forms {
		wantForm(t, f.r, f.b)
		wantRead(t, "one record", f.b, []api.Rec{f.r}, len(f.b), false)
	}
	whole := []byte{7, 0, 0, 0, 1, 1, 1, 1, 97, 1, 120, 193, 79, 152, 187}
	wantForm(t, rec(1, op(put, "a", "x")), whole)
	wantRead(t, "one record, with its check sum written out", whole, []api.Rec{rec(1, op(put, "a", "x"))}, 15, false)
}

// Any number of operations, at sequences that may be, and at those that may not.
func TestP6_2ByNumberOfOperations(t *testing.T) {
	for n := range 140 {
		ops := number(n)
		for _, first := range []uint64{0, 1, 2, 127, 128, 1 << 55, api.MaxSeq - 128, api.MaxSeq - 127, api.MaxSeq - 126, api.MaxSeq - 1, api.MaxSeq, api.MaxSeq + 1, api.MaxSeq + 2, 1 << 57, 1 << 63, math.MaxUint64 - 127, math.MaxUint64 - 1, math.MaxUint64} {
			r := rec(first, ops...)
			if n >= 1 && n <= 128 && first >= 1 && first <= api.MaxSeq && first <= api.MaxSeq+1-uint64(n) {
				wantForm(t, r, modelForm(r))
				wantRead(t, "one record", modelForm(r), []api.Rec{r}, len(modelForm(r)), false)
			} else {
				wantNoForm(t, "by its sequences or its number", r)
				wantRead(t, "by its sequences or its number", modelForm(r), nil, 0, true)
			}
		}
	}
}

// The greatest record, and what is greater by one byte, or by one operation.
func TestP6_2Greatest(t *testing.T) {
	r := rec(api.MaxSeq-127, greatest(128)...)
	wantForm(t, r, modelForm(r))
	wantRead(t, "the greatest record", modelForm(r), []api.Rec{r}, len(modelForm(r)), false)
	wantNoForm(t, "an operation too many", rec(1, greatest(129)...))
	wantNoForm(t, "very many operations", rec(1, greatest(5000)...))
	wantNoRecord(t, "an operation too many", modelForm(rec(2, greatest(129)...)))
	wantNoRecord(t, "very many operations", modelForm(rec(2, greatest(5000)...)))
}

// wrongOps are operations that are not right.
var wrongOps = []api.Op{
	{},
	op(put, "", "x"),
	op(put, "", ""),
	op(del, "", ""),
	op(put, again(65), "x"),
	op(del, again(65), ""),
	op(put, again(300), ""),
	op(put, "a", again(257)),
	op(put, "a", again(600)),
	op(2, "a", ""),
	op(255, "a", ""),
}

// One operation that is not right, anywhere.
func TestP6_2WithAWrongOperation(t *testing.T) {
	for _, o := range wrongOps {
		for _, n := range []int{1, 2, 3, 127, 128} {
			for i := range n {
				l := number(n)
				l[i] = o
				wantNoForm(t, fmt.Sprintf("%q", o), rec(2, l...))
				if n < 4 {
					wantNoRecord(t, fmt.Sprintf("%q", o), modelForm(rec(2, l...)))
				}
			}
		}
	}
	for _, o := range []api.Op{op(del, "a", "x"), op(del, "a", "\x00"), op(2, "a", "x"), op(3, "a", again(257))} {
		wantNoForm(t, fmt.Sprintf("%q", o), rec(1, o))
	}
}

func TestP6_2NoOperations(t *testing.T) {
	for _, first := range []uint64{0, 1, 2, api.MaxSeq, api.MaxSeq + 1, math.MaxUint64} {
		wantNoForm(t, "nil", api.Rec{First: first})
		wantNoForm(t, "an empty slice", api.Rec{First: first, Ops: []api.Op{}})
		wantNoRecord(t, "no operations", modelForm(api.Rec{First: first}))
	}
}

func TestP6_2ReadNothing(t *testing.T) {
	wantRead(t, "nil", nil, nil, 0, false)
	wantRead(t, "an empty slice", []byte{}, nil, 0, false)
	wantRead(t, "nothing, with a record as spare capacity", written(several(1)...)[:0], nil, 0, false)
}

// firsts are sequences from which on a log of several records may be.
var firsts = []uint64{1, 2, 100, 126, 16380, 1 << 40, api.MaxSeq - 100}

func TestP6_2ReadSeveral(t *testing.T) {
	for _, first := range firsts {
		l := several(first)
		for n := range len(l) + 1 {
			b := written(l[:n]...)
			wantRead(t, "several records", b, l[:n], len(b), false)
			b = written(l[n:]...)
			wantRead(t, "several records, the first ones gone", b, l[n:], len(b), false)
		}
	}
}

// Every prefix: cut between two records, it is not torn; within one, that one is not read.
func TestP6_3EveryPrefix(t *testing.T) {
	for _, first := range firsts {
		l := several(first)
		b := written(l...)
		n, used := 0, 0
		for cut := range b {
			if cut == used+len(modelForm(l[n])) {
				n, used = n+1, cut
			}
			wantRead(t, fmt.Sprint("the first ", cut, " bytes"), b[:cut], l[:n], used, cut > used)
			wantRead(t, fmt.Sprint("the first ", cut, " bytes, nothing to spare"), slices.Clip(b[:cut]), l[:n], used, cut > used)
		}
	}
}

// Any byte that is lost, or too many, within a record that has whole ones behind it.
func TestP6_3BytesLostAndAdded(t *testing.T) {
	l := several(1)
	b := written(l...)
	n, used := 0, 0
	for i := range b {
		if i == used+len(modelForm(l[n])) {
			n, used = n+1, i
		}
		wantRead(t, fmt.Sprint("the byte ", i, " lost"), slices.Delete(bytes.Clone(b), i, i+1), l[:n], used, true)
		for _, c := range []byte{0, 1, 255, ^b[i]} {
			// One that is the same as the byte it stands before may leave the record whole.
			if c != b[i] {
				wantRead(t, fmt.Sprint("a byte ", c, " before ", i), slices.Insert(bytes.Clone(b), i, c), l[:n], used, true)
			}
			wantRead(t, "a byte behind all", append(bytes.Clone(b), c), l, len(b), true)
		}
	}
}

// Every bit of a record, with whole records behind it.
func TestP6_3ByteChanged(t *testing.T) {
	l := several(1)[:4]
	b := written(l...)
	n, used := 0, 0
	for i := range b {
		if i == used+len(modelForm(l[n])) {
			n, used = n+1, i
		}
		for _, bits := range []byte{1, 2, 4, 8, 16, 32, 64, 128, 255} {
			b[i] ^= bits
			wantRead(t, fmt.Sprint("the bits ", bits, " of the byte ", i), b, l[:n], used, true)
			b[i] ^= bits
		}
	}
}

// A record whose sequences do not go on from those before is not one of the log, nor is any behind it.
func TestP6_2SequencesDoNotGoOn(t *testing.T) {
	for _, ops := range []int{1, 2, 5, 128} {
		for _, first := range []uint64{1, 2, 500, 1 << 50, api.MaxSeq - 1000} {
			one := rec(first, number(ops)...)
			b := written(one)
			next := first + uint64(ops)
			for _, wrong := range []uint64{0, 1, first - 1, first, first + 1, next - 2, next - 1, next + 1, next + 2, next + 128, 2 * next, next + 1<<32, api.MaxSeq - 1, api.MaxSeq} {
				if wrong == next {
					continue
				}
				for _, more := range [][]byte{written(rec(wrong, number(2)...)), written(rec(wrong, number(1)...), rec(next, number(1)...)), written(several(wrong)...)} {
					wantRead(t, fmt.Sprint(wrong, " in place of ", next), slices.Concat(b, more), []api.Rec{one}, len(b), true)
				}
			}
		}
	}
}

// Right records out of their order, or one that stands there twice, end the log.
func TestP6_2RecordsOutOfOrder(t *testing.T) {
	l := several(7)
	for i := range l {
		twice := slices.Insert(slices.Clone(l), i, l[i])
		wantRead(t, "a record twice", written(twice...), l[:i+1], len(written(l[:i+1]...)), true)
		if i > 0 {
			swapped := slices.Clone(l)
			swapped[i-1], swapped[i] = swapped[i], swapped[i-1]
			read := max(i-1, 1)
			wantRead(t, "two records swapped", written(swapped...), swapped[:read], len(written(swapped[:read]...)), true)
		}
		if i > 0 && i < len(l)-1 {
			wantRead(t, "a record missing", written(slices.Delete(slices.Clone(l), i, i+1)...), l[:i], len(written(l[:i]...)), true)
		}
	}
}

// Behind the greatest sequence there is no other one.
func TestP6_2BehindTheGreatestSequence(t *testing.T) {
	for _, n := range []int{1, 2, 128} {
		one := rec(api.MaxSeq-uint64(n)+1, number(n)...)
		b := written(one)
		for _, first := range []uint64{0, 1, api.MaxSeq - 1, api.MaxSeq, api.MaxSeq + 1, api.MaxSeq + 2} {
			wantRead(t, fmt.Sprint(first, " behind the greatest sequence"), slices.Concat(b, written(rec(first, number(1)...))), []api.Rec{one}, len(b), true)
		}
	}
	one := rec(api.MaxSeq-2, number(2)...)
	b := written(one)
	wantRead(t, "a second record that goes beyond", slices.Concat(b, written(rec(api.MaxSeq, number(2)...))), []api.Rec{one}, len(b), true)
	all := written(one, rec(api.MaxSeq, number(1)...))
	wantRead(t, "a second record with the greatest sequence", all, []api.Rec{one, rec(api.MaxSeq, number(1)...)}, len(all), false)
}

// noRecords is what may stand within a right frame, and is no record. Their sequence would go on from 1.
var noRecords = []struct {
	what   string
	within []byte
}{
	{"nothing", nil},
	{"a sequence alone", []byte{2}},
	{"a sequence and no operations", []byte{2, 0}},
	{"a number of operations alone", []byte{2, 1}},
	{"a group alone", []byte{1, 1, 1, 97, 1, 120}},
	{"no sequence's short form", []byte{130, 0, 1, 0, 1, 97}},
	{"a sequence that has no last byte", []byte{130}},
	{"the sequence 0", []byte{0, 1, 0, 1, 97}},
	{"the greatest sequence and one", []byte{128, 128, 128, 128, 128, 128, 128, 128, 1, 1, 0, 1, 97}},
	{"the sequence 2^64 - 1", []byte{255, 255, 255, 255, 255, 255, 255, 255, 255, 1, 1, 0, 1, 97}},
	{"the sequence 2^64 + 2", []byte{130, 128, 128, 128, 128, 128, 128, 128, 128, 2, 1, 0, 1, 97}},
	{"a byte behind", []byte{2, 1, 0, 1, 97, 0}},
	{"an operation behind", []byte{2, 1, 0, 1, 97, 0, 1, 97}},
	{"a record behind", []byte{2, 1, 0, 1, 97, 3, 1, 0, 1, 97}},
	{"an operation too few", []byte{2, 2, 0, 1, 97}},
	{"a byte too few", []byte{2, 1, 0, 2, 97}},
	{"no number's short form", []byte{2, 129, 0, 0, 1, 97}},
	{"no length's short form", []byte{2, 1, 0, 129, 0, 97}},
	{"a kind of 2", []byte{2, 1, 2, 1, 97, 1, 120}},
	{"a key of no byte", []byte{2, 1, 0, 0}},
	{"a delete with a value", []byte{2, 1, 0, 1, 97, 0, 0}},
	{"a put without a value", []byte{2, 1, 1, 1, 97}},
	{"129 operations", slices.Concat([]byte{2, 129, 1}, bytes.Repeat([]byte{0, 1, 97}, 129))},
	{"a frame of a record", framed([]byte{2, 1, 0, 1, 97})},
	{"as many bytes as there may be", make([]byte, api.MaxFrame)},
}

func TestP6_2NoRecordWithin(t *testing.T) {
	for _, n := range noRecords {
		wantNoRecord(t, n.what, framed(n.within))
	}
	if right := framed([]byte{2, 1, 0, 1, 97}); !bytes.Equal(right, modelForm(rec(2, op(del, "a", "")))) {
		t.Errorf("the record that these nearly are is none: %v", right)
	}
}

// What is within would be a record, and the frame is none.
func TestP6_2NoFrame(t *testing.T) {
	right := []byte{2, 1, 0, 1, 97}
	f := framed(right)
	wantNoRecord(t, "what is within alone", right)
	wantNoRecord(t, "without a number in front", f[4:])
	wantNoRecord(t, "zeros", make([]byte, 100))
	wantNoRecord(t, "bytes 255", bytes.Repeat([]byte{255}, 100))
	for n := range 4 {
		wantNoRecord(t, "zeros, fewer than a number has", make([]byte, n))
		wantNoRecord(t, "bytes 255, fewer than a number has", bytes.Repeat([]byte{255}, n))
	}
	for _, n := range []uint32{0, 1, 4, 6, 7, 13, 14, 256 + 5, 1<<16 + 5, 1 << 20, 1<<20 + 1, 1<<20 + 5, 1<<24 + 5, 1<<31 - 1, 1 << 31, 1<<31 + 5, math.MaxUint32 - 8, math.MaxUint32 - 7, math.MaxUint32 - 4, math.MaxUint32 - 3, math.MaxUint32} {
		wantNoRecord(t, fmt.Sprint("the number ", n, " in place of 5"), sealed(n, right))
	}
	long := modelForm(rec(2, greatest(128)...))
	wantNoRecord(t, "the greatest record, its last byte changed", append(bytes.Clone(long[:len(long)-1]), ^long[len(long)-1]))
	beyond := sealed(api.MaxFrame+1, make([]byte, api.MaxFrame+1))
	wantNoRecord(t, "more than a frame may have within", beyond)
}

// A log of very many records is read to its end: what a record costs must not grow with what is behind it.
func TestP6_2ReadVeryMany(t *testing.T) {
	const many = 300000
	var b []byte
	l := make([]api.Rec, many)
	for i := range l {
		l[i] = rec(uint64(i)+1, op(put, "a", "x"))
		b = append(b, modelForm(l[i])...)
	}
	wantRead(t, "very many records", b, l, len(b), false)
	b[len(b)-1]++
	wantRead(t, "very many records, the last one changed", b, l[:many-1], len(b)-len(modelForm(l[many-1])), true)
}

// The arguments and their spare capacity stay.
func TestR3ArgumentsStay(t *testing.T) {
	room := number(10)
	was := slices.Clone(room)
	for n := range room {
		wal.Bytes(rec(1, room[:n]...))
		wal.Bytes(rec(0, room[:n]...))
	}
	if !slices.Equal(room, was) {
		t.Errorf("the operations became %q", room)
	}
	b := written(several(1)...)
	whole := bytes.Clone(b)
	for n := range b {
		l, _, _ := wal.Read(b[:n])
		for _, r := range l {
			_ = append(r.Ops, op(del, "z", ""))
		}
		wantBytes(t, "the bytes and their spare capacity", b, whole)
	}
}

// What is returned shares nothing with the argument, or with another result.
func TestR3MemoryOfItsOwn(t *testing.T) {
	r := rec(1, number(3)...)
	want := modelForm(r)
	one, _ := wal.Bytes(r)
	two, _ := wal.Bytes(r)
	clear(one[:cap(one)])
	clear(r.Ops)
	wantBytes(t, "the other result", two, want)

	l := several(1)
	b := written(l...)
	first, _, _ := wal.Read(b)
	second, _, _ := wal.Read(b)
	for i := range first {
		ops := first[i].Ops
		clear(ops[:cap(ops)])
		first[i].First = 0
		clear(b)
		if !slices.EqualFunc(second, l, same) {
			t.Errorf("the other result became %s", show(second...))
		}
		if !slices.EqualFunc(first[i+1:], l[i+1:], same) {
			t.Errorf("the other records became %s", show(first...))
		}
	}
}

// R4: a call returns what it returned before, whatever was called in between, and whatever the spare capacity is.
func TestR4SameAgain(t *testing.T) {
	l := several(1)
	b := written(l...)
	for range 3 {
		for i, r := range l {
			wantForm(t, r, modelForm(r))
			wantNoForm(t, "the sequence 0", rec(0, r.Ops...))
			wantRead(t, "the last ones", written(l[i:]...), l[i:], len(written(l[i:]...)), false)
		}
		wantRead(t, "all", slices.Clip(b), l, len(b), false)
		wantRead(t, "all, with spare capacity", append(b, 1, 2, 3)[:len(b)], l, len(b), false)
		wantRead(t, "without the last byte", b[:len(b)-1], l[:len(l)-1], len(written(l[:len(l)-1]...)), true)
	}
}
