package block_test

import (
	"bytes"
	"fmt"
	"math"
	"slices"
	"strings"
	"testing"

	"ratline/api"
	"ratline/block"
)

const (
	del = api.KindDelete
	put = api.KindPut
)

func entry(key string, seq uint64, kind uint8, val string) api.Entry {
	return api.Entry{K: internal(key, seq, kind), Val: val}
}

func internal(key string, seq uint64, kind uint8) api.Ikey {
	return api.Ikey{Key: key, Seq: seq, Kind: kind}
}

// again is n times the letter k.
func again(n int) string {
	return strings.Repeat("k", n)
}

func tell(k api.Ikey) string {
	return fmt.Sprintf("%.40q %d %d", k.Key, k.Seq, k.Kind)
}

// show is how entries are told of: there may be too much of them to show.
func show(l ...api.Entry) string {
	var told []string
	for _, e := range l[:min(8, len(l))] {
		told = append(told, fmt.Sprintf("%s %.40q", tell(e.K), e.Val))
	}
	return fmt.Sprint(len(l), " entries [", strings.Join(told, "; "), "]")
}

// brief is how bytes are told of.
func brief(b []byte) string {
	if len(b) <= 80 {
		return fmt.Sprint(b)
	}
	return fmt.Sprint(b[:40], " .. ", b[len(b)-40:], " (", len(b), " bytes)")
}

func wantBytes(t *testing.T, what string, got, want []byte) {
	t.Helper()
	if !bytes.Equal(got, want) {
		t.Errorf("%s: %s, want %s", what, brief(got), brief(want))
	}
}

func wantBuilt(t *testing.T, what string, l []api.Entry, want []byte) {
	t.Helper()
	if b, e := block.Build(l); !bytes.Equal(b, want) || e != api.OK {
		t.Errorf("Build(%s), %s: %s, error %d, want %s", show(l...), what, brief(b), e, brief(want))
	}
}

// wantNoBuild is that entries are no block, and nothing else is returned.
func wantNoBuild(t *testing.T, what string, l []api.Entry) {
	t.Helper()
	if b, e := block.Build(l); len(b) > 0 || e != api.ErrBlock {
		t.Errorf("Build(%s), %s: %s, error %d, want nothing and ErrBlock", show(l...), what, brief(b), e)
	}
}

func wantParsed(t *testing.T, what string, b []byte, want []api.Entry) {
	t.Helper()
	if l, e := block.Parse(b); !slices.Equal(l, want) || e != api.OK {
		t.Errorf("Parse(%s), %s: %s, error %d, want %s", brief(b), what, show(l...), e, show(want...))
	}
}

// wantNoParse is that bytes are the form of no block, and nothing else is returned.
func wantNoParse(t *testing.T, what string, b []byte) {
	t.Helper()
	if l, e := block.Parse(b); len(l) > 0 || e != api.ErrBlock {
		t.Errorf("Parse(%s), %s: %s, error %d, want nothing and ErrBlock", brief(b), what, show(l...), e)
	}
}

func wantNoSeek(t *testing.T, what string, b []byte, k api.Ikey) {
	t.Helper()
	if got, ok, e := block.Seek(b, k); got != (api.Entry{}) || ok || e != api.ErrBlock {
		t.Errorf("Seek(%s, %s), %s: %s, %t, error %d, want nothing and ErrBlock", brief(b), tell(k), what, show(got), ok, e)
	}
}

// wantNone is that bytes are the form of no block, whatever they are asked for.
func wantNone(t *testing.T, what string, b []byte) {
	t.Helper()
	wantNoParse(t, what, b)
	for _, k := range []api.Ikey{{}, internal("a", 5, put), internal("\xff", 0, del), internal("a", math.MaxUint64, 255)} {
		wantNoSeek(t, what, b, k)
	}
}

func wantSeek(t *testing.T, b []byte, k api.Ikey, want api.Entry) {
	t.Helper()
	if got, ok, e := block.Seek(b, k); got != want || !ok || e != api.OK {
		t.Errorf("Seek(%s, %s): %s, %t, error %d, want %s", brief(b), tell(k), show(got), ok, e, show(want))
	}
}

// wantNotFound is that a block has nothing at a key or behind it.
func wantNotFound(t *testing.T, b []byte, k api.Ikey) {
	t.Helper()
	if got, ok, e := block.Seek(b, k); got != (api.Entry{}) || ok || e != api.OK {
		t.Errorf("Seek(%s, %s): %s, %t, error %d, want none", brief(b), tell(k), show(got), ok, e)
	}
}

func wantModelSeek(t *testing.T, b []byte, l []api.Entry, k api.Ikey) {
	t.Helper()
	if want, ok := modelSeek(l, k); ok {
		wantSeek(t, b, k, want)
	} else {
		wantNotFound(t, b, k)
	}
}

func TestExamples(t *testing.T) {
	l := []api.Entry{entry("a", 5, put, "x"), entry("ab", 4, del, "")}
	b := []byte{0, 1, 97, 11, 1, 120, 1, 1, 98, 8, 0, 0, 0, 0, 1, 0, 0, 0}
	wantBuilt(t, "the example", l, b)
	wantParsed(t, "the example", b, l)
	wantSeek(t, b, internal("a", 6, put), l[0])
	wantSeek(t, b, internal("a", 4, put), l[1])
	wantNotFound(t, b, internal("ab", 3, put))
	wantNoBuild(t, "no entries", nil)
	wantNone(t, "the shared length is not the right one", []byte{0, 1, 97, 11, 1, 120, 0, 2, 97, 98, 8, 0, 0, 0, 0, 1, 0, 0, 0})
}

// forms are those of blocks, written out by hand.
var forms = []struct {
	what string
	l    []api.Entry
	b    []byte
}{
	{"one put", []api.Entry{entry("a", 5, put, "x")}, []byte{0, 1, 97, 11, 1, 120, 0, 0, 0, 0, 1, 0, 0, 0}},
	{"one delete", []api.Entry{entry("a", 0, del, "")}, []byte{0, 1, 97, 0, 0, 0, 0, 0, 1, 0, 0, 0}},
	{"a put without a value", []api.Entry{entry("\x00", 0, put, "")}, []byte{0, 1, 0, 1, 0, 0, 0, 0, 0, 1, 0, 0, 0}},
	{"a put and a delete of one sequence", []api.Entry{entry("a", 64, put, "xy"), entry("a", 64, del, "")},
		[]byte{0, 1, 97, 129, 1, 2, 120, 121, 1, 0, 128, 1, 0, 0, 0, 0, 1, 0, 0, 0}},
	{"the greatest sequence", []api.Entry{entry("a", api.MaxSeq, put, ""), entry("a", api.MaxSeq, del, "")},
		[]byte{0, 1, 97, 255, 255, 255, 255, 255, 255, 255, 255, 1, 0, 1, 0, 254, 255, 255, 255, 255, 255, 255, 255, 1, 0, 0, 0, 0, 1, 0, 0, 0}},
	{"nothing in common", []api.Entry{entry("ab", 1, del, ""), entry("bb", 2, del, ""), entry("cb", 3, del, "")},
		[]byte{0, 2, 97, 98, 2, 0, 2, 98, 98, 4, 0, 2, 99, 98, 6, 0, 0, 0, 0, 1, 0, 0, 0}},
	{"more in common with the one before the one before", []api.Entry{entry("abc", 1, del, ""), entry("abcd", 1, del, ""), entry("abd", 1, del, "")},
		[]byte{0, 3, 97, 98, 99, 2, 3, 1, 100, 2, 2, 1, 100, 2, 0, 0, 0, 0, 1, 0, 0, 0}},
	{"two restarts", []api.Entry{entry("a", 1, put, "x"), entry("a", 0, del, ""), entry("aa", 1, del, ""), entry("ab", 1, del, ""), entry("abc", 1, del, ""), entry("abd", 1, del, "")},
		[]byte{0, 1, 97, 3, 1, 120, 1, 0, 0, 1, 1, 97, 2, 1, 1, 98, 2, 0, 3, 97, 98, 99, 2, 2, 1, 100, 2, 0, 0, 0, 0, 17, 0, 0, 0, 2, 0, 0, 0}},
	{"three restarts, one user key", []api.Entry{entry("k", 8, del, ""), entry("k", 7, del, ""), entry("k", 6, del, ""), entry("k", 5, del, ""),
		entry("k", 4, del, ""), entry("k", 3, del, ""), entry("k", 2, del, ""), entry("k", 1, del, ""), entry("k", 0, del, "")},
		[]byte{0, 1, 107, 16, 1, 0, 14, 1, 0, 12, 1, 0, 10, 0, 1, 107, 8, 1, 0, 6, 1, 0, 4, 1, 0, 2, 0, 1, 107, 0,
			0, 0, 0, 0, 13, 0, 0, 0, 26, 0, 0, 0, 3, 0, 0, 0}},
}

func TestP7_1Forms(t *testing.T) {
	for _, f := range forms {
		wantBuilt(t, f.what, f.l, f.b)
		wantParsed(t, f.what, f.b, f.l)
		for _, e := range f.l {
			wantSeek(t, f.b, e.K, e)
		}
	}
}

// many is n entries, puts and deletes, of keys by that function.
func many(n int, key func(i int) string) []api.Entry {
	l := make([]api.Entry, n)
	for i := range l {
		l[i] = entry(key(i), uint64(1000-i), put, fmt.Sprint(i))
		if i%3 == 1 {
			l[i] = entry(key(i), uint64(1000-i), del, "")
		}
	}
	return l
}

// sorts are sorts of blocks, each of any number of entries.
var sorts = []struct {
	what string
	of   func(n int) []api.Entry
}{
	{"one user key", func(n int) []api.Entry {
		return many(n, func(int) string { return "one" })
	}},
	{"one user key of one byte", func(n int) []api.Entry {
		return many(n, func(int) string { return "k" })
	}},
	{"one user key of 64 bytes", func(n int) []api.Entry {
		return many(n, func(int) string { return again(64) })
	}},
	{"user keys each a beginning of the next", func(n int) []api.Entry {
		return many(n, func(i int) string { return again(i + 1) })
	}},
	{"user keys with nothing in common", func(n int) []api.Entry {
		return many(n, func(i int) string { return string([]byte{byte(3 * i), 'x', 'y'}) })
	}},
	{"user keys of one byte", func(n int) []api.Entry {
		return many(n, func(i int) string { return string([]byte{byte(i)}) })
	}},
	{"user keys of 64 bytes that differ in the last", func(n int) []api.Entry {
		return many(n, func(i int) string { return again(63) + string([]byte{byte(3 * i)}) })
	}},
	{"user keys of 64 bytes that differ in the first", func(n int) []api.Entry {
		return many(n, func(i int) string { return string([]byte{byte(3 * i)}) + again(63) })
	}},
	{"user keys that get shorter", func(n int) []api.Entry {
		return many(n, func(i int) string { return again(max(63-i, 0)) + "l" })
	}},
	{"puts and deletes of one sequence", func(n int) []api.Entry {
		l := many(n, func(i int) string { return fmt.Sprintf("%c", 'A'+i/2) })
		for i := range l {
			l[i].K.Seq, l[i].K.Kind, l[i].Val = 7, uint8(1-i%2), ""
		}
		return l
	}},
	{"the least and the greatest sequence, the least and the greatest value", func(n int) []api.Entry {
		l := many(n, func(i int) string { return fmt.Sprintf("%c", 'A'+i) })
		for i := range l {
			l[i].K.Seq = []uint64{0, api.MaxSeq}[i%2]
			l[i].K.Kind = put
			l[i].Val = []string{"", again(256), again(255)}[i%3]
		}
		return l
	}},
	{"as many bytes as there may be", func(n int) []api.Entry {
		l := many(n, func(i int) string { return string([]byte{byte(3 * i)}) + again(63) })
		for i := range l {
			l[i].K.Seq, l[i].K.Kind, l[i].Val = api.MaxSeq, put, again(256)
		}
		return l
	}},
	{"bytes of user keys that are no letters", func(n int) []api.Entry {
		return many(n, func(i int) string { return "\x00\xff\x80" + string([]byte{byte(2 * i), 0}) })
	}},
}

func TestP7_1ByNumberOfEntries(t *testing.T) {
	for _, s := range sorts {
		for n := range 80 {
			if got, want := holdBuild(t, s.of(n)), n >= 1 && n <= 64; got != want {
				t.Errorf("%s, %d of them: by the model a block: %t", s.what, n, got)
			}
		}
	}
}

// The numbers of entries at which restarts come, or do not: how many there are, and that each shares nothing.
func TestP7_1Restarts(t *testing.T) {
	for n, count := range map[int]int{1: 1, 2: 1, 3: 1, 4: 1, 5: 2, 7: 2, 8: 2, 9: 3, 12: 3, 13: 4, 60: 15, 61: 16, 63: 16, 64: 16} {
		l := make([]api.Entry, n)
		for i := range l {
			l[i] = entry("one", uint64(n-i), del, "")
		}
		b, e := block.Build(l)
		if e != api.OK || len(b) < 4+4*count || b[len(b)-4] != byte(count) {
			t.Errorf("%d entries: %s, error %d, want %d restarts", n, brief(b), e, count)
			continue
		}
		positions := b[len(b)-4-4*count : len(b)-4]
		for i := range count {
			// Below 64 the numbers have one byte, so that a restart has 6 bytes, and any other entry 3.
			at := min(i, 1) * (6 + 3*3) * i
			if n < 64 {
				wantBytes(t, fmt.Sprint("the position of the restart ", i), positions[4*i:4*i+4], []byte{byte(at), 0, 0, 0})
				wantBytes(t, fmt.Sprint("the restart ", i), b[at:at+5], []byte{0, 3, 'o', 'n', 'e'})
			}
		}
	}
}

// wrongEntries are entries that are not right.
var wrongEntries = []api.Entry{
	{},
	entry("", 5, put, "x"),
	entry("", 5, del, ""),
	entry(again(65), 5, put, "x"),
	entry(again(65), 5, del, ""),
	entry(again(400), 5, put, ""),
	entry("k", 5, put, again(257)),
	entry("k", 5, put, again(70000)),
	entry("k", api.MaxSeq+1, put, "x"),
	entry("k", api.MaxSeq+1, del, ""),
	entry("k", 1<<62, put, "x"),
	entry("k", 1<<63-1, del, ""),
}

// One entry that is not right, anywhere, neither built nor parsed.
func TestP7_1WithAWrongEntry(t *testing.T) {
	for _, wrong := range wrongEntries {
		for _, n := range []int{1, 2, 5, 64} {
			for i := range n {
				l := many(n, func(i int) string { return again(i/2 + 1) })
				l[i] = wrong
				wantNoBuild(t, show(wrong), l)
				wantNone(t, show(wrong), modelForm(l))
				slices.SortFunc(l, byRank)
				wantNoBuild(t, show(wrong)+", in its place", l)
				wantNone(t, show(wrong)+", in its place", modelForm(l))
			}
		}
	}
}

// These have no form at all: of one that is not right by its kind, or of a delete with a value, the form would be that of another one.
func TestP7_1BuildWithAWrongKindOrValue(t *testing.T) {
	for _, wrong := range []api.Entry{
		entry("k", 5, 2, ""), entry("k", 5, 3, "x"), entry("k", 5, 128, ""), entry("k", 5, 255, ""), entry("k", 0, 2, ""),
		entry("k", 5, del, "x"), entry("k", 5, del, "\x00"), entry("k", 5, del, again(256)), entry("k", 5, del, again(257)),
		entry("k", 1<<63, put, ""), entry("k", 1<<63, del, ""), entry("k", 1<<63+5, put, "x"), entry("k", math.MaxUint64, del, ""), entry("k", math.MaxUint64, put, "x"),
	} {
		wantNoBuild(t, show(wrong), []api.Entry{wrong})
		wantNoBuild(t, show(wrong), []api.Entry{entry("a", 5, put, "x"), wrong})
		wantNoBuild(t, show(wrong), []api.Entry{wrong, entry("l", 5, put, "x")})
		for i := range 64 {
			l := many(64, func(i int) string { return "k" })
			l[i] = wrong
			wantNoBuild(t, show(wrong), l)
		}
	}
}

func TestP7_1NoEntries(t *testing.T) {
	wantNoBuild(t, "nil", nil)
	wantNoBuild(t, "an empty slice", []api.Entry{})
	for _, b := range [][]byte{nil, {}, {0}, {0, 0, 0}, tail(0), tail(0, 0), tail(1), tail(1, 0), tail(2, 0, 0), tail(1, 0, 0), make([]byte, 100)} {
		wantNone(t, "no entries", b)
	}
}

func TestP7_1TooManyEntries(t *testing.T) {
	for _, n := range []int{65, 66, 68, 69, 128, 1000, 20000} {
		l := make([]api.Entry, n)
		for i := range l {
			l[i] = entry("k", uint64(n-i), del, "")
		}
		wantNoBuild(t, "too many", l)
		wantNone(t, "too many", modelForm(l))
	}
}

// In each sort of block, two entries that are swapped, and one that stands there twice.
func TestP7_1OutOfOrder(t *testing.T) {
	for _, n := range []int{2, 3, 4, 5, 8, 9, 64} {
		for _, s := range sorts {
			right := s.of(n)
			for i := range n - 1 {
				for _, j := range []int{i + 1, n - 1} {
					l := slices.Clone(right)
					l[i], l[j] = l[j], l[i]
					wantNoBuild(t, s.what+", swapped", l)
					wantNoParse(t, s.what+", swapped", modelForm(l))
				}
				l := slices.Clone(right)
				l[i+1] = l[i]
				wantNoBuild(t, s.what+", twice the same", l)
				wantNoParse(t, s.what+", twice the same", modelForm(l))
				l[i+1].K.Seq++
				wantNoBuild(t, s.what+", a greater sequence behind", l)
				wantNoParse(t, s.what+", a greater sequence behind", modelForm(l))
			}
		}
	}
	for _, l := range [][]api.Entry{
		{entry("a", 5, put, "x"), entry("a", 5, put, "x")},
		{entry("a", 5, put, "x"), entry("a", 5, put, "y")},
		{entry("a", 5, del, ""), entry("a", 5, put, "x")},
		{entry("a", 4, put, ""), entry("a", 5, put, "")},
		{entry("b", 5, put, ""), entry("a", 6, put, "")},
		{entry("ab", 5, put, ""), entry("a", 6, put, "")},
		{entry("\xff", 5, put, ""), entry("\x00", 6, put, "")},
		{entry("\x80", 5, put, ""), entry("\x7f", 6, put, "")},
	} {
		wantNoBuild(t, "out of order", l)
		wantNone(t, "out of order", modelForm(l))
	}
}

// blocks are a few of each sort.
func blocks() [][]api.Entry {
	var all [][]api.Entry
	for _, s := range sorts {
		for _, n := range []int{1, 3, 4, 5, 8, 9, 26} {
			all = append(all, s.of(n))
		}
	}
	return all
}

func TestP7_1EveryPrefix(t *testing.T) {
	for _, l := range append(blocks(), sorts[0].of(64)) {
		b := modelForm(l)
		for n := range b {
			wantNoParse(t, fmt.Sprint("the first ", n, " bytes"), b[:n])
			wantNoParse(t, fmt.Sprint("the first ", n, " bytes, nothing to spare"), slices.Clip(b[:n]))
		}
		wantParsed(t, "all", b, l)
	}
}

// A byte behind a block, or several, whatever they are, and bytes ahead of it; also of the fullest blocks, behind which nothing more is an entry.
func TestP7_1BytesBehind(t *testing.T) {
	all := blocks()
	for _, s := range sorts {
		all = append(all, s.of(64))
	}
	for _, l := range all {
		b := modelForm(l)
		for c := range 256 {
			wantNoParse(t, fmt.Sprint("a byte ", c, " behind"), append(bytes.Clone(b), byte(c)))
		}
		wantNone(t, "twice the block", slices.Concat(b, b))
		wantNone(t, "zeros behind", append(bytes.Clone(b), make([]byte, 4)...))
		wantNone(t, "zeros ahead", append(make([]byte, 4), b...))
		wantNone(t, "the number of restarts twice", append(bytes.Clone(b), b[len(b)-4:]...))
	}
}

// A byte too many, one too few, and another one, anywhere: it may be another block, as the model tells.
func TestP7_1BytesWithin(t *testing.T) {
	for _, f := range forms {
		for i := range f.b {
			holdParse(t, slices.Delete(bytes.Clone(f.b), i, i+1))
			for c := range 256 {
				holdParse(t, slices.Insert(bytes.Clone(f.b), i, byte(c)))
				other := bytes.Clone(f.b)
				other[i] = byte(c)
				holdParse(t, other)
			}
		}
	}
}

// A byte more in the midst of this block: with none of these it is another one.
func TestP7_1ByteInTheMidst(t *testing.T) {
	b := modelForm([]api.Entry{entry("b", 5, del, ""), entry("bc", 4, del, ""), entry("bd", 3, del, ""), entry("c", 1, del, ""), entry("ca", 1, del, ""), entry("cb", 1, del, "")})
	for i := range b {
		for _, c := range []byte{0, 1, 2, 255} {
			wantNone(t, fmt.Sprint("a byte ", c, " before ", i), slices.Insert(bytes.Clone(b), i, c))
		}
	}
}

// withShared is the form of a block, of which one entry has that shared length, and as the rest of its user key what is behind.
func withShared(l []api.Entry, i, shared int) []byte {
	all := partsOf(l)
	all[i].shared, all[i].rest = uint64(shared), l[i].K.Key[shared:]
	return finished(joined(all))
}

// Of each entry, shared lengths that are smaller than the longest common prefix, and, of a restart, any but 0.
func TestP7_1SharedLengthOtherThanItIs(t *testing.T) {
	tried := 0
	for _, l := range append(blocks(), sorts[3].of(64)) {
		for i := 1; i < len(l); i++ {
			for shared := range prefix(l[i-1].K.Key, l[i].K.Key) + 1 {
				b := withShared(l, i, shared)
				if bytes.Equal(b, modelForm(l)) {
					wantParsed(t, "the right shared length", b, l)
					continue
				}
				tried++
				wantNoParse(t, fmt.Sprint("the shared length ", shared, " of the entry ", i), b)
			}
		}
	}
	if tried < 1000 {
		t.Errorf("only %d were tried", tried)
	}
}

// Shared lengths that are greater than the user key of the entry before, with any rest, and of the first entry any but 0.
func TestP7_1SharedLengthGreater(t *testing.T) {
	for _, l := range blocks() {
		for i := range l {
			least := 1
			if i > 0 {
				least = len(l[i-1].K.Key) + 1
			}
			for _, shared := range []uint64{uint64(least), uint64(least) + 1, 65, 128, 1 << 31, 1 << 32, 1<<32 + 1, 1<<63 - 1, 1 << 63, math.MaxUint64 - 1, math.MaxUint64} {
				for _, rest := range []string{"", "z", l[i].K.Key} {
					all := partsOf(l)
					all[i].shared, all[i].rest = shared, rest
					wantNoParse(t, fmt.Sprint("the shared length ", shared, " of the entry ", i), finished(joined(all)))
				}
			}
		}
	}
	wantNone(t, "a shared length that differs from a right one by 2^64", []byte{0, 1, 97, 2, 129, 128, 128, 128, 128, 128, 128, 128, 128, 2, 1, 98, 2, 0, 0, 0, 0, 1, 0, 0, 0})
}

// A user key that is right by its shared length and its rest each, and is too long by both, or is empty by both.
func TestP7_1UserKeyTooLongByItsParts(t *testing.T) {
	first := parts{0, again(64), 2, false, ""}
	wantParsed(t, "64 bytes", finished(joined([]parts{first, {63, "l", 2, false, ""}})), []api.Entry{entry(again(64), 1, del, ""), entry(again(63)+"l", 1, del, "")})
	for _, rest := range []string{"l", "ll", again(64), again(65), again(300)} {
		wantNone(t, "more than 64 bytes", finished(joined([]parts{first, {64, rest, 2, false, ""}})))
	}
	wantNone(t, "65 bytes, with a beginning that is another", finished(joined([]parts{first, {63, "ll", 2, false, ""}})))
	wantNone(t, "no byte", finished(joined([]parts{first, {0, "", 2, false, ""}})))
	wantNone(t, "no byte at all", finished(joined([]parts{{0, "", 2, false, ""}})))
}

// Numbers of restarts, and positions, that are not the right ones.
func TestP7_1WrongRestarts(t *testing.T) {
	for _, l := range append(blocks(), sorts[0].of(64)) {
		b, at := joined(partsOf(l))
		count := uint32(len(at))
		with := func(what string, count uint32, at ...uint32) {
			t.Helper()
			wantNoParse(t, what, slices.Concat(b, tail(count, at...)))
		}
		for _, other := range []uint32{0, count - 1, count + 1, count + 2, 16, 17, uint32(len(b)), uint32(len(b)) / 4, count << 8, count << 24, 1 << 30, 1<<30 - 1, 1<<30 + count, 1 << 31, math.MaxUint32 - 1, math.MaxUint32} {
			if other != count {
				with(fmt.Sprint("the number ", other, " of restarts"), other, at...)
			}
		}
		with("a restart too few", count-1, at[:count-1]...)
		with("the first restart missing", count-1, at[1:]...)
		with("no restarts", 0)
		with("the end as a restart", count+1, append(slices.Clone(at), uint32(len(b)))...)
		with("0 as a restart too many", count+1, append([]uint32{0}, at...)...)
		with("the last restart twice", count+1, append(slices.Clone(at), at[count-1])...)
		for i := range at {
			for _, other := range []uint32{at[i] - 1, at[i] + 1, at[i] + 4, at[i] + 256, at[i] + 1<<31, math.MaxUint32, uint32(len(b)), uint32(i) + 1, at[(i+1)%len(at)]} {
				if other != at[i] {
					changed := slices.Clone(at)
					changed[i] = other
					with(fmt.Sprint("the position ", other, " of the restart ", i), count, changed...)
				}
			}
		}
	}
}

// A restart where there is none, and none where there is one: each third, or each fifth, entry is a restart.
func TestP7_1RestartsAtOtherEntries(t *testing.T) {
	for _, every := range []int{1, 2, 3, 5, 8} {
		l := sorts[0].of(12)
		var b []byte
		var at []uint32
		for i, e := range l {
			p := parts{3, "", 2*e.K.Seq + uint64(e.K.Kind), e.K.Kind == put, e.Val}
			if i%every == 0 {
				p.shared, p.rest = 0, "one"
				at = append(at, uint32(len(b)))
			}
			b = append(b, p.form()...)
		}
		wantNone(t, fmt.Sprint("a restart each ", every, " entries"), finished(b, at))
	}
}

// longer is a number's form that is not short: each byte but the last has 128 more, and the last ones are 0.
func longer(x uint64, more int) []byte {
	b := short(x)
	b[len(b)-1] += 128
	return append(append(b, bytes.Repeat([]byte{128}, more-1)...), 0)
}

// Each number of each entry, in a form that is not short. All else is as it must be, the positions too.
func TestP7_1NumbersNotShort(t *testing.T) {
	for _, l := range blocks() {
		all := partsOf(l)
		for i, p := range all {
			for _, more := range []int{1, 2, 9} {
				for part := range 4 {
					one := [][]byte{short(p.shared), short(uint64(len(p.rest))), short(p.number), short(uint64(len(p.val)))}
					one[part] = longer([]uint64{p.shared, uint64(len(p.rest)), p.number, uint64(len(p.val))}[part], more)
					if part == 3 && !p.valued {
						continue
					}
					odd := slices.Concat(one[0], one[1], []byte(p.rest), one[2])
					if p.valued {
						odd = slices.Concat(odd, one[3], []byte(p.val))
					}
					wantNoParse(t, fmt.Sprint("the number ", part, " of the entry ", i), replaced(all, i, odd))
				}
			}
		}
	}
}

// replaced is the form of a block in which one entry has other bytes.
func replaced(all []parts, i int, bytesOf []byte) []byte {
	var b []byte
	var at []uint32
	for j, p := range all {
		if j%4 == 0 {
			at = append(at, uint32(len(b)))
		}
		if j == i {
			b = append(b, bytesOf...)
		} else {
			b = append(b, p.form()...)
		}
	}
	return finished(b, at)
}

// Numbers beyond what 2 * Seq + Kind may be: even those of a delete, odd those of a put.
func TestP7_1NumberOfAKeyTooGreat(t *testing.T) {
	for _, l := range [][]api.Entry{
		{entry("a", 5, put, "x")},
		{entry("a", 5, del, "")},
		{entry("a", 5, del, ""), entry("b", 5, put, "x"), entry("c", 5, del, "")},
		many(9, func(i int) string { return again(i + 1) }),
	} {
		for i := range l {
			with := func(x uint64) []byte {
				all := partsOf(l)
				all[i].number, all[i].valued, all[i].val = x, x%2 == 1, ""
				return finished(joined(all))
			}
			for _, x := range []uint64{2 * api.MaxSeq, 2*api.MaxSeq + 1} {
				right := slices.Clone(l)
				right[i] = entry(l[i].K.Key, api.MaxSeq, uint8(x%2), "")
				wantParsed(t, "the greatest sequence", with(x), right)
			}
			for _, x := range []uint64{2*api.MaxSeq + 2, 2*api.MaxSeq + 3, 1<<57 + 11, 1<<58 - 1, 1 << 62, 1<<63 - 1, 1 << 63, 1<<63 + 11, math.MaxUint64 - 1, math.MaxUint64} {
				wantNone(t, fmt.Sprint("the number ", x), with(x))
			}
		}
	}
	wantNone(t, "the number 2^64 and 10", []byte{0, 1, 97, 138, 128, 128, 128, 128, 128, 128, 128, 128, 2, 0, 0, 0, 0, 1, 0, 0, 0})
	wantNone(t, "the number 2^70", []byte{0, 1, 97, 128, 128, 128, 128, 128, 128, 128, 128, 128, 128, 1, 0, 0, 0, 0, 1, 0, 0, 0})
}

// A delete with a value, also an empty one, and a put without one.
func TestP7_1ValuesWhereTheyMayNotBe(t *testing.T) {
	l := []api.Entry{entry("a", 5, put, ""), entry("b", 5, del, ""), entry("bb", 5, put, "xy"), entry("c", 5, del, ""), entry("ca", 3, del, ""), entry("cb", 3, put, "z")}
	for n := 1; n <= len(l); n++ {
		for i := range n {
			for _, val := range []string{"", "x", "\x00", "\x01\x01", again(256)} {
				all := partsOf(l[:n])
				all[i].valued, all[i].val = l[i].K.Kind == del, val
				wantNone(t, fmt.Sprintf("the entry %d of %d with no value, or with %.9q", i, n, val), finished(joined(all)))
			}
		}
	}
	for _, val := range []string{again(257), again(300), again(70000)} {
		wantNone(t, "a value too long", finished(joined([]parts{{0, "a", 11, true, val}})))
	}
	wantNone(t, "a value whose length is beyond the end", []byte{0, 1, 97, 11, 9, 120, 0, 0, 0, 0, 1, 0, 0, 0})
	wantNone(t, "a value whose length no int holds", slices.Concat([]byte{0, 1, 97, 11, 255, 255, 255, 255, 255, 255, 255, 255, 255, 1, 120}, tail(1, 0)))
	wantNone(t, "a user key whose length no int holds", slices.Concat([]byte{0, 255, 255, 255, 255, 255, 255, 255, 255, 255, 1, 97, 10}, tail(1, 0)))
	wantNone(t, "a value of the positions", []byte{0, 1, 97, 11, 4, 0, 0, 0, 0, 1, 0, 0, 0})
}

// Very long bytes are no block, and are not gone through.
func TestP7_1VeryLong(t *testing.T) {
	one := finished(joined([]parts{{0, "k", 2000, false, ""}}))
	for _, b := range [][]byte{
		make([]byte, 1<<24),
		bytes.Repeat([]byte{255}, 1<<24),
		append(make([]byte, 1<<24), one...),
		slices.Concat(one, make([]byte, 1<<24), tail(1, 0)),
		bytes.Repeat(one, 1<<20),
		slices.Concat(bytes.Repeat([]byte{1, 0, 2}, 1<<22), tail(1, 0)),
		slices.Concat(make([]byte, 1<<24), tail(1<<22)),
	} {
		for range 20 {
			wantNoParse(t, "very long", b)
		}
	}
}

// asked is keys to be sought in a block: those of its entries, those right beside them, those before and behind all, and those that are not right.
func asked(l []api.Entry) []api.Ikey {
	var all []api.Ikey
	for _, key := range []string{"", "\x00", "\xff", again(32), again(64), again(65), again(300), strings.Repeat("\xff", 65)} {
		for _, seq := range []uint64{0, 5, api.MaxSeq, api.MaxSeq + 1, math.MaxUint64} {
			for _, kind := range []uint8{0, 1, 2, 255} {
				all = append(all, internal(key, seq, kind))
			}
		}
	}
	for _, e := range l {
		k := e.K
		for _, key := range []string{k.Key, k.Key + "\x00", k.Key[:len(k.Key)-1], k.Key[:len(k.Key)-1] + string([]byte{k.Key[len(k.Key)-1] + 1}), k.Key + "\xff"} {
			for _, seq := range []uint64{k.Seq, k.Seq - 1, k.Seq + 1, 0, math.MaxUint64} {
				for _, kind := range []uint8{k.Kind, 1 - k.Kind, 2, 255} {
					all = append(all, internal(key, seq, kind))
				}
			}
		}
	}
	return all
}

func TestP7_2Seek(t *testing.T) {
	for _, l := range blocks() {
		b := modelForm(l)
		for _, k := range asked(l) {
			wantModelSeek(t, b, l, k)
		}
	}
}

// Of the fullest blocks, each entry by its own key, and by one between it and that before.
func TestP7_2SeekInAFullBlock(t *testing.T) {
	for _, s := range sorts {
		l := s.of(64)
		b := modelForm(l)
		for i, e := range l {
			wantSeek(t, b, e.K, e)
			above := e.K
			above.Kind++
			if above.Kind == put && i > 0 && l[i-1].K == above {
				continue // it is the one before
			}
			wantSeek(t, b, above, e)
		}
		last := l[len(l)-1].K
		wantSeek(t, b, api.Ikey{}, l[0])
		wantNotFound(t, b, internal(last.Key+"\x00", math.MaxUint64, 255))
		wantNotFound(t, b, internal("\xff"+last.Key, api.MaxSeq, put))
	}
}

// Before all, behind all, between two, written out.
func TestP7_2SeekByHand(t *testing.T) {
	l := []api.Entry{entry("b", 9, put, "1"), entry("b", 9, del, ""), entry("b", 3, put, "2"), entry("bb", 7, del, ""), entry("d", 0, put, "3"), entry("d", 0, del, "")}
	b := modelForm(l)
	for at, keys := range [][]api.Ikey{
		{{}, internal("", 0, 0), internal("a", 0, del), internal("b", 10, del), internal("b", 9, 2), internal("b", 9, put), internal("b", api.MaxSeq, put), internal("b", math.MaxUint64, 255)},
		{internal("b", 9, del)},
		{internal("b", 8, put), internal("b", 4, del), internal("b", 3, 255), internal("b", 3, put)},
		{internal("b", 3, del), internal("b", 2, put), internal("b", 0, del), internal("b\x00", 5, put), internal("ba", 99, put), internal("bb", 8, put), internal("bb", 7, put), internal("bb", 7, del)},
		{internal("bb", 6, put), internal("bb", 0, del), internal("bc", 1, put), internal("c", 1, put), internal("d", 1, del), internal("d", 0, 2), internal("d", 0, put), internal("b"+again(300), 1, put)},
		{internal("d", 0, del)},
	} {
		for _, k := range keys {
			wantSeek(t, b, k, l[at])
		}
	}
	for _, k := range []api.Ikey{internal("d\x00", math.MaxUint64, 255), internal("e", 5, put), internal("\xff", 0, del), internal("d"+again(300), 5, put)} {
		wantNotFound(t, b, k)
	}
}

// P7.2: the error of Parse, also where the key would be found ahead of what is wrong.
func TestP7_2SeekOfNoBlock(t *testing.T) {
	for _, l := range blocks() {
		b := modelForm(l)
		for _, e := range []api.Entry{l[0], l[len(l)-1]} {
			wantNoSeek(t, "without the last byte", b[:len(b)-1], e.K)
			wantNoSeek(t, "a byte behind", append(bytes.Clone(b), 0), e.K)
			other := bytes.Clone(b)
			other[len(b)-5]++
			wantNoSeek(t, "another position", other, e.K)
			wantNoSeek(t, "nothing", nil, e.K)
		}
	}
}

// The arguments and their spare capacity stay.
func TestR3ArgumentsStay(t *testing.T) {
	room := sorts[3].of(20)
	was := slices.Clone(room)
	for n := range room {
		block.Build(room[:n])
	}
	if !slices.Equal(room, was) {
		t.Errorf("the entries became %s", show(room...))
	}
	b := append(modelForm(was), 7, 7, 7)
	whole := bytes.Clone(b)
	for n := range b {
		l, _ := block.Parse(b[:n])
		_ = append(l, entry("z", 1, put, ""))
		block.Seek(b[:n], was[4].K)
		wantBytes(t, "the bytes and their spare capacity", b, whole)
	}
}

// What is returned shares nothing with the argument, or with another result.
func TestR3MemoryOfItsOwn(t *testing.T) {
	l := sorts[3].of(20)
	was := slices.Clone(l)
	one, _ := block.Build(l)
	two, _ := block.Build(l)
	want := bytes.Clone(one)
	clear(one[:cap(one)])
	clear(l)
	wantBytes(t, "the other result", two, want)

	first, _ := block.Parse(two)
	second, _ := block.Parse(two)
	found, ok, e := block.Seek(two, was[7].K)
	clear(first[:cap(first)])
	clear(two)
	if !slices.Equal(second, was) {
		t.Errorf("the other result became %s", show(second...))
	}
	if found != was[7] || !ok || e != api.OK {
		t.Errorf("what was found became %s", show(found))
	}
}

// R4: a call returns what it returned before, whatever was called in between, and whatever the spare capacity is.
func TestR4SameAgain(t *testing.T) {
	for range 3 {
		for _, l := range blocks() {
			b := modelForm(l)
			wantBuilt(t, "again", l, b)
			wantNoBuild(t, "again, too many", slices.Repeat(l, 65))
			wantParsed(t, "nothing to spare", slices.Clip(b), l)
			wantParsed(t, "with spare capacity", append(b, 1, 2, 3)[:len(b)], l)
			wantNoParse(t, "without the last byte", b[:len(b)-1])
			wantSeek(t, b, l[0].K, l[0])
		}
	}
}
