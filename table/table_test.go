package table_test

import (
	"bytes"
	"fmt"
	"math"
	"math/rand"
	"slices"
	"strings"
	"testing"

	"ratline/api"
	"ratline/table"
)

const (
	del = api.KindDelete
	put = api.KindPut
)

func entry(key string, seq uint64, kind uint8, val string) api.Entry {
	return api.Entry{K: internal(key, seq, kind), Val: val}
}

func internal(key string, seq uint64, kind uint8) api.Ikey {
	return api.Ikey{Key: key, Seq: seq, Kind: kind}
}

// again is n times the letter k.
func again(n int) string {
	return strings.Repeat("k", n)
}

func tell(k api.Ikey) string {
	return fmt.Sprintf("%.40q %d %d", k.Key, k.Seq, k.Kind)
}

// show is how entries are told of: there may be too much of them to show.
func show(l ...api.Entry) string {
	var told []string
	for _, e := range l[:min(8, len(l))] {
		told = append(told, fmt.Sprintf("%s %.40q", tell(e.K), e.Val))
	}
	return fmt.Sprint(len(l), " entries [", strings.Join(told, "; "), "]")
}

func showMeta(m api.Meta) string {
	return fmt.Sprintf("{%d %d %q %q}", m.Num, m.Size, m.Least, m.Most)
}

// brief is how bytes are told of.
func brief(b []byte) string {
	if len(b) <= 80 {
		return fmt.Sprint(b)
	}
	return fmt.Sprint(b[:40], " .. ", b[len(b)-40:], " (", len(b), " bytes)")
}

func wantBytes(t *testing.T, what string, got, want []byte) {
	t.Helper()
	if !bytes.Equal(got, want) {
		t.Errorf("%s: %s, want %s", what, brief(got), brief(want))
	}
}

func wantNumber(t *testing.T, name string, want uint64) {
	t.Helper()
	if num, ok := table.Number(name); num != want || !ok {
		t.Errorf("Number(%q): %d, %t, want %d", name, num, ok, want)
	}
}

func wantNoNumber(t *testing.T, name string) {
	t.Helper()
	if num, ok := table.Number(name); num != 0 || ok {
		t.Errorf("Number(%q): %d, %t, want none", name, num, ok)
	}
}

func wantBuilt(t *testing.T, what string, l []api.Entry, want []byte) {
	t.Helper()
	if b, e := table.Build(l); !bytes.Equal(b, want) || e != api.OK {
		t.Errorf("Build(%s), %s: %s, error %d, want %s", show(l...), what, brief(b), e, brief(want))
	}
}

// wantNoBuild is that entries are no table, and nothing else is returned.
func wantNoBuild(t *testing.T, what string, l []api.Entry) {
	t.Helper()
	if b, e := table.Build(l); len(b) > 0 || e != api.ErrTable {
		t.Errorf("Build(%s), %s: %s, error %d, want nothing and ErrTable", show(l...), what, brief(b), e)
	}
}

func wantParsed(t *testing.T, what string, b []byte, want []api.Entry) {
	t.Helper()
	if l, e := table.Parse(b); !slices.Equal(l, want) || e != api.OK {
		t.Errorf("Parse(%s), %s: %s, error %d, want %s", brief(b), what, show(l...), e, show(want...))
	}
}

// wantNoParse is that bytes are the form of no table, and nothing else is returned.
func wantNoParse(t *testing.T, what string, b []byte) {
	t.Helper()
	if l, e := table.Parse(b); len(l) > 0 || e != api.ErrTable {
		t.Errorf("Parse(%s), %s: %s, error %d, want nothing and ErrTable", brief(b), what, show(l...), e)
	}
}

func wantMeta(t *testing.T, num uint64, b []byte, want api.Meta) {
	t.Helper()
	if m, e := table.Meta(num, b); m != want || e != api.OK {
		t.Errorf("Meta(%d, %s): %s, error %d, want %s", num, brief(b), showMeta(m), e, showMeta(want))
	}
}

func wantNoMeta(t *testing.T, what string, num uint64, b []byte, want api.Errno) {
	t.Helper()
	if m, e := table.Meta(num, b); m != (api.Meta{}) || e != want {
		t.Errorf("Meta(%d, %s), %s: %s, error %d, want nothing and the error %d", num, brief(b), what, showMeta(m), e, want)
	}
}

func wantSeek(t *testing.T, b []byte, k api.Ikey, want api.Entry) {
	t.Helper()
	if got, ok, e := table.Seek(b, k); got != want || !ok || e != api.OK {
		t.Errorf("Seek(%s, %s): %s, %t, error %d, want %s", brief(b), tell(k), show(got), ok, e, show(want))
	}
}

// wantNotFound is that a table has nothing at a key or behind it.
func wantNotFound(t *testing.T, b []byte, k api.Ikey) {
	t.Helper()
	if got, ok, e := table.Seek(b, k); got != (api.Entry{}) || ok || e != api.OK {
		t.Errorf("Seek(%s, %s): %s, %t, error %d, want none", brief(b), tell(k), show(got), ok, e)
	}
}

func wantModelSeek(t *testing.T, b []byte, l []api.Entry, k api.Ikey) {
	t.Helper()
	if want, ok := modelSeek(l, k); ok {
		wantSeek(t, b, k, want)
	} else {
		wantNotFound(t, b, k)
	}
}

func wantNoSeek(t *testing.T, what string, b []byte, k api.Ikey) {
	t.Helper()
	if got, ok, e := table.Seek(b, k); got != (api.Entry{}) || ok || e != api.ErrTable {
		t.Errorf("Seek(%s, %s), %s: %s, %t, error %d, want nothing and ErrTable", brief(b), tell(k), what, show(got), ok, e)
	}
}

// wantNone is that bytes are the form of no table, whatever they are asked for.
func wantNone(t *testing.T, what string, b []byte) {
	t.Helper()
	wantNoParse(t, what, b)
	for _, k := range []api.Ikey{{}, internal("a", 5, put), internal("\xff", 0, del), internal("a", math.MaxUint64, 255)} {
		wantNoSeek(t, what, b, k)
	}
	wantNoMeta(t, what, 3, b, api.ErrTable)
	wantNoMeta(t, what, 0, b, api.ErrArg)
}

func TestExamples(t *testing.T) {
	l := []api.Entry{entry("a", 5, put, "x")}
	b := slices.Concat(
		framed([]byte{0, 1, 97, 11, 1, 120, 0, 0, 0, 0, 1, 0, 0, 0}),
		framed([]byte{1, 1, 97, 11, 0, 22}),
		[]byte{22, 0, 0, 0, 1, 0, 0, 0, 82, 84, 76, 49},
	)
	if len(b) != 48 {
		t.Errorf("the example has %d bytes", len(b))
	}
	wantBuilt(t, "the example", l, b)
	wantParsed(t, "the example", b, l)
	wantMeta(t, 3, b, api.Meta{Num: 3, Size: 48, Least: "a", Most: "a"})
	wantSeek(t, b, internal("a", 5, put), l[0])
	wantNotFound(t, b, internal("a", 4, put))
	wantNone(t, "without the last byte", b[:47])
}

// names are those of tables, written out.
var names = []struct {
	num  uint64
	name string
}{
	{1, "tab.1"},
	{2, "tab.2"},
	{9, "tab.9"},
	{10, "tab.10"},
	{99, "tab.99"},
	{100, "tab.100"},
	{1002, "tab.1002"},
	{2147483647, "tab.2147483647"},
	{2147483648, "tab.2147483648"},
	{4294967295, "tab.4294967295"},
	{4294967296, "tab.4294967296"},
	{9007199254740993, "tab.9007199254740993"},
	{9223372036854775807, "tab.9223372036854775807"},
	{9223372036854775808, "tab.9223372036854775808"},
	{10000000000000000000, "tab.10000000000000000000"},
	{18446744073709551614, "tab.18446744073709551614"},
	{18446744073709551615, "tab.18446744073709551615"},
}

func TestP8_1Names(t *testing.T) {
	for _, n := range names {
		if got := table.Name(n.num); got != n.name {
			t.Errorf("Name(%d): %q, want %q", n.num, got, n.name)
		}
		wantNumber(t, n.name, n.num)
	}
	if got := table.Name(0); got != "" {
		t.Errorf("Name(0): %q", got)
	}
	wantNoNumber(t, table.Name(0))
}

// Each name that is returned has its number, and no other.
func TestP8_1NameThenNumber(t *testing.T) {
	of := map[string]uint64{}
	for x := uint64(1); x < 3000; x++ {
		for _, num := range []uint64{x, x << 20, x << 40, x << 52, math.MaxUint64 - x} {
			name := table.Name(num)
			wantNumber(t, name, num)
			if other, there := of[name]; there && other != num {
				t.Errorf("%d and %d have the name %q", other, num, name)
			}
			of[name] = num
		}
	}
}

func TestP8_1NoNames(t *testing.T) {
	for _, name := range []string{
		"", "t", "tab", "tab.", ".", "7", ".7", "ab.7", "tab7", "tab..7", "tab.7.", "tab,7", "tab 7", "tab-7",
		"Tab.7", "TAB.7", "tab.7.tab", "tab.tab.7", "xtab.7", "taa.7", "tac.7", "table.7", "MANIFEST", "MANIFEST.tmp",
		"log.7", "log.", "tab.log.7", "tab.log.", "log.tab.7", "logtab.7", "tablog.7",
		"tab.0", "tab.00", "tab.07", "tab.007", "tab.010", "tab.0000000000000000000000000000000000001",
		"tab.+7", "tab.-7", "tab.+0", "tab.-0", "tab.--7", "tab.+", "tab.-",
		"tab.7a", "tab.a7", "tab.a", "tab.0x7", "tab.0b1", "tab.0o7", "tab.7e2", "tab.1.5", "tab.1_000", "tab._1", "tab.1_", "tab.f", "tab.1,000",
		" tab.7", "tab. 7", "tab.7 ", "tab.7\n", "\ntab.7", "tab.7\t", "tab.7\x00", "\x00tab.7", "tab.\x007", "tab.\xff7", "tab.٧", "tab.７", "tab．7",
		"tab.18446744073709551616", "tab.18446744073709551617", "tab.18446744073709551625", "tab.18446744073709551715", "tab.18446744073709551623",
		"tab.18446744073709552615", "tab.20000000000000000000", "tab.28446744073709551615", "tab.36893488147419103233", "tab.99999999999999999999",
		"tab.100000000000000000000", "tab.184467440737095516150", "tab.018446744073709551615", "tab.340282366920938463463374607431768211457",
		"tab." + strings.Repeat("1", 1000), "tab." + strings.Repeat("0", 1000), "tab." + strings.Repeat("0", 1000) + "7", strings.Repeat("tab.", 1000) + "7",
	} {
		wantNoNumber(t, name)
	}
}

// many is n entries, puts and deletes, of keys by that function.
func many(n int, key func(i int) string) []api.Entry {
	l := make([]api.Entry, n)
	for i := range l {
		l[i] = entry(key(i), uint64(10000-i), put, fmt.Sprint(i))
		if i%3 == 1 {
			l[i] = entry(key(i), uint64(10000-i), del, "")
		}
	}
	return l
}

func counted(i int) string {
	return fmt.Sprintf("%05d", i)
}

func ordinary(n int) []api.Entry {
	return many(n, counted)
}

// sorts are sorts of tables, each of any number of entries.
var sorts = []struct {
	what string
	of   func(n int) []api.Entry
}{
	{"user keys that are counted", ordinary},
	{"one user key", func(n int) []api.Entry {
		return many(n, func(int) string { return "one" })
	}},
	{"user keys of 64 bytes", func(n int) []api.Entry {
		return many(n, func(i int) string { return again(59) + counted(i) })
	}},
	{"user keys of two bytes", func(n int) []api.Entry {
		return many(n, func(i int) string { return string([]byte{byte(i >> 8), byte(i)}) })
	}},
	{"puts and deletes of one sequence", func(n int) []api.Entry {
		l := many(n, func(i int) string { return counted(i / 2) })
		for i := range l {
			l[i].K.Seq, l[i].K.Kind, l[i].Val = 7, uint8(1-i%2), ""
		}
		return l
	}},
	{"as many bytes as there may be", func(n int) []api.Entry {
		l := many(n, func(i int) string { return counted(i) + again(59) })
		for i := range l {
			l[i].K.Seq, l[i].K.Kind, l[i].Val = api.MaxSeq, put, again(256)
		}
		return l
	}},
	{"as few bytes as there may be", func(n int) []api.Entry {
		l := many(n, func(int) string { return "k" })
		for i := range l {
			l[i].K.Kind, l[i].Val = del, ""
		}
		return l
	}},
}

// counts are numbers of entries around those at which a block is full, and around those at which the number of blocks gets longer.
var counts = []int{1, 2, 3, 4, 5, 15, 16, 17, 18, 31, 32, 33, 47, 48, 49, 64, 65, 255, 256, 257, 2032, 2033, 2048, 2049, 8175, 8176, 8177, 8191, 8192}

func TestP8_2ByNumberOfEntries(t *testing.T) {
	for _, s := range sorts {
		for _, n := range counts {
			if !holdBuild(t, s.of(n)) {
				t.Errorf("%s, %d of them: by the model no table", s.what, n)
			}
		}
		for n := range 100 {
			holdBuild(t, s.of(n))
		}
	}
}

func TestP8_2TooFewOrTooMany(t *testing.T) {
	wantNoBuild(t, "no entries", nil)
	wantNoBuild(t, "no entries", []api.Entry{})
	for _, s := range sorts {
		for _, n := range []int{8193, 8194, 8208, 8209} {
			wantNoBuild(t, s.what, s.of(n))
			wantNoParse(t, s.what, modelForm(s.of(n)))
		}
	}
	wantNone(t, "no entries", parts{count: []byte{0}, ending: "RTL1"}.form())
	wantNone(t, "no entries, and no number of blocks", parts{ending: "RTL1"}.form())
	wantNone(t, "no entries, and no index", slices.Concat(make([]byte, 8), []byte("RTL1")))
	noEntries := parts{blocks: [][]byte{{0, 0, 0, 0}}, count: short(1), lines: []line{{nil, short(0), short(12)}}, at: 12, ending: "RTL1"}
	wantNone(t, "a block without entries", noEntries.form())
	noEntries.blocks[0], noEntries.at = nil, 8
	wantNone(t, "a block without bytes", noEntries.form())
	noEntries.count, noEntries.lines = short(0), nil
	wantNone(t, "a block without bytes, and no line", noEntries.form())
}

// Tables of 1, 16, 17 and 33 entries, number by number: below 64 those of keys have one byte, so that the sizes can be told by hand.
func TestP8_2Sizes(t *testing.T) {
	for _, c := range []struct {
		n     int
		sizes []int // of the frames of blocks
	}{
		{1, []int{8 + 4 + 8}},
		{15, []int{8 + 4*4 + 11*3 + 20}},
		{16, []int{8 + 4*4 + 12*3 + 20}},
		{17, []int{80, 20}},
		{32, []int{80, 80}},
		{33, []int{80, 80, 20}},
	} {
		l := make([]api.Entry, c.n)
		for i := range l {
			l[i] = entry("k", uint64(c.n-i-1), del, "")
		}
		index, at := []byte{byte(len(c.sizes))}, 0
		for i, size := range c.sizes {
			last := l[min(16*i+15, c.n-1)].K
			index = slices.Concat(index, []byte{1, 'k', byte(2 * last.Seq)}, short(uint64(at)), short(uint64(size)))
			at += size
		}
		b, e := table.Build(l)
		if e != api.OK || len(b) < at {
			t.Errorf("%d entries: %s, error %d", c.n, brief(b), e)
			continue
		}
		wantBytes(t, fmt.Sprint("behind the blocks of ", c.n, " entries"), b[at:], slices.Concat(framed(index), []byte{byte(at), 0, 0, 0, byte(c.n), 0, 0, 0}, []byte("RTL1")))
	}
}

func TestP8_2OutOfOrder(t *testing.T) {
	for _, s := range sorts {
		for _, n := range []int{2, 16, 17, 33, 50} {
			for i := range n - 1 {
				l := s.of(n)
				l[i], l[i+1] = l[i+1], l[i]
				wantNoBuild(t, "two neighbours the other way round", l)
				wantNoParse(t, "two neighbours the other way round", modelForm(l))
				l = s.of(n)
				l[i+1] = l[i]
				wantNoBuild(t, "twice the same", l)
				wantNoParse(t, "twice the same", modelForm(l))
				l[i+1].Val, l[i+1].K.Kind, l[i].K.Kind = "another", put, put
				wantNoBuild(t, "twice the same key", l)
				wantNoParse(t, "twice the same key", modelForm(l))
			}
			l := s.of(n)
			slices.Reverse(l)
			wantNoBuild(t, "backwards", l)
			wantNone(t, "backwards", modelForm(l))
		}
	}
	great := ordinary(8192)
	for _, i := range []int{0, 14, 15, 16, 4095, 4096, 8174, 8175, 8190} {
		l := slices.Clone(great)
		l[i], l[i+1] = l[i+1], l[i]
		wantNoBuild(t, "two neighbours the other way round", l)
		wantNoParse(t, "two neighbours the other way round", modelForm(l))
	}
	wantNoBuild(t, "the last one first", slices.Concat(great[8191:], great[:8191]))
}

// Blocks that are each in order, but not one behind the other.
func TestP8_2BlocksOutOfOrder(t *testing.T) {
	l := ordinary(48)
	for what, groups := range map[string][][]api.Entry{
		"the first two the other way round": {l[16:32], l[:16], l[32:]},
		"the last two the other way round":  {l[:16], l[32:], l[16:32]},
		"the first one twice":               {l[:16], l[:16], l[16:32]},
		"the last one twice":                {l[:16], l[16:32], l[16:32]},
		"one entry in common":               {l[:16], l[15:31]},
		"one entry in common, at the end":   {l[:16], l[15:16]},
	} {
		wantNone(t, what, grouped(groups...).form())
		wantNoBuild(t, what, slices.Concat(groups...))
	}
}

// wrongEntries are entries that are not right.
var wrongEntries = []api.Entry{
	{},
	entry("", 5, put, "x"),
	entry("", 5, del, ""),
	entry(again(65), 5, put, "x"),
	entry(again(400), 5, del, ""),
	entry("k", 5, put, again(257)),
	entry("k", 5, put, again(70000)),
	entry("k", api.MaxSeq+1, put, "x"),
	entry("k", api.MaxSeq+1, del, ""),
	entry("k", 1<<63-1, del, ""),
}

// One entry that is not right, anywhere, neither built nor parsed.
func TestP8_2WithAWrongEntry(t *testing.T) {
	for _, wrong := range wrongEntries {
		for _, n := range []int{1, 2, 16, 17, 33} {
			for i := range n {
				l := many(n, func(i int) string { return again(i + 1) })
				l[i] = wrong
				wantNoBuild(t, show(wrong), l)
				wantNoParse(t, show(wrong), modelForm(l))
				slices.SortFunc(l, byRank)
				wantNoBuild(t, show(wrong)+", in its place", l)
				wantNoParse(t, show(wrong)+", in its place", modelForm(l))
			}
		}
		wantNone(t, show(wrong), modelForm([]api.Entry{wrong}))
		l := ordinary(8192)
		l[8191] = wrong
		wantNoBuild(t, show(wrong), l)
	}
}

// These have no form at all: of one that is not right by its kind, or of a delete with a value, the form would be that of another one.
func TestP8_2BuildWithAWrongKindOrValue(t *testing.T) {
	for _, wrong := range []api.Entry{
		entry("k", 5, 2, ""), entry("k", 5, 3, "x"), entry("k", 5, 128, ""), entry("k", 5, 255, ""), entry("k", 0, 2, ""),
		entry("k", 5, del, "x"), entry("k", 5, del, "\x00"), entry("k", 5, del, again(256)), entry("k", 5, del, again(257)),
		entry("k", 1<<63, put, ""), entry("k", 1<<63+5, put, "x"), entry("k", math.MaxUint64, del, ""), entry("k", math.MaxUint64, put, "x"),
	} {
		wantNoBuild(t, show(wrong), []api.Entry{wrong})
		wantNoBuild(t, show(wrong), []api.Entry{entry("a", 5, put, "x"), wrong})
		wantNoBuild(t, show(wrong), []api.Entry{wrong, entry("l", 5, put, "x")})
		wantNoBuild(t, show(wrong), append(many(16, func(int) string { return "a" }), wrong))
		wantNoBuild(t, show(wrong), append([]api.Entry{wrong}, many(40, func(int) string { return "l" })...))
	}
}

// some are tables of all sorts, which are not great.
func some() [][]api.Entry {
	var all [][]api.Entry
	for _, s := range sorts {
		for _, n := range []int{1, 2, 15, 16, 17, 32, 33} {
			all = append(all, s.of(n))
		}
	}
	return all
}

func TestP8_2ProperPrefixes(t *testing.T) {
	for _, s := range sorts[:5] {
		for _, n := range []int{1, 16, 17} {
			b := modelForm(s.of(n))
			for i := range b {
				wantNoParse(t, "a proper prefix", b[:i])
			}
			for i := 1; i < len(b); i++ {
				wantNoParse(t, "without the first bytes", b[i:])
			}
		}
	}
	b := modelForm(ordinary(8192))
	for i := range 200 {
		wantNoParse(t, "a proper prefix", b[:len(b)-1-i])
		wantNoParse(t, "a proper prefix", b[:i*len(b)/200])
	}
	wantNone(t, "nothing", nil)
	wantNone(t, "nothing", []byte{})
}

func TestP8_2AByteMore(t *testing.T) {
	for _, s := range sorts[:5] {
		for _, n := range []int{1, 17} {
			b := modelForm(s.of(n))
			for i := range len(b) + 1 {
				for _, c := range []byte{0, 1, 49, 82, 255} {
					wantNoParse(t, "a byte more", slices.Insert(slices.Clone(b), i, c))
				}
			}
		}
	}
	for _, l := range some() {
		b := modelForm(l)
		wantNone(t, "a byte more behind", append(bytes.Clone(b), 0))
		wantNone(t, "twice the last byte", append(bytes.Clone(b), '1'))
		wantNone(t, "a byte more ahead", append([]byte{0}, b...))
		wantNone(t, "twice", slices.Concat(b, b))
		wantNone(t, "twice the footer", slices.Concat(b, b[len(b)-12:]))
		wantNone(t, "another table behind", slices.Concat(b, modelForm(ordinary(1))))
		wantNone(t, "another table ahead", slices.Concat(modelForm(ordinary(1)), b))
	}
	great := modelForm(ordinary(8192))
	wantNoParse(t, "a byte more behind", append(bytes.Clone(great), 0))
	wantNoParse(t, "a byte more ahead", append([]byte{0}, great...))
}

// Each byte gone, and each one another one.
func TestP8_2AByteLessOrAnother(t *testing.T) {
	for _, n := range []int{1, 17} {
		b := modelForm(ordinary(n))
		for i := range b {
			wantNoParse(t, "a byte less", slices.Delete(slices.Clone(b), i, i+1))
			for c := 1; c < 256; c++ {
				other := bytes.Clone(b)
				other[i] += byte(c)
				wantNoParse(t, fmt.Sprint("another byte at ", i), other)
			}
		}
	}
}

// P8.4: bits inverted, all within 32 neighbouring ones, anywhere: at each place of tables that are small, at some of others.
func TestP8_4InvertedBits(t *testing.T) {
	r := rand.New(rand.NewSource(8))
	for _, l := range [][]api.Entry{{entry("a", 5, put, "x")}, ordinary(17), sorts[1].of(40)} {
		b := modelForm(l)
		wantParsed(t, "as it is", b, l)
		for at := range 8 * len(b) {
			for _, which := range []uint32{1, 1<<32 - 1, 1<<31 + 1, r.Uint32() | 1, r.Uint32() | 1} {
				wantInvertedNone(t, b, at, which)
			}
		}
	}
	for _, l := range [][]api.Entry{sorts[5].of(17), sorts[2].of(100), ordinary(8192)} {
		b := modelForm(l)
		for range 200 {
			wantInvertedNone(t, b, r.Intn(8*len(b)), r.Uint32()|1)
			wantInvertedNone(t, b, 8*len(b)-1-r.Intn(800), r.Uint32()|1)
		}
	}
}

// wantInvertedNone is that a table is none with those bits, from a place on, inverted. Within a frame this is found by the check sum; of its number, or of the footer, some could make another table, but of these tables none does.
func wantInvertedNone(t *testing.T, b []byte, at int, which uint32) {
	t.Helper()
	other := bytes.Clone(b)
	for i := range 32 {
		if place := at + i; which>>i&1 == 1 && place < 8*len(b) {
			other[place/8] ^= 1 << (place % 8)
		}
	}
	wantNoParse(t, fmt.Sprintf("the bits %x from %d on inverted", which, at), other)
}

// Groups of entries that are blocks, but not those of a table.
func TestP8_2OtherBlocks(t *testing.T) {
	l := ordinary(80)
	for _, sizes := range [][]int{
		{1, 1}, {1, 16}, {15, 1}, {15, 16}, {15, 2}, {16, 15, 1}, {16, 15, 16}, {16, 1, 15}, {17}, {17, 15}, {17, 16}, {32}, {64}, {64, 16}, {16, 64}, {16, 17}, {16, 16, 17},
		{8, 8}, {4, 4, 4, 4}, {1, 1, 1, 1}, {16, 16, 15, 16}, {15, 17}, {33}, {16, 33, 16},
	} {
		var groups [][]api.Entry
		at := 0
		for _, n := range sizes {
			groups = append(groups, l[at:at+n])
			at += n
		}
		wantNone(t, fmt.Sprint("blocks with so many entries: ", sizes), grouped(groups...).form())
	}
	all := ordinary(8192)
	wantNoParse(t, "each block with one entry", grouped(slices.Collect(slices.Chunk(all, 1))...).form())
	wantNoParse(t, "each block with 64 entries", grouped(slices.Collect(slices.Chunk(all, 64))...).form())
	wantNoParse(t, "each block with 15 entries", grouped(slices.Collect(slices.Chunk(all, 15))...).form())
}

// What stands within the frame of a block is none, or the form of another one.
func TestP8_2BytesOfBlocks(t *testing.T) {
	p := partsOf(ordinary(33))
	for i := range p.blocks {
		whole := p.blocks[i]
		for what, b := range map[string][]byte{
			"nothing":                nil,
			"without the last byte":  whole[:len(whole)-1],
			"without the first byte": whole[1:],
			"a byte more":            append(bytes.Clone(whole), 0),
			"the next block":         p.blocks[(i+1)%3],
			"twice":                  slices.Concat(whole, whole),
			"its frame":              framed(whole),
			"the index":              p.index(),
			"a restart more":         slices.Concat(whole[:len(whole)-4], make([]byte, 4), fourBytes(uint32(len(whole)))),
		} {
			other := p.copied()
			other.blocks[i] = b
			wantNone(t, what, other.form())
			other.at = uint32(len(other.frames()))
			wantNone(t, what+", and the footer tells it", other.form())
			other = other.relined()
			wantNone(t, what+", and the index tells it", other.form())
		}
	}
}

// relined is parts whose positions and lengths are those of their blocks, whatever these are.
func (p parts) relined() parts {
	p = p.copied()
	at := 0
	for i, b := range p.blocks {
		p.lines[i].at, p.lines[i].size = short(uint64(at)), short(uint64(len(b)+8))
		at += len(b) + 8
	}
	p.at = uint32(at)
	return p
}

// Blocks that are missing, or too many, with and without their lines.
func TestP8_2MissingBlocks(t *testing.T) {
	p := partsOf(ordinary(48))
	for i := range 3 {
		less := p.copied()
		less.blocks = slices.Delete(less.blocks, i, i+1)
		wantNone(t, "a block less", less.form())
		less.at = uint32(len(less.frames()))
		wantNone(t, "a block less, and the footer tells it", less.form())
		less.entries -= 16
		wantNone(t, "a block less, and the footer tells both", less.form())

		more := p.copied()
		more.blocks = slices.Insert(more.blocks, i, more.blocks[i])
		wantNone(t, "a block twice", more.form())
		more.at = uint32(len(more.frames()))
		wantNone(t, "a block twice, and the footer tells it", more.form())
	}
	three := partsOf(ordinary(49))
	three.blocks = three.blocks[:3]
	three.at = uint32(len(three.frames()))
	wantNone(t, "the last block missing", three.form())
}

func TestP8_2OtherIndex(t *testing.T) {
	for _, l := range some() {
		p := partsOf(l)
		count := len(p.lines)
		for _, n := range []uint64{0, 1, 2, 3, 4, 127, 128, 512, 513, uint64(count) + 1, uint64(count) - 1, uint64(count) + 1<<32, 1 << 63, math.MaxUint64} {
			if n != uint64(count) {
				other := p.copied()
				other.count = short(n)
				wantNoParse(t, fmt.Sprint("the number ", n, " of blocks"), other.form())
			}
		}
		for i, was := range p.lines {
			for what, one := range otherLines(l, p, i) {
				other := p.copied()
				other.lines[i] = one
				wantNoParse(t, what, other.form())
			}
			other := p.copied()
			other.lines = slices.Delete(other.lines, i, i+1)
			wantNoParse(t, "a line less", other.form())
			other.count = short(uint64(count) - 1)
			wantNoParse(t, "a line less, and the number tells it", other.form())
			other.lines = slices.Insert(slices.Clone(p.lines), i, was)
			wantNoParse(t, "a line twice", other.form())
			other.count = short(uint64(count) + 1)
			wantNoParse(t, "a line twice, and the number tells it", other.form())
		}
		for _, more := range [][]byte{{0}, {1}, p.index(), p.lines[0].key} {
			other := p.copied()
			other.more = more
			wantNoParse(t, "more behind the index", other.form())
		}
		other := p.copied()
		other.count = nil
		wantNoParse(t, "no number of blocks", other.form())
		other.lines = nil
		wantNoParse(t, "nothing in the index", other.form())
		other.count = p.count
		wantNoParse(t, "no lines", other.form())
		slices.Reverse(p.lines)
		if count > 1 {
			wantNoParse(t, "lines the other way round", p.form())
		}
	}
}

// otherLines are lines that do not tell the block i as it is.
func otherLines(l []api.Entry, p parts, i int) map[string]line {
	all := map[string]line{}
	last := l[min(16*i+15, len(l)-1)].K
	was := p.lines[i]
	for _, k := range []api.Ikey{
		l[16*i].K, l[max(16*i-1, 0)].K, l[min(16*i+16, len(l)-1)].K, l[max(min(16*i+15, len(l)-1)-1, 0)].K,
		internal(last.Key, last.Seq+1, last.Kind), internal(last.Key, last.Seq-1, last.Kind), internal(last.Key, last.Seq, 1-last.Kind),
		internal(last.Key+"\x00", last.Seq, last.Kind), internal(last.Key[1:], last.Seq, last.Kind), internal("", last.Seq, last.Kind), {},
	} {
		if k != last {
			all[fmt.Sprint("the last key ", tell(k), " of the block ", i)] = line{keyForm(k), was.at, was.size}
		}
	}
	at := 0
	for _, b := range p.blocks[:i] {
		at += len(b) + 8
	}
	size := len(p.blocks[i]) + 8
	for _, x := range []int{-1, 1, 4, 8, 128, 1 << 32} {
		all[fmt.Sprint("the position of the block ", i, " and ", x)] = line{was.key, short(uint64(at + x)), was.size}
		all[fmt.Sprint("the length of the block ", i, " and ", x)] = line{was.key, was.at, short(uint64(size + x))}
	}
	all["the length without what is around"] = line{was.key, was.at, short(uint64(size - 8))}
	all["the length 0"] = line{was.key, was.at, short(0)}
	all["no last key"] = line{nil, was.at, was.size}
	all["no position"] = line{was.key, nil, was.size}
	all["no length"] = line{was.key, was.at, nil}
	if at != size {
		all["position and length the other way round"] = line{was.key, was.size, was.at}
	}
	return all
}

func TestP8_2OtherFooter(t *testing.T) {
	for _, l := range some() {
		p := partsOf(l)
		for _, at := range []uint32{0, 1, p.at - 1, p.at + 1, p.at + 4, p.at + 8, p.at - 8, p.at * 2, p.at + 256, p.at + 1<<31, uint32(len(p.form())), uint32(len(p.form()) - 12), uint32(len(p.form()) + 1), math.MaxUint32, math.MaxUint32 - 7} {
			other := p
			other.at = at
			wantNoParse(t, fmt.Sprint("the position ", at, " of the index"), other.form())
		}
		n := uint32(len(l))
		for _, entries := range []uint32{0, 1, 16, n - 1, n + 1, n + 16, n - 16, n + 256, n + 1<<16, n + 1<<31, 8192, 8193, math.MaxUint32} {
			if entries != n {
				other := p
				other.entries = entries
				wantNoParse(t, fmt.Sprint("the number ", entries, " of entries"), other.form())
			}
		}
		for _, ending := range []string{"", "R", "RTL", "TL1", "RTL0", "RTL2", "rtl1", "RTL1\x00", "1LTR", "\x00\x00\x00\x00", "RTLl", "RTL1RTL1", "STL1", "RUL1", "RTM1"} {
			other := p
			other.ending = ending
			wantNoParse(t, fmt.Sprintf("the ending %q", ending), other.form())
		}
		wantNoParse(t, "no footer", slices.Concat(p.frames(), framed(p.index())))
		wantNoParse(t, "no index", slices.Concat(p.frames(), p.footer()))
		wantNoParse(t, "nothing but the footer", p.footer())
		wantNoParse(t, "the footer in a frame", slices.Concat(p.frames(), framed(p.index()), framed(p.footer())))
		wantNoParse(t, "the index twice", slices.Concat(p.frames(), framed(p.index()), framed(p.index()), p.footer()))
		wantNoParse(t, "the index ahead", slices.Concat(framed(p.index()), p.frames(), p.footer()))
		wantNoParse(t, "the index without a frame", slices.Concat(p.frames(), p.index(), p.footer()))
		wantNoParse(t, "the blocks without frames", slices.Concat(slices.Concat(p.blocks...), framed(p.index()), p.footer()))
		if len(p.blocks) > 1 {
			wantNoParse(t, "all blocks in one frame", slices.Concat(framed(slices.Concat(p.blocks...)), framed(p.index()), p.footer()))
		}
	}
}

// longer is a number's form that is not short: its last byte has 128 more, and the last one is 0.
func longer(b []byte, more int) []byte {
	b = slices.Clone(b)
	b[len(b)-1] += 128
	return append(append(b, bytes.Repeat([]byte{128}, more-1)...), 0)
}

// Each number, of the index and of a block, in a form that is not short. The check sums are right.
func TestP8_2NumbersNotShort(t *testing.T) {
	for _, l := range some() {
		p := partsOf(l)
		for _, more := range []int{1, 2, 5} {
			with := func(what string, change func(*parts)) {
				t.Helper()
				other := p.copied()
				change(&other)
				wantNoParse(t, what+", not in its short form", other.form())
			}
			with("the number of blocks", func(p *parts) { p.count = longer(p.count, more) })
			for i := range p.lines {
				k := l[min(16*i+15, len(l)-1)].K
				key, number := textForm(k.Key), short(2*k.Seq+uint64(k.Kind))
				with("the length of a key", func(p *parts) {
					p.lines[i].key = slices.Concat(longer(key[:1], more), key[1:], number)
				})
				with("the number of a key", func(p *parts) { p.lines[i].key = append(key, longer(number, more)...) })
				with("a position", func(p *parts) { p.lines[i].at = longer(p.lines[i].at, more) })
				with("a length", func(p *parts) { p.lines[i].size = longer(p.lines[i].size, more) })
				other := p.copied()
				other.blocks[i] = append([]byte{128, 0}, p.blocks[i][1:]...)
				wantNoParse(t, "a shared length, not in its short form", other.form())
				wantNoParse(t, "a shared length, not in its short form, and all else tells it", other.relined().form())
			}
		}
	}
}

// Very long bytes are no table, and are not gone through again and again.
func TestP8_2VeryLong(t *testing.T) {
	one := framed(blockForm([]api.Entry{entry("k", 1, del, "")}))
	for _, b := range [][]byte{
		make([]byte, 1<<24),
		bytes.Repeat([]byte{255}, 1<<24),
		append(make([]byte, 1<<24), modelForm(ordinary(3))...),
		append(modelForm(ordinary(3)), make([]byte, 1<<24)...),
		bytes.Repeat(one, 1<<20),
		slices.Concat(bytes.Repeat(one, 1<<20), framed([]byte{1, 1, 'k', 2, 0, 20}), []byte{20, 0, 0, 0, 1, 0, 0, 0}, []byte("RTL1")),
		bytes.Repeat(framed(make([]byte, 1<<20)), 16),
		bytes.Repeat(framed(nil), 1<<20),
		framed(make([]byte, 1<<20+1)),
	} {
		for range 4 {
			wantNoParse(t, "very long", b)
		}
	}
}

// asked is keys to be sought in a table: those of its entries, those right beside them, those before and behind all, and those that are not right.
func asked(l []api.Entry) []api.Ikey {
	all := []api.Ikey{{}}
	for _, key := range []string{"", "\x00", "\xff", again(32), again(65), again(300), strings.Repeat("\xff", 65)} {
		all = append(all, internal(key, 0, del), internal(key, 5, put), internal(key, api.MaxSeq, put), internal(key, api.MaxSeq+1, 2), internal(key, math.MaxUint64, 255))
	}
	for _, i := range []int{0, 1, 7, 14, 15, 16, 17, 30, 31, 32, len(l) - 2, len(l) - 1} {
		if i < 0 || i >= len(l) {
			continue
		}
		k := l[i].K
		for _, key := range []string{k.Key, k.Key + "\x00", k.Key[:len(k.Key)-1], k.Key[:len(k.Key)-1] + string([]byte{k.Key[len(k.Key)-1] + 1})} {
			for _, seq := range []uint64{k.Seq, k.Seq - 1, k.Seq + 1} {
				all = append(all, internal(key, seq, k.Kind), internal(key, seq, 1-k.Kind), internal(key, seq, 255))
			}
		}
	}
	return all
}

func TestP8_3Seek(t *testing.T) {
	for _, l := range some() {
		b := modelForm(l)
		for _, k := range asked(l) {
			wantModelSeek(t, b, l, k)
		}
	}
}

// Each entry by its own key, and by one between it and that before.
func TestP8_3SeekEachEntry(t *testing.T) {
	for _, s := range sorts {
		l := s.of(50)
		b := modelForm(l)
		for i, e := range l {
			wantSeek(t, b, e.K, e)
			above := e.K
			above.Kind++
			if i > 0 && l[i-1].K == above {
				continue // it is the one before
			}
			wantSeek(t, b, above, e)
		}
		last := l[len(l)-1].K
		wantSeek(t, b, api.Ikey{}, l[0])
		wantNotFound(t, b, internal(last.Key+"\x00", math.MaxUint64, 255))
		wantNotFound(t, b, internal("\xff"+last.Key, api.MaxSeq, put))
	}
}

// Before all, behind all, between two blocks, written out.
func TestP8_3SeekByHand(t *testing.T) {
	var l []api.Entry
	for i := range 33 {
		l = append(l, entry(string([]byte{byte('A' + i)}), 5, put, fmt.Sprint(i)))
	}
	b := modelForm(l)
	for at, keys := range map[int][]api.Ikey{
		0:  {{}, internal("", 9, put), internal("@", 5, put), internal("A", 6, put), internal("A", 5, put), internal("A", 5, 2), internal("A", math.MaxUint64, 255)},
		1:  {internal("A", 5, del), internal("A", 4, put), internal("A", 0, del), internal("A\x00", 9, put), internal("AZ", 5, put), internal("B", 5, put)},
		15: {internal("O", 4, put), internal("P", 6, del), internal("P", 5, put)},
		16: {internal("P", 5, del), internal("P", 4, put), internal("P", 0, 0), internal("P\x00", 5, put), internal("P"+again(300), 5, put), internal("Q", 9, put), internal("Q", 5, put)},
		31: {internal("`", 5, put)},
		32: {internal("`", 5, del), internal("`", 1, put), internal("`z", 1, put), internal("a", 5, put), internal("a", api.MaxSeq, put)},
	} {
		for _, k := range keys {
			wantSeek(t, b, k, l[at])
		}
	}
	for _, k := range []api.Ikey{internal("a", 5, del), internal("a", 4, put), internal("a\x00", 9, put), internal("b", 5, put), internal("\xff", math.MaxUint64, 255), internal(strings.Repeat("z", 300), 0, 9)} {
		wantNotFound(t, b, k)
	}
}

func TestP8_3SeekInTheGreatest(t *testing.T) {
	l := ordinary(8192)
	b := modelForm(l)
	for _, i := range []int{0, 1, 15, 16, 17, 4095, 4096, 8175, 8176, 8191} {
		wantSeek(t, b, l[i].K, l[i])
		k := l[i].K
		k.Key += "\x00"
		if i < 8191 {
			wantSeek(t, b, k, l[i+1])
		} else {
			wantNotFound(t, b, k)
		}
	}
	wantSeek(t, b, api.Ikey{}, l[0])
}

// P8.3: the error of Parse, also where the key would be found ahead of what is wrong.
func TestP8_3SeekOfNoTable(t *testing.T) {
	for _, l := range some() {
		b := modelForm(l)
		for _, e := range []api.Entry{l[0], l[len(l)-1]} {
			wantNoSeek(t, "without the last byte", b[:len(b)-1], e.K)
			wantNoSeek(t, "a byte behind", append(bytes.Clone(b), 0), e.K)
			for _, back := range []int{1, 5, 9, 13, 18} {
				other := bytes.Clone(b)
				other[len(b)-back]++
				wantNoSeek(t, "another byte near the end", other, e.K)
				wantNoMeta(t, "another byte near the end", 1, other, api.ErrTable)
			}
			wantNoSeek(t, "nothing", nil, e.K)
		}
	}
}

func TestP8_3Meta(t *testing.T) {
	for _, num := range []uint64{1, 2, 7, 1 << 32, api.MaxSeq, api.MaxSeq + 1, 1 << 63, math.MaxUint64} {
		for _, l := range some() {
			b := modelForm(l)
			wantMeta(t, num, b, api.Meta{Num: num, Size: uint64(len(b)), Least: l[0].K.Key, Most: l[len(l)-1].K.Key})
		}
	}
	one := modelForm([]api.Entry{entry("k", 2, put, "x"), entry("k", 1, del, "")})
	wantMeta(t, 9, one, api.Meta{Num: 9, Size: uint64(len(one)), Least: "k", Most: "k"})
	many := modelForm(ordinary(8192))
	wantMeta(t, 9, many, api.Meta{Num: 9, Size: uint64(len(many)), Least: "00000", Most: "08191"})
	bytesOf := modelForm([]api.Entry{entry("\x00", 0, del, ""), entry("\xff\x00"+again(62), api.MaxSeq, put, "")})
	wantMeta(t, 9, bytesOf, api.Meta{Num: 9, Size: uint64(len(bytesOf)), Least: "\x00", Most: "\xff\x00" + again(62)})
}

// The number 0 is the first of the errors.
func TestP8_3MetaErrors(t *testing.T) {
	for _, l := range some() {
		b := modelForm(l)
		wantNoMeta(t, "the number 0", 0, b, api.ErrArg)
		wantNoMeta(t, "the number 0, and no table", 0, b[1:], api.ErrArg)
		wantNoMeta(t, "no table", 1, b[1:], api.ErrTable)
		wantNoMeta(t, "no table", math.MaxUint64, b[:len(b)-1], api.ErrTable)
	}
	wantNoMeta(t, "the number 0, and nothing", 0, nil, api.ErrArg)
	wantNoMeta(t, "nothing", 1, nil, api.ErrTable)
}

// The arguments and their spare capacity stay.
func TestR3ArgumentsStay(t *testing.T) {
	room := ordinary(60)
	was := slices.Clone(room)
	for n := range room {
		table.Build(room[:n])
	}
	if !slices.Equal(room, was) {
		t.Errorf("the entries became %s", show(room...))
	}
	b := append(modelForm(was), 7, 7, 7)
	whole := bytes.Clone(b)
	for _, n := range []int{0, 1, 4, 8, 300, len(b) - 15, len(b) - 4, len(b) - 3, len(b)} {
		l, _ := table.Parse(b[:n])
		_ = append(l, entry("z", 1, put, ""))
		table.Seek(b[:n], was[4].K)
		table.Meta(1, b[:n])
		wantBytes(t, "the bytes and their spare capacity", b, whole)
	}
}

// What is returned shares nothing with the argument, or with another result.
func TestR3MemoryOfItsOwn(t *testing.T) {
	l := ordinary(40)
	was := slices.Clone(l)
	one, _ := table.Build(l)
	two, _ := table.Build(l)
	want := bytes.Clone(one)
	clear(one[:cap(one)])
	clear(l)
	wantBytes(t, "the other result", two, want)

	size := uint64(len(two))
	first, _ := table.Parse(two)
	second, _ := table.Parse(two)
	found, ok, e := table.Seek(two, was[17].K)
	m, f := table.Meta(5, two)
	clear(first[:cap(first)])
	clear(two)
	if !slices.Equal(second, was) {
		t.Errorf("the other result became %s", show(second...))
	}
	if found != was[17] || !ok || e != api.OK {
		t.Errorf("what was found became %s", show(found))
	}
	if m != (api.Meta{Num: 5, Size: size, Least: "00000", Most: "00039"}) || f != api.OK {
		t.Errorf("what Meta told became %s", showMeta(m))
	}
}

// R4: a call returns what it returned before, whatever was called in between, and whatever the spare capacity is.
func TestR4SameAgain(t *testing.T) {
	for range 3 {
		for _, l := range some() {
			b := modelForm(l)
			wantBuilt(t, "again", l, b)
			wantNoBuild(t, "again, the same twice", slices.Repeat(l, 2))
			wantParsed(t, "nothing to spare", slices.Clip(b), l)
			wantParsed(t, "with spare capacity", append(b, 1, 2, 3)[:len(b)], l)
			wantNoParse(t, "without the last byte", b[:len(b)-1])
			wantSeek(t, b, l[0].K, l[0])
		}
	}
}
