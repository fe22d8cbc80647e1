package table_test

import (
	"bytes"
	"encoding/binary"
	"hash/crc32"
	"math"
	"math/rand"
	"slices"
	"strings"
	"testing"

	"ratline/api"
	"ratline/table"
)

// short is the short form of a number: the library has it, too.
func short(x uint64) []byte {
	return binary.AppendUvarint(nil, x)
}

func textForm(s string) []byte {
	return append(short(uint64(len(s))), s...)
}

func fourBytes(x uint32) []byte {
	return binary.LittleEndian.AppendUint32(nil, x)
}

var sums = crc32.MakeTable(crc32.Koopman)

// framed is the frame of bytes; the library has its check sum, too, with all bits inverted.
func framed(b []byte) []byte {
	f := append(fourBytes(uint32(len(b))), b...)
	return append(f, fourBytes(^crc32.Checksum(f, sums))...)
}

// prefix is the length of the longest common prefix.
func prefix(a, b string) int {
	n := min(len(a), len(b))
	for a[:n] != b[:n] {
		n--
	}
	return n
}

// blockForm is the form of a block, also of entries that are none.
func blockForm(l []api.Entry) []byte {
	var b, positions []byte
	for i, e := range l {
		n := 0
		if i%4 > 0 {
			n = prefix(l[i-1].K.Key, e.K.Key)
		} else {
			positions = append(positions, fourBytes(uint32(len(b)))...)
		}
		b = slices.Concat(b, short(uint64(n)), textForm(e.K.Key[n:]), short(2*e.K.Seq+uint64(e.K.Kind)))
		if e.K.Kind == put {
			b = append(b, textForm(e.Val)...)
		}
	}
	return slices.Concat(b, positions, fourBytes(uint32((len(l)+3)/4)))
}

func keyForm(k api.Ikey) []byte {
	return append(textForm(k.Key), short(2*k.Seq+uint64(k.Kind))...)
}

// line is what an index tells of a block, number by number in any form.
type line struct {
	key, at, size []byte
}

// parts are what a table consists of; they need not be those of a table.
type parts struct {
	blocks  [][]byte // the bytes within their frames
	count   []byte
	lines   []line
	more    []byte // behind the lines of the index
	at      uint32
	entries uint32
	ending  string
}

// grouped is what a table of these groups of entries consists of, if each were a block.
func grouped(groups ...[]api.Entry) parts {
	var p parts
	for _, one := range groups {
		b := blockForm(one)
		p.blocks = append(p.blocks, b)
		p.lines = append(p.lines, line{keyForm(one[len(one)-1].K), short(uint64(p.at)), short(uint64(len(b) + 8))})
		p.at += uint32(len(b) + 8)
		p.entries += uint32(len(one))
	}
	p.count = short(uint64(len(groups)))
	p.ending = "RTL1"
	return p
}

func partsOf(l []api.Entry) parts {
	return grouped(slices.Collect(slices.Chunk(l, 16))...)
}

// copied is parts that can be changed: what is changed in them is put in the place of what stands there.
func (p parts) copied() parts {
	p.blocks, p.lines = slices.Clone(p.blocks), slices.Clone(p.lines)
	return p
}

func (p parts) frames() []byte {
	var b []byte
	for _, one := range p.blocks {
		b = append(b, framed(one)...)
	}
	return b
}

func (p parts) index() []byte {
	b := slices.Clone(p.count)
	for _, one := range p.lines {
		b = slices.Concat(b, one.key, one.at, one.size)
	}
	return append(b, p.more...)
}

func (p parts) footer() []byte {
	return slices.Concat(fourBytes(p.at), fourBytes(p.entries), []byte(p.ending))
}

func (p parts) form() []byte {
	return slices.Concat(p.frames(), framed(p.index()), p.footer())
}

// modelForm is the form of entries, whether they are a table or not.
func modelForm(l []api.Entry) []byte {
	return partsOf(l).form()
}

// rank is bytes that stand, byte by byte, in the order of internal keys: a byte 0 ends a Key, and each of its bytes has a 1 ahead.
func rank(k api.Ikey) []byte {
	var b []byte
	for _, c := range []byte(k.Key) {
		b = append(b, 1, c)
	}
	b = append(b, 0)
	b = binary.BigEndian.AppendUint64(b, math.MaxUint64-k.Seq)
	return append(b, 255-k.Kind)
}

func byRank(a, b api.Entry) int {
	return bytes.Compare(rank(a.K), rank(b.K))
}

// modelRight goes by the chapters' words alone.
func modelRight(l []api.Entry) bool {
	for i, e := range l {
		if len(e.K.Key) < 1 || len(e.K.Key) > 64 || e.K.Seq >= 1<<56 || e.K.Kind > 1 || len(e.Val) > 256*int(e.K.Kind) {
			return false
		}
		if i > 0 && byRank(l[i-1], e) >= 0 {
			return false
		}
	}
	return len(l) >= 1 && len(l) <= 8192
}

// modelText reads a text as far as it can; what it reads need not be right.
func modelText(b *bytes.Reader) string {
	n, _ := binary.ReadUvarint(b)
	s := make([]byte, min(n, 1000))
	k, _ := b.Read(s)
	return string(s[:k])
}

// modelBlock reads so many entries as far as it can; what it reads need not be right.
func modelBlock(b []byte, n int) []api.Entry {
	var l []api.Entry
	from := bytes.NewReader(b)
	for before := ""; len(l) < n; before = l[len(l)-1].K.Key {
		shared, _ := binary.ReadUvarint(from)
		rest := modelText(from)
		x, _ := binary.ReadUvarint(from)
		e := entry(before[:min(shared, uint64(len(before)))]+rest, x/2, uint8(x%2), "")
		if e.K.Kind == put {
			e.Val = modelText(from)
		}
		l = append(l, e)
	}
	return l
}

// modelParse reads a table from its end: how many entries it has tells how many blocks, and of these all but the last have 16. What it reads is the table if it is right, and has the form b.
func modelParse(b []byte) ([]api.Entry, bool) {
	if len(b) < 12 {
		return nil, false
	}
	left := int(binary.LittleEndian.Uint32(b[len(b)-8:]))
	if left > 8192 {
		return nil, false
	}
	var l []api.Entry
	for at := 0; left > 0; left -= 16 {
		if at+4 > len(b) {
			return nil, false
		}
		size := int(binary.LittleEndian.Uint32(b[at:]))
		if at+8+size > len(b) {
			return nil, false
		}
		l = append(l, modelBlock(b[at+4:at+4+size], min(left, 16))...)
		at += 8 + size
	}
	return l, modelRight(l) && bytes.Equal(modelForm(l), b)
}

// modelSeek goes through entries, one after the other.
func modelSeek(l []api.Entry, k api.Ikey) (api.Entry, bool) {
	for _, e := range l {
		if bytes.Compare(rank(e.K), rank(k)) >= 0 {
			return e, true
		}
	}
	return api.Entry{}, false
}

// holdParse compares Parse, and Meta, with the model.
func holdParse(t *testing.T, b []byte) bool {
	t.Helper()
	was := bytes.Clone(b)
	l, ok := modelParse(b)
	if ok {
		wantParsed(t, "by the model", b, l)
		wantBuilt(t, "by the model", l, b)
		wantMeta(t, 7, b, api.Meta{Num: 7, Size: uint64(len(b)), Least: l[0].K.Key, Most: l[len(l)-1].K.Key})
	} else {
		wantNoParse(t, "by the model", b)
		wantNoMeta(t, "by the model", 7, b, api.ErrTable)
	}
	wantBytes(t, "the argument", b, was)
	return ok
}

// holdBuild compares Build with the model.
func holdBuild(t *testing.T, l []api.Entry) bool {
	t.Helper()
	was := slices.Clone(l)
	ok := modelRight(l)
	if ok {
		wantBuilt(t, "by the model", l, modelForm(l))
		wantParsed(t, "by the model", modelForm(l), l)
	} else {
		wantNoBuild(t, "by the model", l)
		holdParse(t, modelForm(l)) // a delete with a value has the form of one without
	}
	if !slices.Equal(l, was) {
		t.Errorf("the entries became %s", show(l...))
	}
	return ok
}

// keyLike is keys many of which are the same, or begin as others do.
func keyLike(r *rand.Rand) string {
	b := make([]byte, 1+r.Intn(4))
	for i := range b {
		b[i] = []byte{0, 97, 97, 98, 255}[r.Intn(5)]
	}
	if r.Intn(4) == 0 {
		b = append(bytes.Repeat([]byte{97}, 60), b...)
	}
	return string(b)
}

func sequence(r *rand.Rand) uint64 {
	if r.Intn(2) == 0 {
		return r.Uint64() >> (8 + r.Intn(56))
	}
	return []uint64{0, 1, 63, 64, api.MaxSeq - 1, api.MaxSeq}[r.Intn(6)]
}

func rightEntry(r *rand.Rand) api.Entry {
	e := entry(keyLike(r), sequence(r), uint8(r.Intn(2)), "")
	if e.K.Kind == put {
		e.Val = strings.Repeat("v", []int{0, 1, r.Intn(4), 127, 128, 255, 256}[r.Intn(7)])
	}
	return e
}

// countOf is a number of entries: a small one, or one near a full block.
func countOf(r *rand.Rand) int {
	switch r.Intn(4) {
	case 0:
		return 1 + r.Intn(4)
	case 1:
		return 1 + r.Intn(60)
	}
	return 16*(1+r.Intn(4)) - 1 + r.Intn(3)
}

// rightTable is any table that is not great.
func rightTable(r *rand.Rand) []api.Entry {
	l := make([]api.Entry, countOf(r))
	for i := range l {
		l[i] = rightEntry(r)
	}
	slices.SortFunc(l, byRank)
	return slices.CompactFunc(l, func(a, b api.Entry) bool { return a.K == b.K })
}

// nearlyTable is entries that are often a table, and otherwise are none by little.
func nearlyTable(r *rand.Rand) []api.Entry {
	l := rightTable(r)
	i, j := r.Intn(len(l)), r.Intn(len(l))
	switch r.Intn(12) {
	case 0:
		l[i], l[j] = l[j], l[i]
	case 1:
		l = slices.Insert(l, i, l[i])
	case 2:
		l[i] = rightEntry(r)
	case 3:
		l[i].K.Key = strings.Repeat("\xff", []int{0, 1, 63, 64, 65, 300}[r.Intn(6)])
	case 4:
		l[i].K.Seq = []uint64{0, api.MaxSeq, api.MaxSeq + 1, 1 << 62, 1<<63 - 1}[r.Intn(5)]
	case 5:
		l[i].Val = strings.Repeat("v", []int{0, 1, 256, 257, 600}[r.Intn(5)])
	case 6:
		l = nil
	}
	return l
}

// otherGroups is the entries of a table in groups, some of which do not have 16.
func otherGroups(r *rand.Rand, l []api.Entry) parts {
	if r.Intn(2) == 0 {
		return partsOf(l)
	}
	var groups [][]api.Entry
	for len(l) > 0 {
		n := min(len(l), []int{1, 15, 16, 16, 16, 17, 64}[r.Intn(7)])
		groups, l = append(groups, l[:n]), l[n:]
	}
	return grouped(groups...)
}

// nearlyParts is parts of which one is often another one; their check sums are always right.
func nearlyParts(r *rand.Rand) parts {
	p := otherGroups(r, nearlyTableNotEmpty(r)).copied()
	i := r.Intn(len(p.lines))
	one := &p.lines[i]
	small := uint32(r.Intn(4))
	switch r.Intn(16) {
	case 0:
		p.count = changed(r, p.count)
	case 1:
		one.key = changed(r, one.key)
	case 2:
		one.at = changed(r, one.at)
	case 3:
		one.size = changed(r, one.size)
	case 4:
		p.more = changed(r, []byte{0})
	case 5:
		p.at += small
	case 6:
		p.entries += small
	case 7:
		p.ending = string(changed(r, []byte(p.ending)))
	case 8:
		p.blocks[i] = changed(r, p.blocks[i])
	case 9:
		p.lines = slices.Delete(p.lines, i, i+1)
	case 10:
		p.lines = slices.Insert(p.lines, i, *one)
	}
	return p
}

func nearlyTableNotEmpty(r *rand.Rand) []api.Entry {
	if l := nearlyTable(r); len(l) > 0 {
		return l
	}
	return rightTable(r)
}

// edges are bytes at which forms change their ways.
var edges = []byte{0, 1, 2, 3, 4, 5, 8, 11, 16, 64, 65, 97, 98, 127, 128, 129, 254, 255}

// changed is bytes in memory of their own, of which one is another one, is gone, or is too many.
func changed(r *rand.Rand, b []byte) []byte {
	b = slices.Clone(b)
	i, other := r.Intn(len(b)), edges[r.Intn(len(edges))]
	switch r.Intn(4) {
	case 0:
		return slices.Insert(b, i, other)
	case 1:
		return slices.Delete(b, i, i+1)
	case 2:
		return append(b, other)
	}
	b[i] = other
	return b
}

func TestP8_2ParseAgainstModel(t *testing.T) {
	r := rand.New(rand.NewSource(1))
	seen := map[bool]int{}
	for range 10000 {
		b := nearlyParts(r).form()
		if r.Intn(6) == 0 {
			b = changed(r, b)
		}
		seen[holdParse(t, b)]++
	}
	if seen[true] < 1000 || seen[false] < 1000 {
		t.Errorf("the bytes are of one kind: %v", seen)
	}
}

func TestP8_2BuildAgainstModel(t *testing.T) {
	r := rand.New(rand.NewSource(2))
	seen := map[bool]int{}
	for range 6000 {
		seen[holdBuild(t, nearlyTable(r))]++
	}
	if seen[true] < 600 || seen[false] < 600 {
		t.Errorf("the entries are of one kind: %v", seen)
	}
}

func TestP8_2ParseAnyBytes(t *testing.T) {
	r := rand.New(rand.NewSource(3))
	for range 20000 {
		b := make([]byte, r.Intn(60))
		for i := range b {
			b[i] = edges[r.Intn(len(edges))] & []byte{1, 3, 255}[r.Intn(3)]
		}
		holdParse(t, b)
		holdParse(t, framed(b))
		holdParse(t, slices.Concat(framed(b), []byte{0, 0, 0, 0, 1, 0, 0, 0}, []byte("RTL1")))
		holdParse(t, parts{blocks: [][]byte{b}, count: short(1), lines: []line{{keyForm(internal("a", 5, put)), short(0), short(uint64(len(b) + 8))}}, at: uint32(len(b) + 8), entries: 1, ending: "RTL1"}.form())
	}
}

// keyNear is an internal key that is nearly that of an entry of a table, or any, right or not.
func keyNear(r *rand.Rand, l []api.Entry) api.Ikey {
	k := l[r.Intn(len(l))].K
	switch r.Intn(8) {
	case 0:
		k.Seq += uint64(r.Intn(3)) - 1
	case 1:
		k.Kind = edges[r.Intn(len(edges))]
	case 2:
		k.Key = k.Key[:r.Intn(len(k.Key))]
	case 3:
		k.Key += string([]byte{edges[r.Intn(len(edges))]})
	case 4:
		k.Key = keyLike(r)
	case 5:
		k = internal(strings.Repeat("a", r.Intn(100)), r.Uint64(), uint8(r.Intn(256)))
	case 6:
		k.Key = l[len(l)-1].K.Key
	}
	return k
}

func TestP8_3SeekAgainstModel(t *testing.T) {
	r := rand.New(rand.NewSource(4))
	seen := map[bool]int{}
	for range 1000 {
		l := rightTable(r)
		b := modelForm(l)
		for range 12 {
			k := keyNear(r, l)
			wantModelSeek(t, b, l, k)
			_, ok := modelSeek(l, k)
			seen[ok]++
		}
	}
	if seen[true] < 600 || seen[false] < 600 {
		t.Errorf("the keys are of one kind: %v", seen)
	}
}

// P8.3: Seek returns an error where Parse does, and no other.
func TestP8_3SeekErrorsAgainstModel(t *testing.T) {
	r := rand.New(rand.NewSource(5))
	for range 6000 {
		b, k := nearlyParts(r).form(), internal(keyLike(r), sequence(r), put)
		if l, ok := modelParse(b); ok {
			wantModelSeek(t, b, l, k)
		} else {
			wantNoSeek(t, "by the model", b, k)
		}
	}
}

// P8.4: what is built is parsed as the same, what is parsed is built as it stood, and different tables have different forms.
func TestP8_4BuiltThenParsed(t *testing.T) {
	r := rand.New(rand.NewSource(6))
	of := map[string][]api.Entry{}
	for range 3000 {
		l := rightTable(r)
		b, e := table.Build(l)
		if e != api.OK {
			t.Fatalf("Build(%s): error %d", show(l...), e)
		}
		wantParsed(t, "what was built", b, l)
		if other, there := of[string(b)]; there && !slices.Equal(other, l) {
			t.Errorf("%s and %s have one form", show(other...), show(l...))
		}
		of[string(b)] = l
	}
	for range 6000 {
		b := nearlyParts(r).form()
		if l, e := table.Parse(b); e == api.OK {
			wantBuilt(t, "what was parsed", l, b)
		}
	}
}
