package block_test

import (
	"bytes"
	"encoding/binary"
	"math"
	"math/rand"
	"slices"
	"strings"
	"testing"

	"ratline/api"
	"ratline/block"
)

// parts are what the form of an entry consists of; they need not be those of an entry.
type parts struct {
	shared uint64
	rest   string
	number uint64
	valued bool
	val    string
}

// short is the short form of a number: the library has it, too.
func short(x uint64) []byte {
	return binary.AppendUvarint(nil, x)
}

func textForm(s string) []byte {
	return append(short(uint64(len(s))), s...)
}

func (p parts) form() []byte {
	b := slices.Concat(short(p.shared), textForm(p.rest), short(p.number))
	if p.valued {
		b = append(b, textForm(p.val)...)
	}
	return b
}

// prefix is the length of the longest common prefix.
func prefix(a, b string) int {
	n := min(len(a), len(b))
	for a[:n] != b[:n] {
		n--
	}
	return n
}

// partsOf is what the form of entries, a block or not, consists of.
func partsOf(l []api.Entry) []parts {
	var all []parts
	for i, e := range l {
		n := 0
		if i%4 > 0 {
			n = prefix(l[i-1].K.Key, e.K.Key)
		}
		all = append(all, parts{uint64(n), e.K.Key[n:], 2*e.K.Seq + uint64(e.K.Kind), e.K.Kind == put, e.Val})
	}
	return all
}

// tail is what stands behind the forms of entries: positions, and a number that need not be theirs.
func tail(count uint32, positions ...uint32) []byte {
	var b []byte
	for _, p := range append(slices.Clone(positions), count) {
		b = binary.LittleEndian.AppendUint32(b, p)
	}
	return b
}

// joined is the forms of entries, one after the other, and the positions at which each fourth one begins.
func joined(all []parts) (b []byte, positions []uint32) {
	for i, p := range all {
		if i%4 == 0 {
			positions = append(positions, uint32(len(b)))
		}
		b = append(b, p.form()...)
	}
	return b, positions
}

// finished is what joined returns, as a form.
func finished(b []byte, positions []uint32) []byte {
	return append(b, tail(uint32(len(positions)), positions...)...)
}

// modelForm is the form of entries, whether they are a block or not.
func modelForm(l []api.Entry) []byte {
	return finished(joined(partsOf(l)))
}

// rank is bytes that stand, byte by byte, in the order of internal keys: a byte 0 ends a Key, and each of its bytes has a 1 ahead.
func rank(k api.Ikey) []byte {
	var b []byte
	for _, c := range []byte(k.Key) {
		b = append(b, 1, c)
	}
	b = append(b, 0)
	b = binary.BigEndian.AppendUint64(b, math.MaxUint64-k.Seq)
	return append(b, 255-k.Kind)
}

func byRank(a, b api.Entry) int {
	return bytes.Compare(rank(a.K), rank(b.K))
}

// modelRight goes by the chapters' words alone.
func modelRight(l []api.Entry) bool {
	for i, e := range l {
		if len(e.K.Key) < 1 || len(e.K.Key) > 64 || e.K.Seq >= 1<<56 || e.K.Kind > 1 || len(e.Val) > 256*int(e.K.Kind) {
			return false
		}
		if i > 0 && byRank(l[i-1], e) >= 0 {
			return false
		}
	}
	return len(l) >= 1 && len(l) <= 64
}

// modelText reads a text as far as it can; what it reads need not be right.
func modelText(b *bytes.Reader) string {
	n, _ := binary.ReadUvarint(b)
	s := make([]byte, min(n, 1000))
	k, _ := b.Read(s)
	return string(s[:k])
}

// modelParse reads entries from the beginning on, as far as it can, till what is left is as long as what stands behind so many of them; they are the block if they are right, and have the form b.
func modelParse(b []byte) ([]api.Entry, bool) {
	var l []api.Entry
	from := bytes.NewReader(b)
	for before := ""; len(l) < 64 && from.Len() > 0; before = l[len(l)-1].K.Key {
		shared, _ := binary.ReadUvarint(from)
		rest := modelText(from)
		x, _ := binary.ReadUvarint(from)
		e := entry(before[:min(shared, uint64(len(before)))]+rest, x/2, uint8(x%2), "")
		if e.K.Kind == put {
			e.Val = modelText(from)
		}
		l = append(l, e)
		if from.Len() == 4+(len(l)+3)/4*4 && modelRight(l) && bytes.Equal(modelForm(l), b) {
			return l, true
		}
	}
	return nil, false
}

// modelSeek goes through entries, one after the other.
func modelSeek(l []api.Entry, k api.Ikey) (api.Entry, bool) {
	for _, e := range l {
		if bytes.Compare(rank(e.K), rank(k)) >= 0 {
			return e, true
		}
	}
	return api.Entry{}, false
}

// holdParse compares Parse with the model.
func holdParse(t *testing.T, b []byte) bool {
	t.Helper()
	was := bytes.Clone(b)
	l, ok := modelParse(b)
	if ok {
		wantParsed(t, "by the model", b, l)
		wantBuilt(t, "by the model", l, b)
	} else {
		wantNoParse(t, "by the model", b)
	}
	wantBytes(t, "the argument", b, was)
	return ok
}

// holdBuild compares Build with the model.
func holdBuild(t *testing.T, l []api.Entry) bool {
	t.Helper()
	was := slices.Clone(l)
	ok := modelRight(l)
	if ok {
		wantBuilt(t, "by the model", l, modelForm(l))
		wantParsed(t, "by the model", modelForm(l), l)
	} else {
		wantNoBuild(t, "by the model", l)
		holdParse(t, modelForm(l)) // a delete with a value has the form of one without
	}
	if !slices.Equal(l, was) {
		t.Errorf("the entries became %s", show(l...))
	}
	return ok
}

// edges are bytes at which forms change their ways.
var edges = []byte{0, 1, 2, 3, 4, 5, 8, 11, 64, 65, 97, 98, 127, 128, 129, 254, 255}

func edgeByte(r *rand.Rand) byte {
	if r.Intn(2) == 0 {
		return byte(r.Intn(256))
	}
	return edges[r.Intn(len(edges))]
}

// keyLike is keys many of which are the same, or begin as others do.
func keyLike(r *rand.Rand) string {
	b := make([]byte, 1+r.Intn(4))
	for i := range b {
		b[i] = []byte{0, 97, 97, 98, 255}[r.Intn(5)]
	}
	if r.Intn(4) == 0 {
		b = append(bytes.Repeat([]byte{97}, 60), b...)
	}
	return string(b)
}

func sequence(r *rand.Rand) uint64 {
	if r.Intn(2) == 0 {
		return r.Uint64() >> (8 + r.Intn(56))
	}
	return []uint64{0, 1, 63, 64, api.MaxSeq - 1, api.MaxSeq}[r.Intn(6)]
}

func rightEntry(r *rand.Rand) api.Entry {
	e := entry(keyLike(r), sequence(r), uint8(r.Intn(2)), "")
	if e.K.Kind == put {
		e.Val = strings.Repeat("v", []int{0, 1, r.Intn(4), 127, 128, 255, 256}[r.Intn(7)])
	}
	return e
}

// countOf is a number of entries: a small one, or one near the greatest.
func countOf(r *rand.Rand) int {
	if r.Intn(8) == 0 {
		return 59 + r.Intn(6)
	}
	return 1 + r.Intn(14)
}

// rightBlock is any block.
func rightBlock(r *rand.Rand) []api.Entry {
	l := make([]api.Entry, countOf(r))
	for i := range l {
		l[i] = rightEntry(r)
	}
	slices.SortFunc(l, byRank)
	return slices.CompactFunc(l, func(a, b api.Entry) bool { return a.K == b.K })
}

// nearlyBlock is entries that are often a block, and otherwise are none by little.
func nearlyBlock(r *rand.Rand) []api.Entry {
	l := rightBlock(r)
	i, j := r.Intn(len(l)), r.Intn(len(l))
	switch r.Intn(12) {
	case 0:
		l[i], l[j] = l[j], l[i]
	case 1:
		l = slices.Insert(l, i, l[i])
	case 2:
		l[i] = rightEntry(r)
	case 3:
		l[i].K.Key = strings.Repeat("\xff", []int{0, 1, 63, 64, 65, 300}[r.Intn(6)])
	case 4:
		l[i].K.Seq = []uint64{0, api.MaxSeq, api.MaxSeq + 1, 1 << 62, 1<<63 - 1}[r.Intn(5)]
	case 5:
		l[i].Val = strings.Repeat("v", []int{0, 1, 256, 257, 600}[r.Intn(5)])
	case 6:
		l = nil
	}
	return l
}

// nearlyForm is the form of a block of which a part, a position or a byte is another one, is gone, or is too many.
func nearlyForm(r *rand.Rand) []byte {
	all := partsOf(rightBlock(r))
	p := &all[r.Intn(len(all))]
	switch r.Intn(10) {
	case 0:
		p.shared = uint64(r.Intn(6))
	case 1:
		p.rest = p.rest[:r.Intn(len(p.rest)+1)]
	case 2:
		p.number = []uint64{0, 1, 1<<57 - 1, 1 << 57, 1<<57 + 1, 1 << 63, math.MaxUint64, r.Uint64()}[r.Intn(8)]
	case 3:
		p.valued = !p.valued
	case 4:
		p.shared, p.rest = p.shared+1, p.rest[min(1, len(p.rest)):]
	}
	b, positions := joined(all)
	if r.Intn(8) == 0 {
		positions[r.Intn(len(positions))] += uint32(r.Intn(3)) - 1
	}
	b = finished(b, positions)
	if r.Intn(3) == 0 {
		return changed(r, b)
	}
	return b
}

// changed is bytes of which one is another one, is gone, or is too many.
func changed(r *rand.Rand, b []byte) []byte {
	i := r.Intn(len(b))
	switch r.Intn(4) {
	case 0:
		return slices.Insert(b, i, edgeByte(r))
	case 1:
		return slices.Delete(b, i, i+1)
	case 2:
		return b[:i]
	}
	b[i] = edgeByte(r)
	return b
}

func TestP7_1ParseAgainstModel(t *testing.T) {
	r := rand.New(rand.NewSource(1))
	seen := map[bool]int{}
	for range 40000 {
		seen[holdParse(t, nearlyForm(r))]++
	}
	if seen[true] < 4000 || seen[false] < 4000 {
		t.Errorf("the bytes are of one kind: %v", seen)
	}
}

func TestP7_1BuildAgainstModel(t *testing.T) {
	r := rand.New(rand.NewSource(2))
	seen := map[bool]int{}
	for range 20000 {
		seen[holdBuild(t, nearlyBlock(r))]++
	}
	if seen[true] < 2000 || seen[false] < 2000 {
		t.Errorf("the entries are of one kind: %v", seen)
	}
}

// All bytes of few kinds that may stand ahead of one position, or of two.
func TestP7_1ParseAllShortOnes(t *testing.T) {
	const kinds = "\x00\x01\x02\x03a"
	parsed := 0
	var all func(b []byte, left int)
	all = func(b []byte, left int) {
		for _, behind := range [][]byte{tail(1, 0), tail(2, 0, 4), tail(0)} {
			if holdParse(t, slices.Concat(b, behind)) {
				parsed++
			}
		}
		for i := 0; i < len(kinds) && left > 0; i++ {
			all(append(b, kinds[i]), left-1)
		}
	}
	all(nil, 7)
	if parsed < 100 {
		t.Errorf("only %d of these are blocks", parsed)
	}
}

func TestP7_1ParseAnyBytes(t *testing.T) {
	r := rand.New(rand.NewSource(3))
	for range 50000 {
		b := make([]byte, r.Intn(30))
		for i := range b {
			b[i] = edgeByte(r) & []byte{1, 3, 255}[r.Intn(3)]
		}
		holdParse(t, b)
		holdParse(t, append(b, tail(1, 0)...))
	}
}

// keyNear is an internal key that is nearly that of an entry of a block, or any, right or not.
func keyNear(r *rand.Rand, l []api.Entry) api.Ikey {
	k := l[r.Intn(len(l))].K
	switch r.Intn(8) {
	case 0:
		k.Seq += uint64(r.Intn(3)) - 1
	case 1:
		k.Kind = edgeByte(r)
	case 2:
		k.Key = k.Key[:r.Intn(len(k.Key))]
	case 3:
		k.Key += string([]byte{edgeByte(r)})
	case 4:
		k.Key = keyLike(r)
	case 5:
		k = api.Ikey{Key: strings.Repeat("a", r.Intn(100)), Seq: r.Uint64(), Kind: edgeByte(r)}
	}
	return k
}

func TestP7_2SeekAgainstModel(t *testing.T) {
	r := rand.New(rand.NewSource(4))
	seen := map[bool]int{}
	for range 3000 {
		l := rightBlock(r)
		b := modelForm(l)
		for range 20 {
			k := keyNear(r, l)
			wantModelSeek(t, b, l, k)
			_, ok := modelSeek(l, k)
			seen[ok]++
		}
	}
	if seen[true] < 2000 || seen[false] < 2000 {
		t.Errorf("the keys are of one kind: %v", seen)
	}
}

// P7.2: Seek returns an error where Parse does, and no other.
func TestP7_2SeekErrorsAgainstModel(t *testing.T) {
	r := rand.New(rand.NewSource(5))
	for range 20000 {
		b, k := nearlyForm(r), api.Ikey{Key: keyLike(r), Seq: sequence(r), Kind: put}
		if l, ok := modelParse(b); ok {
			wantModelSeek(t, b, l, k)
		} else {
			wantNoSeek(t, "by the model", b, k)
		}
	}
}

// P7.3: what is built is parsed as the same, and each entry is found by its key.
func TestP7_3BuiltThenParsed(t *testing.T) {
	r := rand.New(rand.NewSource(6))
	for range 3000 {
		l := rightBlock(r)
		b, e := block.Build(l)
		if e != api.OK {
			t.Errorf("Build(%s): error %d", show(l...), e)
		}
		wantParsed(t, "what was built", b, l)
		for _, one := range l {
			wantSeek(t, b, one.K, one)
		}
	}
}

// P7.3: of bytes that are nearly forms, what is parsed is built as it stood.
func TestP7_3ParsedThenBuilt(t *testing.T) {
	r := rand.New(rand.NewSource(7))
	for range 20000 {
		b := nearlyForm(r)
		if l, e := block.Parse(b); e == api.OK {
			wantBuilt(t, "what was parsed", l, b)
		}
	}
}

// P7.3: different blocks have different forms.
func TestP7_3DifferentForms(t *testing.T) {
	r := rand.New(rand.NewSource(8))
	of := map[string][]api.Entry{}
	for range 20000 {
		l := rightBlock(r)
		l = l[:min(len(l), 1+r.Intn(3))]
		b, _ := block.Build(l)
		if other, there := of[string(b)]; there && !slices.Equal(other, l) {
			t.Errorf("%s and %s have the same form", show(l...), show(other...))
		}
		of[string(b)] = l
	}
}
