package wal_test

import (
	"bytes"
	"encoding/binary"
	"hash/crc32"
	"math/big"
	"math/rand"
	"regexp"
	"slices"
	"strings"
	"testing"

	"ratline/api"
	"ratline/wal"
)

// short is the short form of a number: the library has it, too.
func short(x uint64) []byte {
	return binary.AppendUvarint(nil, x)
}

func textForm(s string) []byte {
	return append(short(uint64(len(s))), s...)
}

// groupForm is the form of operations, whether they are a group or not.
func groupForm(l []api.Op) []byte {
	b := short(uint64(len(l)))
	for _, o := range l {
		b = append(append(b, o.Kind), textForm(o.Key)...)
		if o.Kind == 1 {
			b = append(b, textForm(o.Val)...)
		}
	}
	return b
}

// sealed is bytes with a number in front that need not be theirs, and the check sum of both behind. The library inverts all bits of that sum in the end.
func sealed(n uint32, within []byte) []byte {
	f := append(binary.LittleEndian.AppendUint32(nil, n), within...)
	return binary.LittleEndian.AppendUint32(f, ^crc32.Checksum(f, crc32.MakeTable(crc32.Koopman)))
}

// framed is the frame of bytes.
func framed(within ...[]byte) []byte {
	b := slices.Concat(within...)
	return sealed(uint32(len(b)), b)
}

// modelForm is the form of a record, whether it is right or not.
func modelForm(r api.Rec) []byte {
	return framed(short(r.First), groupForm(r.Ops))
}

// modelRight goes by the chapters' words alone.
func modelRight(r api.Rec) bool {
	n := uint64(len(r.Ops))
	if n < 1 || n > 128 || r.First < 1 || r.First >= 1<<56 || r.First+n > 1<<56 {
		return false
	}
	for _, o := range r.Ops {
		if len(o.Key) < 1 || len(o.Key) > 64 || o.Kind > 1 || len(o.Val) > 256*int(o.Kind) {
			return false
		}
	}
	return true
}

// modelText reads a text as far as it can; what it reads need not be right.
func modelText(b *bytes.Reader) string {
	n, _ := binary.ReadUvarint(b)
	s := make([]byte, min(n, 1000))
	k, _ := b.Read(s)
	return string(s[:k])
}

// modelRecord reads a record as far as it can; b begins with a record if what was read is right, and b begins with the form of that.
func modelRecord(b []byte) (api.Rec, int, bool) {
	within := bytes.NewReader(b[min(4, len(b)):])
	var r api.Rec
	r.First, _ = binary.ReadUvarint(within)
	n, _ := binary.ReadUvarint(within)
	for range min(n, 1000) {
		kind, _ := within.ReadByte()
		o := api.Op{Kind: kind, Key: modelText(within)}
		if kind == 1 {
			o.Val = modelText(within)
		}
		r.Ops = append(r.Ops, o)
	}
	form := modelForm(r)
	return r, len(form), modelRight(r) && bytes.HasPrefix(b, form)
}

func modelRead(b []byte) (l []api.Rec, used int, torn bool) {
	for used < len(b) {
		r, n, ok := modelRecord(b[used:])
		if !ok || len(l) > 0 && l[len(l)-1].First+uint64(len(l[len(l)-1].Ops)) != r.First {
			break
		}
		l, used = append(l, r), used+n
	}
	return l, used, used < len(b)
}

// holdRead compares Read with the model.
func holdRead(t *testing.T, b []byte) int {
	t.Helper()
	was := bytes.Clone(b)
	l, used, torn := modelRead(b)
	wantRead(t, "by the model", b, l, used, torn)
	wantBytes(t, "the argument", b, was)
	return len(l)
}

// edges are bytes at which forms change their ways.
var edges = []byte{0, 1, 2, 3, 7, 8, 64, 65, 97, 127, 128, 129, 254, 255}

func edgeByte(r *rand.Rand) byte {
	if r.Intn(2) == 0 {
		return byte(r.Intn(256))
	}
	return edges[r.Intn(len(edges))]
}

func text(r *rand.Rand, least, most int) string {
	n := least + r.Intn(4)
	if r.Intn(10) == 0 {
		n = most - r.Intn(3)
	}
	b := make([]byte, n)
	for i := range b {
		b[i] = edgeByte(r)
	}
	return string(b)
}

func rightOps(r *rand.Rand) []api.Op {
	n := 1 + r.Intn(3)
	if r.Intn(20) == 0 {
		n = []int{31, 32, 33, 127, 128}[r.Intn(5)]
	}
	l := make([]api.Op, n)
	for i := range l {
		l[i] = op(uint8(r.Intn(2)), text(r, 1, 64), "")
		if l[i].Kind == put {
			l[i].Val = text(r, 0, 256)
		}
	}
	return l
}

// firstOf is the first sequence of a log: the least ones, those at which forms are longer, any, and those that leave little room.
func firstOf(r *rand.Rand) uint64 {
	return []uint64{1, 2, 120 + uint64(r.Intn(16)), 1 + r.Uint64()>>(8+r.Intn(56)), api.MaxSeq - uint64(r.Intn(8)), api.MaxSeq - uint64(r.Intn(300))}[r.Intn(6)]
}

// logged is some right records with consecutive sequences, as many as fit.
func logged(r *rand.Rand) []api.Rec {
	var l []api.Rec
	for next, n := firstOf(r), r.Intn(5); n > 0; n-- {
		one := api.Rec{First: next, Ops: rightOps(r)}
		if modelRight(one) {
			l, next = append(l, one), next+uint64(len(one.Ops))
		}
	}
	return l
}

// nearly is a log of which a record or two do not go on from the one before, or are not right, and of which a few bytes are others, are gone, or are too many.
func nearly(r *rand.Rand) []byte {
	l := logged(r)
	if len(l) > 0 && r.Intn(4) == 0 {
		l[r.Intn(len(l))].First += uint64(r.Intn(5)) - 2
	}
	if len(l) > 0 && r.Intn(4) == 0 {
		ops := l[r.Intn(len(l))].Ops
		ops[r.Intn(len(ops))].Kind = uint8(r.Intn(3))
	}
	b := written(l...)
	for range r.Intn(3) {
		i := r.Intn(len(b) + 1)
		switch r.Intn(8) {
		case 0:
			b = slices.Insert(b, i, edgeByte(r))
		case 1:
			b = slices.Delete(b, i, min(i+1, len(b)))
		case 2:
			b = b[:i]
		case 3:
			if i < len(b) {
				b[i] = edgeByte(r)
			}
		}
	}
	return b
}

func TestP6_2ReadAgainstModel(t *testing.T) {
	r := rand.New(rand.NewSource(1))
	seen := map[int]int{}
	for range 30000 {
		b := nearly(r)
		n := holdRead(t, b)
		seen[n]++
	}
	for n := range 5 {
		if seen[n] < 1000 {
			t.Errorf("of 30000 logs only %d have %d records", seen[n], n)
		}
	}
}

// All bytes at each place of what is within a frame: the frame is right, and what it holds need not be.
func TestP6_2ReadAnyBytesWithin(t *testing.T) {
	for _, within := range [][]byte{
		{1, 1, 0, 1, 97},
		{1, 1, 1, 1, 97, 0},
		{128, 1, 2, 1, 1, 97, 1, 120, 0, 1, 98},
		slices.Concat(short(api.MaxSeq), []byte{1, 0, 1, 97}),
		slices.Concat(short(api.MaxSeq-1), []byte{2, 0, 1, 97, 0, 1, 98}),
	} {
		for i, was := range within {
			for a := range 256 {
				within[i] = byte(a)
				holdRead(t, framed(within))
				holdRead(t, framed(slices.Insert(slices.Clone(within), i, byte(a))))
				holdRead(t, slices.Concat(framed(within), modelForm(rec(2, op(put, "b", "")))))
			}
			within[i] = was
			holdRead(t, framed(within[:i]))
			holdRead(t, framed(slices.Delete(slices.Clone(within), i, i+1)))
		}
	}
}

func TestP6_2ReadAnyBytes(t *testing.T) {
	r := rand.New(rand.NewSource(2))
	read := 0
	for range 50000 {
		b := make([]byte, r.Intn(12))
		for i := range b {
			b[i] = edgeByte(r) & []byte{1, 3, 255}[r.Intn(3)]
		}
		holdRead(t, b)
		if holdRead(t, framed(b)) > 0 {
			read++
		}
	}
	if read < 100 {
		t.Errorf("of 50000 frames only %d hold a record", read)
	}
}

// Records that are right by their parts, or are not, have a form, or have none.
func TestP6_2BytesAgainstModel(t *testing.T) {
	r := rand.New(rand.NewSource(3))
	seen := map[bool]int{}
	for range 30000 {
		one := api.Rec{First: firstOf(r), Ops: rightOps(r)}
		o := &one.Ops[r.Intn(len(one.Ops))]
		switch r.Intn(10) {
		case 0:
			one.First = []uint64{0, api.MaxSeq + 1, 1 << 63, ^uint64(r.Intn(200))}[r.Intn(4)]
		case 1:
			one.Ops = nil
		case 2:
			one.Ops = slices.Repeat(one.Ops, 128)[:127+r.Intn(3)%len(one.Ops)]
		case 3:
			o.Kind = uint8(r.Intn(256))
		case 4:
			o.Key = strings.Repeat("\x00", []int{0, 1, 64, 65, 300}[r.Intn(5)])
		case 5:
			o.Val = strings.Repeat("\x00", []int{0, 1, 256, 257, 600}[r.Intn(5)])
		}
		seen[modelRight(one)]++
		if modelRight(one) {
			wantForm(t, one, modelForm(one))
		} else {
			wantNoForm(t, "by the model", one)
		}
	}
	if seen[true] < 1000 || seen[false] < 1000 {
		t.Errorf("the records are of one kind: %v", seen)
	}
}

// What the chapter says of names, as an expression, and a comparison of numbers of any size.
func TestP6_1NumberAgainstModel(t *testing.T) {
	form := regexp.MustCompile(`\Alog\.[1-9][0-9]*\z`)
	most := new(big.Int).SetUint64(1<<64 - 1)
	hold := func(name string) {
		x, _ := new(big.Int).SetString(strings.TrimPrefix(name, "log."), 10)
		if form.MatchString(name) && x.Cmp(most) <= 0 {
			wantNumber(t, name, x.Uint64())
		} else {
			wantNoNumber(t, name)
		}
	}
	for _, name := range []string{"log.1", "log.90", "log.18446744073709551615", "log.18446744073709551614", "log.9999999999999999999"} {
		hold(name)
		for i := range len(name) + 1 {
			hold(name[:i])
			for c := range 256 {
				hold(name[:i] + string([]byte{byte(c)}) + name[i:])
				hold(name[:i] + string([]byte{byte(c)}) + name[min(i+1, len(name)):])
			}
			hold(name[:i] + name[min(i+1, len(name)):])
		}
	}
	r := rand.New(rand.NewSource(4))
	for range 20000 {
		hold("log." + big.NewInt(0).Rand(r, big.NewInt(0).Lsh(most, uint(r.Intn(3)))).String())
		hold("log." + big.NewInt(0).Add(most, big.NewInt(r.Int63n(2000)-1000)).String())
	}
}

// P6.3: records with consecutive sequences are read as they were; of a prefix a prefix of the records; and what stands behind a torn one is not read.
func TestP6_3WrittenThenRead(t *testing.T) {
	r := rand.New(rand.NewSource(5))
	for range 5000 {
		l := logged(r)
		var b []byte
		ends := []int{0}
		for _, one := range l {
			form, e := wal.Bytes(one)
			if e != api.OK {
				t.Errorf("Bytes(%s): error %d", show(one), e)
			}
			b = append(b, form...)
			ends = append(ends, len(b))
		}
		wantRead(t, "what was written", b, l, len(b), false)
		cut := r.Intn(len(b) + 1)
		n, whole := slices.BinarySearch(ends, cut)
		if !whole {
			n-- // the record that ends behind the cut is torn
			wantRead(t, "a torn record with a whole one behind", slices.Concat(b[:cut], modelForm(rec(l[n].First, op(put, "a", "")))), l[:n], ends[n], true)
		}
		wantRead(t, "a prefix", b[:cut], l[:n], ends[n], !whole)
	}
}
