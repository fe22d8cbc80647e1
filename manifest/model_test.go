package manifest_test

import (
	"bytes"
	"encoding/binary"
	"hash/crc32"
	"math"
	"math/rand"
	"slices"
	"testing"

	"ratline/api"
	"ratline/manifest"
)

// sealed is bytes with a number in front that need not be theirs, and the check sum of both behind. The library inverts all bits of that sum in the end.
func sealed(n uint32, within []byte) []byte {
	f := append(binary.LittleEndian.AppendUint32(nil, n), within...)
	return binary.LittleEndian.AppendUint32(f, ^crc32.Checksum(f, crc32.MakeTable(crc32.Koopman)))
}

// framed is the frame of bytes, also of too many.
func framed(within []byte) []byte {
	return sealed(uint32(len(within)), within)
}

// modelForm is the form of an edit, whether it is right or not.
func modelForm(e api.Edit) []byte {
	b := []byte{0}
	if len(e.Add) > 0 {
		b[0] = 1
		b = binary.AppendUvarint(b, uint64(len(e.Add)))
	}
	for _, m := range e.Add {
		b = binary.AppendUvarint(binary.AppendUvarint(b, m.Num), m.Size)
		for _, key := range []string{m.Least, m.Most} {
			b = append(binary.AppendUvarint(b, uint64(len(key))), key...)
		}
	}
	for i, x := range []uint64{e.Log, e.Last, e.Next} {
		if x > 0 {
			b[0] += 2 << i
			b = binary.AppendUvarint(b, x)
		}
	}
	return b
}

func modelRecord(e api.Edit) []byte {
	return framed(modelForm(e))
}

// modelManifest is the records of edits, one after the other, whether they are right, and can be applied, or not.
func modelManifest(l ...api.Edit) []byte {
	var b []byte
	for _, e := range l {
		b = append(b, modelRecord(e)...)
	}
	return b
}

// modelEdits is what a version is written as, by the chapter's words.
func modelEdits(v api.Version) []api.Edit {
	l := []api.Edit{{}}
	for i, m := range v.Tables {
		if i > 0 && i%64 == 0 {
			l = append(l, api.Edit{})
		}
		l[len(l)-1].Add = append(l[len(l)-1].Add, m)
	}
	last := &l[len(l)-1]
	last.Log, last.Last, last.Next = v.Log, v.Last, v.Next
	return l
}

func modelRight(e api.Edit) bool {
	for i, m := range e.Add {
		if m.Num == 0 || m.Size == 0 || m.Least == "" || len(m.Least) > 64 || len(m.Most) > 64 || m.Least > m.Most || i > 0 && e.Add[i-1].Num >= m.Num {
			return false
		}
	}
	return len(e.Add) <= 64 && e.Last < 1<<56 && (len(e.Add) > 0 || e.Log > 0 || e.Last > 0 || e.Next > 0)
}

// modelApply returns false, and v, if e can't be applied.
func modelApply(v api.Version, e api.Edit) (api.Version, bool) {
	if !modelRight(e) || e.Log > 0 && e.Log < v.Log || e.Last > 0 && e.Last < v.Last || e.Next > 0 && e.Next < v.Next {
		return v, false
	}
	for _, m := range v.Tables {
		if len(e.Add) > 0 && m.Num >= e.Add[0].Num {
			return v, false
		}
	}
	return version(slices.Concat(v.Tables, e.Add), max(v.Log, e.Log), max(v.Last, e.Last), max(v.Next, e.Next)), true
}

// modelParse reads an edit as far as it can; within is a form if what was read is right, and has that form.
func modelParse(within []byte) (api.Edit, bool) {
	b := bytes.NewReader(within)
	number := func() uint64 {
		x, _ := binary.ReadUvarint(b)
		return x
	}
	text := func() string {
		s := make([]byte, min(number(), 100))
		n, _ := b.Read(s)
		return string(s[:n])
	}
	var e api.Edit
	first, _ := b.ReadByte()
	if first&1 > 0 {
		for range min(number(), 100) {
			e.Add = append(e.Add, api.Meta{Num: number(), Size: number(), Least: text(), Most: text()})
		}
	}
	for i, x := range []*uint64{&e.Log, &e.Last, &e.Next} {
		if first>>(i+1)&1 > 0 {
			*x = number()
		}
	}
	return e, modelRight(e) && bytes.Equal(modelForm(e), within)
}

// modelFrame is what is within the frame that b begins with.
func modelFrame(b []byte) ([]byte, bool) {
	if len(b) < 8 {
		return nil, false
	}
	n := int64(binary.LittleEndian.Uint32(b))
	if n > 1<<20 || n > int64(len(b)-8) {
		return nil, false
	}
	within := b[4 : 4+n]
	return within, bytes.HasPrefix(b, framed(within))
}

// modelRead is what the chapter says that is read, and how many records that is.
func modelRead(b []byte) (v api.Version, used, records int) {
	for {
		within, ok := modelFrame(b[used:])
		if !ok {
			return v, used, records
		}
		e, ok := modelParse(within)
		if !ok {
			return v, used, records
		}
		if v, ok = modelApply(v, e); !ok {
			return v, used, records
		}
		used, records = used+8+len(within), records+1
	}
}

// holdRead compares Read with the model, and tells how many records there are.
func holdRead(t *testing.T, b []byte) int {
	t.Helper()
	was := bytes.Clone(b)
	v, used, records := modelRead(b)
	wantRead(t, "by the model", b, v, used)
	wantBytes(t, "the argument", b, was)
	return records
}

// edgy is a number near one at which something changes, most often a small one.
func edgy(r *rand.Rand) uint64 {
	edges := []uint64{127, 128, 255, 256, 16384, api.MaxSeq, api.MaxSeq + 1, 1 << 63, math.MaxUint64}
	switch r.Intn(8) {
	case 0:
		return edges[r.Intn(len(edges))]
	case 1:
		return r.Uint64() >> r.Intn(64)
	}
	return uint64(r.Intn(5))
}

func someKey(r *rand.Rand) string {
	switch r.Intn(20) {
	case 0:
		return again(62 + r.Intn(4))
	case 1:
		return string([]byte{byte(r.Intn(256)), byte(r.Intn(256))})
	case 2:
		return again(r.Intn(3))
	}
	return string([]byte{byte('a' + r.Intn(20))})
}

// someNotes are notes that are most often right, and above that number.
func someNotes(r *rand.Rand, above uint64, n int) []api.Meta {
	var l []api.Meta
	for range n {
		m := note(above+1+uint64(r.Intn(3)), 1+edgy(r), someKey(r), someKey(r))
		if m.Least > m.Most && r.Intn(30) > 0 {
			m.Least, m.Most = m.Most, m.Least
		}
		if r.Intn(60) == 0 {
			m.Num -= uint64(r.Intn(6))
		}
		l, above = append(l, m), m.Num
	}
	return l
}

// someEdit is an edit that most often can be applied to a version.
func someEdit(r *rand.Rand, v api.Version) api.Edit {
	var above uint64
	if n := len(v.Tables); n > 0 {
		above = v.Tables[n-1].Num
	}
	e := edited(someNotes(r, above, r.Intn(3)), 0, 0, 0)
	if r.Intn(30) == 0 {
		e.Add = someNotes(r, above, 63+r.Intn(3))
	}
	for _, n := range []struct {
		says *uint64
		was  uint64
	}{{&e.Log, v.Log}, {&e.Last, v.Last}, {&e.Next, v.Next}} {
		switch r.Intn(6) {
		case 0:
			*n.says = n.was
		case 1:
			*n.says = n.was + edgy(r)
		case 2:
			*n.says = n.was + uint64(r.Intn(3)) - uint64(r.Intn(2)*r.Intn(2))
		}
	}
	return e
}

// someChain is a few edits, one after the other: some of them can't be applied.
func someChain(r *rand.Rand) []api.Edit {
	var l []api.Edit
	var v api.Version
	for range r.Intn(7) {
		e := someEdit(r, v)
		v, _ = modelApply(v, e)
		l = append(l, e)
	}
	return l
}

func TestP10_2ReadAgainstModel(t *testing.T) {
	r := rand.New(rand.NewSource(1))
	seen := map[int]int{}
	for range 30000 {
		b := modelManifest(someChain(r)...)
		for range r.Intn(3) {
			i := r.Intn(len(b) + 1)
			switch r.Intn(8) {
			case 0:
				b = slices.Insert(b, i, byte(edgy(r)))
			case 1:
				b = slices.Delete(b, i, min(i+1, len(b)))
			case 2:
				b = b[:i]
			}
		}
		seen[holdRead(t, b)]++
	}
	for n := range 6 {
		if seen[n] < 500 {
			t.Errorf("of 30000 manifests only %d have %d records", seen[n], n)
		}
	}
}

// What is within a frame need not be a form: a byte of it is another one, or is gone, or is one too many.
func TestP10_2ReadNearlyForms(t *testing.T) {
	r := rand.New(rand.NewSource(2))
	seen := map[int]int{}
	for range 30000 {
		var b []byte
		for _, e := range someChain(r) {
			form := modelForm(e)
			i := r.Intn(len(form))
			switch r.Intn(20) {
			case 0:
				form[i] = byte(edgy(r))
			case 1:
				form = slices.Delete(form, i, i+1)
			case 2:
				form = slices.Insert(form, i, byte(edgy(r)))
			}
			b = append(b, framed(form)...)
		}
		seen[holdRead(t, b)]++
	}
	for n := range 6 {
		if seen[n] < 300 {
			t.Errorf("of 30000 manifests only %d have %d records", seen[n], n)
		}
	}
}

func TestP10_2ReadAnyBytes(t *testing.T) {
	r := rand.New(rand.NewSource(3))
	read := 0
	for range 50000 {
		b := make([]byte, r.Intn(10))
		for i := range b {
			b[i] = byte(edgy(r))
		}
		holdRead(t, b)
		read += holdRead(t, slices.Concat(framed(b), framed([]byte{2, 200, 1}), b))
	}
	if read < 500 {
		t.Errorf("of 50000 only %d records were read", read)
	}
}

func TestP10_1RecordAgainstModel(t *testing.T) {
	r := rand.New(rand.NewSource(4))
	seen := map[bool]int{}
	for range 20000 {
		e := edited(someNotes(r, edgy(r)%10, r.Intn(4)), edgy(r), edgy(r), edgy(r))
		if r.Intn(10) == 0 {
			e.Log, e.Last, e.Next = 0, 0, 0
		}
		seen[modelRight(e)]++
		if modelRight(e) {
			wantRecord(t, e, modelRecord(e))
		} else {
			wantNoRecord(t, "by the model", e)
		}
	}
	if seen[true] < 1000 || seen[false] < 1000 {
		t.Errorf("the edits are of one kind: %v", seen)
	}
}

func TestP10_2BytesAgainstModel(t *testing.T) {
	r := rand.New(rand.NewSource(5))
	seen := map[bool]int{}
	for range 20000 {
		v := version(someNotes(r, 0, r.Intn(3)), edgy(r), edgy(r), edgy(r))
		if r.Intn(5) == 0 {
			v.Tables = ordinary(1, []int{0, 63, 64, 65, 127, 128, 129, 300}[r.Intn(8)])
			for range r.Intn(2) * len(v.Tables) / 60 {
				v.Tables[r.Intn(len(v.Tables))].Num += uint64(r.Intn(2))
			}
		}
		if r.Intn(5) == 0 {
			v.Log, v.Last, v.Next = 0, 0, 0
		}
		b := modelManifest(modelEdits(v)...)
		_, used, records := modelRead(b)
		right := used == len(b) && records == len(modelEdits(v))
		seen[right]++
		if right {
			wantVersion(t, v, b)
		} else {
			wantNoVersion(t, "by the model", v)
		}
	}
	if seen[true] < 1000 || seen[false] < 1000 {
		t.Errorf("the versions are of one kind: %v", seen)
	}
}

// P10.3: edits that can be applied are read as the version that they lead to, of a prefix those within it; and the version has bytes.
func TestP10_3WrittenThenRead(t *testing.T) {
	r := rand.New(rand.NewSource(6))
	for range 5000 {
		var b []byte
		to, at := []api.Version{{}}, []int{0}
		for _, e := range someChain(r) {
			v, ok := modelApply(to[len(to)-1], e)
			if !ok {
				continue
			}
			record, err := manifest.Record(e)
			if err != api.OK {
				t.Errorf("Record(%s): error %d", tellEdit(e), err)
			}
			b = append(b, record...)
			to, at = append(to, v), append(at, len(b))
		}
		last := len(to) - 1
		wantRead(t, "edits", b, to[last], len(b))
		cut := r.Intn(len(b) + 1)
		n, whole := slices.BinarySearch(at, cut)
		if !whole {
			n--
		}
		wantRead(t, "a prefix", b[:cut], to[n], at[n])
		if last == 0 {
			continue
		}
		again, err := manifest.Bytes(to[last])
		if err != api.OK {
			t.Errorf("Bytes(%s): error %d", tell(to[last]), err)
		}
		wantRead(t, "written again", again, to[last], len(again))
	}
}
