package batch_test

import (
	"bytes"
	"fmt"
	"math/rand"
	"slices"
	"strings"
	"testing"

	"ratline/api"
	"ratline/batch"
	"ratline/ikey"
)

// modelLength goes by the chapters' words alone: no length, and no number, of a group has more than two bytes.
func modelLength(b []byte) (int, []byte, bool) {
	switch {
	case len(b) > 0 && b[0] < 128:
		return int(b[0]), b[1:], true
	case len(b) > 1 && b[1] > 0 && b[1] < 128:
		return int(b[0]) - 128 + 128*int(b[1]), b[2:], true
	}
	return 0, nil, false
}

func modelText(b []byte, least, most int) (string, []byte, bool) {
	n, behind, ok := modelLength(b)
	if !ok || n < least || n > most || n > len(behind) {
		return "", nil, false
	}
	return string(behind[:n]), behind[n:], true
}

// modelParse returns nothing if b is no form of a group.
func modelParse(b []byte) []api.Op {
	n, b, ok := modelLength(b)
	if !ok || n > 128 {
		return nil
	}
	var l []api.Op
	for ; n > 0; n-- {
		if len(b) == 0 || b[0] > 1 {
			return nil
		}
		o := api.Op{Kind: b[0]}
		o.Key, b, ok = modelText(b[1:], 1, 64)
		if ok && o.Kind == 1 {
			o.Val, b, ok = modelText(b, 0, 256)
		}
		if !ok {
			return nil
		}
		l = append(l, o)
	}
	if len(b) > 0 {
		return nil
	}
	return l
}

// holdParse compares Parse with the model, and puts what was parsed as it stood.
func holdParse(t *testing.T, b []byte) bool {
	t.Helper()
	was := bytes.Clone(b)
	want := modelParse(b)
	if want == nil {
		wantNoParse(t, "by the model", b)
	} else {
		wantParse(t, b, want)
		wantForm(t, want, b)
	}
	wantBytes(t, "the argument", b, was)
	return want != nil
}

// edges are bytes at which forms change their ways.
var edges = []byte{0, 1, 2, 3, 63, 64, 65, 97, 127, 128, 129, 254, 255}

func edgeByte(r *rand.Rand) byte {
	if r.Intn(2) == 0 {
		return byte(r.Intn(256))
	}
	return edges[r.Intn(len(edges))]
}

// text is one with few different bytes, of mostly few bytes, or of about as many as there may be.
func text(r *rand.Rand, most int) string {
	n := r.Intn(4)
	if r.Intn(6) == 0 {
		n = most - r.Intn(3)
	}
	b := make([]byte, n)
	for i := range b {
		b[i] = []byte{0, 1, 97, 255}[r.Intn(4)]
	}
	return string(b)
}

func rightOp(r *rand.Rand) api.Op {
	o := op(uint8(r.Intn(2)), text(r, 64), "")
	if o.Key == "" {
		o.Key = "a"
	}
	if o.Kind == put {
		o.Val = text(r, 256)
	}
	return o
}

// anyOp is right, or is not, by some of its parts.
func anyOp(r *rand.Rand) api.Op {
	o := rightOp(r)
	switch r.Intn(8) {
	case 0:
		o.Kind = uint8(r.Intn(256))
	case 1:
		o.Key = strings.Repeat("\x00", []int{0, 1, 64, 65, 300}[r.Intn(5)])
	case 2:
		o.Val = strings.Repeat("\x00", []int{0, 1, 256, 257, 600}[r.Intn(5)])
	}
	return o
}

func group(r *rand.Rand, one func(*rand.Rand) api.Op) []api.Op {
	n := 1 + r.Intn(4)
	if r.Intn(8) == 0 {
		n = []int{31, 32, 33, 126, 127, 128}[r.Intn(6)]
	}
	l := make([]api.Op, n)
	for i := range l {
		l[i] = one(r)
	}
	return l
}

// nearly is a form of a group in which a few bytes are others, are gone, or are too many.
func nearly(r *rand.Rand) []byte {
	l := group(r, rightOp)
	b := told(uint64(len(l)), l...)
	for range r.Intn(3) {
		i := r.Intn(len(b))
		if r.Intn(2) == 0 {
			i = min(i, r.Intn(8))
		}
		switch r.Intn(4) {
		case 0:
			b = slices.Insert(b, i, edgeByte(r))
		case 1:
			b = append(slices.Delete(b, i, i+1), edgeByte(r))
		default:
			b[i] = edgeByte(r)
		}
	}
	return b
}

func TestP4_2ParseAgainstModel(t *testing.T) {
	r := rand.New(rand.NewSource(1))
	parsed := 0
	for range 50000 {
		if holdParse(t, nearly(r)) {
			parsed++
		}
	}
	if parsed < 10000 || parsed > 40000 {
		t.Errorf("of 50000 forms that are changed %d are parsed", parsed)
	}
}

// All bytes at each place of some short forms; and bytes without any order.
func TestP4_2ParseAnyBytes(t *testing.T) {
	for _, b := range [][]byte{{1, 0, 1, 97}, {1, 1, 1, 97, 0}, {2, 1, 1, 97, 1, 120, 0, 1, 98}, {3, 0, 1, 0, 0, 1, 1, 0, 2, 0, 1}} {
		for i, was := range b {
			for a := range 256 {
				b[i] = byte(a)
				holdParse(t, b)
				holdParse(t, slices.Insert(slices.Clone(b), i, edges...))
			}
			b[i] = was
		}
	}
	r := rand.New(rand.NewSource(2))
	for range 100000 {
		b := make([]byte, r.Intn(12))
		for i := range b {
			b[i] = edgeByte(r) & []byte{1, 3, 255}[r.Intn(3)]
		}
		holdParse(t, b)
	}
}

// What is right by its parts has a form, and is a batch if it is short enough; anything else is neither.
func TestP4_1AgainstModel(t *testing.T) {
	r := rand.New(rand.NewSource(3))
	seen := map[bool]int{}
	for range 20000 {
		l := group(r, anyOp)
		want := true
		for _, o := range l {
			right := len(o.Key) >= 1 && len(o.Key) <= 64 && (o.Kind == 1 && len(o.Val) <= 256 || o.Kind == 0 && o.Val == "")
			if got := batch.Op(o); got != right {
				t.Errorf("Op(%q): %t", o, got)
			}
			want = want && right
		}
		seen[want]++
		if got := batch.Right(l); got != (want && len(l) <= 32) {
			t.Errorf("Right of %d operations, %q: %t", len(l), l, got)
		}
		if want {
			wantForm(t, l, told(uint64(len(l)), l...))
		} else {
			wantNoForm(t, fmt.Sprintf("%q", l), l)
		}
	}
	if seen[true] < 1000 || seen[false] < 1000 {
		t.Errorf("the groups are of one kind: %v", seen)
	}
}

// P4.4: what is put is parsed as the same.
func TestP4_4PutThenParsed(t *testing.T) {
	r := rand.New(rand.NewSource(4))
	for range 20000 {
		l := group(r, rightOp)
		b, e := batch.Bytes(l)
		if e != api.OK {
			t.Errorf("Bytes(%q): error %d", l, e)
		}
		wantParse(t, b, l)
	}
}

// P4.4: different groups have different forms. The keys and values are those that forms are easily mixed up by.
func TestP4_4DifferentForms(t *testing.T) {
	var ops []api.Op
	for _, key := range []string{"\x00", "\x01", "\x00\x01", "\x01\x00", "\x01\x01", "\x00\x01\x00"} {
		ops = append(ops, op(del, key, ""))
		for _, val := range []string{"", "\x00", "\x01", "\x00\x01", "\x01\x00"} {
			ops = append(ops, op(put, key, val))
		}
	}
	groups := [][]api.Op{}
	for _, a := range ops {
		groups = append(groups, []api.Op{a})
		for _, b := range ops {
			groups = append(groups, []api.Op{a, b})
			for _, c := range ops[:12] {
				groups = append(groups, []api.Op{a, b, c})
			}
		}
	}
	of := map[string][]api.Op{}
	for _, l := range groups {
		b, _ := batch.Bytes(l)
		if other, there := of[string(b)]; there {
			t.Errorf("%q and %q have the same form", l, other)
		}
		of[string(b)] = l
	}
}

// P4.4: the entries of a group, with valid sequences, are right, and no two have the same internal key.
func TestP4_4EntriesAreRight(t *testing.T) {
	r := rand.New(rand.NewSource(5))
	for range 5000 {
		l := group(r, rightOp)
		first := []uint64{0, 1, r.Uint64() >> 9, api.MaxSeq - uint64(len(l)) + 1}[r.Intn(4)]
		seen := map[api.Ikey]int{}
		for i, e := range batch.Entries(l, first) {
			if !ikey.Entry(e) {
				t.Errorf("%s is not right", show(e))
			}
			if other, there := seen[e.K]; there {
				t.Errorf("the entries %d and %d of %q have the same internal key", other, i, l)
			}
			seen[e.K] = i
		}
	}
}
