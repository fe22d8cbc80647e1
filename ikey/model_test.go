package ikey_test

import (
	"bytes"
	"encoding/binary"
	"math"
	"math/rand"
	"slices"
	"testing"

	"ratline/api"
	"ratline/ikey"
)

// rank is bytes that stand, byte by byte, in the order that the chapter tells of internal keys: a byte 0 ends a Key, and each of its bytes has a 1 ahead.
func rank(k api.Ikey) []byte {
	var b []byte
	for _, c := range []byte(k.Key) {
		b = append(b, 1, c)
	}
	b = append(b, 0)
	b = binary.BigEndian.AppendUint64(b, math.MaxUint64-k.Seq)
	return append(b, 255-k.Kind)
}

// modelTake goes by the chapter's words alone: the length of a right key is one byte, and its number has nine at most.
func modelTake(b []byte) (api.Ikey, []byte, bool) {
	if len(b) == 0 || b[0] == 0 || b[0] > 64 || len(b) <= int(b[0]) {
		return api.Ikey{}, nil, false
	}
	key, behind := string(b[1:1+b[0]]), b[1+b[0]:]
	var x uint64
	for i, c := range behind[:min(9, len(behind))] {
		x += uint64(c%128) << (7 * i)
		if c >= 128 {
			continue
		}
		if c == 0 && i > 0 || x >= 1<<57 {
			break
		}
		return api.Ikey{Key: key, Seq: x / 2, Kind: uint8(x % 2)}, behind[i+1:], true
	}
	return api.Ikey{}, nil, false
}

// holdTake compares Take with the model, and puts what was taken as it stood.
func holdTake(t *testing.T, b []byte) {
	t.Helper()
	was := bytes.Clone(b)
	k, rest, ok := modelTake(b)
	if !ok {
		wantNoTake(t, "by the model", b)
	} else {
		wantTake(t, b, k, rest)
		wantBytes(t, "put again", slices.Concat(ikey.Put(nil, k), rest), b)
	}
	wantBytes(t, "the argument", b, was)
}

// edges are bytes at which forms change their ways.
var edges = []byte{0, 1, 2, 3, 63, 64, 65, 66, 97, 127, 128, 129, 254, 255}

func edgeByte(r *rand.Rand) byte {
	if r.Intn(2) == 0 {
		return byte(r.Intn(256))
	}
	return edges[r.Intn(len(edges))]
}

// edgy is bytes that are often nearly a form: a key about as long as its length tells, and a number about as great as it may be.
func edgy(r *rand.Rand) []byte {
	n := []int{r.Intn(4), 62 + r.Intn(5), r.Intn(256)}[r.Intn(3)]
	b := []byte{byte(n)}
	for range max(n+r.Intn(3)-1, 0) {
		b = append(b, edgeByte(r))
	}
	for range r.Intn(11) {
		b = append(b, edgeByte(r)|128)
	}
	for range r.Intn(4) {
		b = append(b, edgeByte(r))
	}
	return b
}

func TestP3_3TakeAgainstModel(t *testing.T) {
	for a := range 256 {
		for _, b := range edges {
			holdTake(t, []byte{byte(a), 97, b})
			holdTake(t, []byte{byte(a), b, 97, 5})
			holdTake(t, []byte{1, 97, byte(a), b})
			holdTake(t, []byte{2, 97, b, byte(a), 1})
		}
	}
	r := rand.New(rand.NewSource(1))
	taken := 0
	for range 100000 {
		b := edgy(r)
		holdTake(t, b)
		if _, _, ok := modelTake(b); ok {
			taken++
		}
	}
	if taken < 10000 || taken > 90000 {
		t.Errorf("of the bytes %d in 100000 are taken", taken)
	}
}

// keyLike is keys many of which are the same, or prefixes of others; right ones, unless wrong is set.
func keyLike(r *rand.Rand, wrong bool) string {
	b := make([]byte, 1+r.Intn(3))
	for i := range b {
		b[i] = []byte{0, 1, 97, 98, 255}[r.Intn(5)]
	}
	switch {
	case r.Intn(8) == 0:
		b = append(bytes.Repeat([]byte{97}, 61), b...)
	case wrong && r.Intn(8) == 0:
		b = append(bytes.Repeat([]byte{97}, 63), b...)
	case wrong && r.Intn(8) == 0:
		b = nil
	}
	return string(b)
}

// sequence is one of few, or any; right ones, unless wrong is set.
func sequence(r *rand.Rand, wrong bool) uint64 {
	switch {
	case wrong && r.Intn(4) == 0:
		return r.Uint64() >> r.Intn(64)
	case r.Intn(4) == 0:
		return r.Uint64() >> (8 + r.Intn(56))
	}
	return []uint64{0, 1, 2, 3, api.MaxSeq - 1, api.MaxSeq}[r.Intn(6)]
}

func rightKey(r *rand.Rand) api.Ikey {
	return internal(keyLike(r, false), sequence(r, false), uint8(r.Intn(2)))
}

func anyKey(r *rand.Rand) api.Ikey {
	k := internal(keyLike(r, true), sequence(r, true), uint8(r.Intn(2)))
	if r.Intn(3) == 0 {
		k.Kind = uint8(r.Intn(256))
	}
	return k
}

func TestP3_1CompareAgainstModel(t *testing.T) {
	r := rand.New(rand.NewSource(2))
	for range 200000 {
		a, b := anyKey(r), anyKey(r)
		if r.Intn(2) == 0 {
			b.Key = a.Key
		}
		if r.Intn(2) == 0 {
			b.Seq = a.Seq
		}
		wantOrder(t, a, b, bytes.Compare(rank(a), rank(b)))
	}
}

// Lists that are sorted rise unless something is in them twice; others do not.
func TestP3_1RisingAgainstModel(t *testing.T) {
	r := rand.New(rand.NewSource(3))
	byRank := func(a, b api.Ikey) int { return bytes.Compare(rank(a), rank(b)) }
	seen := map[bool]int{}
	for range 20000 {
		l := make([]api.Ikey, r.Intn(8))
		for i := range l {
			l[i] = anyKey(r)
		}
		if r.Intn(3) > 0 {
			slices.SortFunc(l, byRank)
		}
		want := true
		for i := range len(l) - 1 {
			want = want && byRank(l[i], l[i+1]) < 0
		}
		seen[want]++
		if got := ikey.Rising(entries(l...)); got != want {
			t.Errorf("Rising(%s): %t, want %t", show(l...), got, want)
		}
	}
	if seen[true] < 1000 || seen[false] < 1000 {
		t.Errorf("the lists are of one kind: %v", seen)
	}
}

// P3.4: of two internal keys one is before the other one, or they are the same; and what is before what is before a third one is before it.
func TestP3_4Total(t *testing.T) {
	r := rand.New(rand.NewSource(4))
	for range 100000 {
		a, b, c := anyKey(r), anyKey(r), anyKey(r)
		ab, bc := ikey.Compare(a, b), ikey.Compare(b, c)
		if (ab == 0) != (a == b) {
			t.Errorf("Compare(%s): %d", show(a, b), ab)
		}
		if ab == bc && ikey.Compare(a, c) != ab {
			t.Errorf("%s: %d, %d, but the first and the last one: %d", show(a, b, c), ab, bc, ikey.Compare(a, c))
		}
	}
}

// P3.4: of the right ones of one Key, those with a sequence of at most seq are where Sought is, or behind.
func TestP3_4Sought(t *testing.T) {
	r := rand.New(rand.NewSource(5))
	for range 100000 {
		k, seq := rightKey(r), sequence(r, true)
		if r.Intn(3) == 0 {
			seq = k.Seq + uint64(r.Intn(3)) - 1
		}
		got := ikey.Compare(k, ikey.Sought(k.Key, seq)) >= 0
		if got != (k.Seq <= seq) {
			t.Errorf("%s is at Sought(%q, %d) or behind: %t", show(k), k.Key, seq, got)
		}
	}
}

// P3.4: what was put, one behind the other, is taken as the same, and the rest stays; what is not right leaves nothing.
func TestP3_4PutThenTaken(t *testing.T) {
	r := rand.New(rand.NewSource(6))
	for range 5000 {
		l := make([]api.Ikey, r.Intn(9))
		var b []byte
		for i := range l {
			l[i] = anyKey(r)
			b = ikey.Put(b, l[i])
		}
		behind := edgy(r)
		b = append(b, behind...)
		for _, k := range slices.DeleteFunc(l, func(k api.Ikey) bool { return !ikey.Right(k) }) {
			got, rest, ok := ikey.Take(b)
			if got != k || !ok {
				t.Errorf("%s is taken as %s, %t", show(k), show(got), ok)
			}
			b = rest
		}
		wantBytes(t, "the rest", b, behind)
	}
}

// No form is a proper prefix of another one: in order, it would stand right ahead of one that it begins.
func TestP3_4NoPrefixes(t *testing.T) {
	r := rand.New(rand.NewSource(7))
	of := map[string]api.Ikey{}
	var l []string
	for range 20000 {
		k := rightKey(r)
		b := string(ikey.Put(nil, k))
		if other, there := of[b]; there && other != k {
			t.Errorf("%s and %s have the same form", show(k), show(other))
		} else if !there {
			of[b] = k
			l = append(l, b)
		}
	}
	slices.Sort(l)
	for i := range len(l) - 1 {
		if bytes.HasPrefix([]byte(l[i+1]), []byte(l[i])) {
			t.Errorf("%q is a prefix of %q", l[i], l[i+1])
		}
	}
}
