package nums_test

import (
	"bytes"
	"math/big"
	"math/rand"
	"slices"
	"strings"
	"testing"

	"ratline/nums"
)

// modelTake goes by the chapter's words alone, in numbers of any size: the prefix of b that is a short form, if there is one.
func modelTake(b []byte) (uint64, []byte, bool) {
	x := new(big.Int)
	for i, c := range b {
		part := new(big.Int).Lsh(big.NewInt(int64(c%128)), uint(7*i))
		x.Add(x, part)
		if c >= 128 {
			continue
		}
		if !x.IsUint64() || c == 0 && i > 0 {
			return 0, nil, false
		}
		return x.Uint64(), b[i+1:], true
	}
	return 0, nil, false
}

// modelPut is the short form, as it is told: digits of base 128, the lowest first.
func modelPut(x uint64) []byte {
	var digits []byte
	for _, bit := range slices.Backward([]int{0, 7, 14, 21, 28, 35, 42, 49, 56, 63}) {
		d := byte(x >> bit & 127)
		if d != 0 || len(digits) > 0 || bit == 0 {
			digits = append(digits, d)
		}
	}
	slices.Reverse(digits)
	for i := range digits[:len(digits)-1] {
		digits[i] += 128
	}
	return digits
}

// holdTake compares Take with the model, and puts what was taken as it stood.
func holdTake(t *testing.T, b []byte) {
	t.Helper()
	was := bytes.Clone(b)
	x, rest, ok := modelTake(b)
	gx, gr, gok := nums.Take(b)
	if gx != x || !bytes.Equal(gr, rest) || gok != ok {
		t.Errorf("Take(%v): %d %v %t, want %d %v %t", b, gx, gr, gok, x, rest, ok)
	}
	if ok && !bytes.Equal(slices.Concat(nums.Put(nil, gx), gr), b) {
		t.Errorf("%v is put as %v", b, nums.Put(nil, gx))
	}
	wantBytes(t, "the argument", b, was)
}

// holdTakeText does the same for texts.
func holdTakeText(t *testing.T, b []byte, most int) {
	t.Helper()
	x, behind, ok := modelTake(b)
	ok = ok && new(big.Int).SetUint64(x).Cmp(big.NewInt(int64(min(len(behind), most)))) <= 0
	s, rest, got := nums.TakeText(b, most)
	if !ok {
		wantNoTakeText(t, "by the model", b, most)
		return
	}
	if !got || s != string(behind[:x]) || !bytes.Equal(rest, behind[x:]) {
		t.Errorf("TakeText(%v, %d): %q %v %t, want %q %v", b, most, s, rest, got, behind[:x], behind[x:])
	}
	wantBytes(t, "put again", slices.Concat(nums.PutText(nil, s), rest), b)
}

// edges are bytes at which short forms change their ways.
var edges = []byte{0, 1, 2, 3, 127, 128, 129, 254, 255}

// edgy is bytes most of which go on, so that they are often just about as long as a short form may be.
func edgy(r *rand.Rand) []byte {
	b := make([]byte, r.Intn(14))
	goesOn := r.Intn(13)
	for i := range b {
		switch {
		case i < goesOn:
			b[i] = byte(128 + r.Intn(128))
		case r.Intn(3) == 0:
			b[i] = byte(r.Intn(256))
		default:
			b[i] = edges[r.Intn(len(edges))]
		}
	}
	return b
}

func TestP2_1TakeAgainstModel(t *testing.T) {
	for a := range 256 {
		holdTake(t, []byte{byte(a)})
		for b := range 256 {
			holdTake(t, []byte{byte(a), byte(b)})
			for _, c := range edges {
				holdTake(t, []byte{byte(a), byte(b), c})
			}
		}
	}
	r := rand.New(rand.NewSource(1))
	for range 200000 {
		holdTake(t, edgy(r))
	}
}

func TestP2_2TakeTextAgainstModel(t *testing.T) {
	r := rand.New(rand.NewSource(2))
	for range 100000 {
		holdTakeText(t, edgy(r), r.Intn(8)-2)
		b := append([]byte{byte(r.Intn(8))}, edgy(r)...)
		holdTakeText(t, b, r.Intn(8)-2)
		holdTakeText(t, append([]byte{byte(128 + r.Intn(9)), byte(r.Intn(2))}, make([]byte, 120+r.Intn(20))...), 120+r.Intn(20))
	}
}

// numbers are those near powers of 2, small ones, and some of each size, rising.
func numbers() []uint64 {
	r := rand.New(rand.NewSource(3))
	var l []uint64
	for x := range uint64(600) {
		l = append(l, x)
	}
	for bit := range 64 {
		p := uint64(1) << bit
		l = append(l, p-1, p, p+1, -p, ^p)
		for range 20 {
			l = append(l, r.Uint64()>>bit)
		}
	}
	slices.Sort(l)
	return slices.Compact(l)
}

func TestP2_1PutAgainstModel(t *testing.T) {
	for _, x := range numbers() {
		wantBytes(t, "Put", nums.Put(nil, x), modelPut(x))
	}
}

// piece is something that is put, and taken again: the rest, and whether it is the same.
type piece struct {
	put  func(b []byte) []byte
	take func(b []byte) ([]byte, bool)
}

func number(x uint64) piece {
	return piece{
		func(b []byte) []byte { return nums.Put(b, x) },
		func(b []byte) ([]byte, bool) {
			got, rest, ok := nums.Take(b)
			return rest, ok && got == x
		},
	}
}

func text(s string) piece {
	return piece{
		func(b []byte) []byte { return nums.PutText(b, s) },
		func(b []byte) ([]byte, bool) {
			got, rest, ok := nums.TakeText(b, len(s))
			return rest, ok && got == s
		},
	}
}

func four(x uint32) piece {
	return piece{
		func(b []byte) []byte { return nums.PutFour(b, x) },
		func(b []byte) ([]byte, bool) {
			got, rest, ok := nums.TakeFour(b)
			return rest, ok && got == x
		},
	}
}

// P2.4: what was put, in any order, is taken as the same, piece by piece, and the rest stays.
func TestP2_4PutThenTaken(t *testing.T) {
	r := rand.New(rand.NewSource(4))
	all := numbers()
	for range 2000 {
		var pieces []piece
		for range r.Intn(9) {
			x, s := all[r.Intn(len(all))], strings.Repeat(string(edgy(r)), r.Intn(12))
			pieces = append(pieces, []piece{number(x), text(s), four(uint32(x))}[r.Intn(3)])
		}
		behind := edgy(r)
		b := behind
		for _, p := range slices.Backward(pieces) {
			b = slices.Concat(p.put(nil), b)
		}
		for i, p := range pieces {
			same := false
			if b, same = p.take(b); !same {
				t.Errorf("piece %d of %d is not taken as it was put", i, len(pieces))
			}
		}
		wantBytes(t, "the rest", b, behind)
	}
}

func TestP2_4FourTakenThenPut(t *testing.T) {
	r := rand.New(rand.NewSource(5))
	for range 20000 {
		b := []byte{byte(r.Intn(256)), byte(r.Intn(256)), byte(r.Intn(256)), byte(r.Intn(256))}
		x, rest, ok := nums.TakeFour(b)
		if len(rest) != 0 || !ok {
			t.Errorf("TakeFour(%v): %v %t", b, rest, ok)
		}
		wantBytes(t, "PutFour", nums.PutFour(nil, x), b)
	}
}

// wantNoPrefixes holds that no form is a proper prefix of another one: in order, a prefix would stand right ahead of one that it begins.
func wantNoPrefixes(t *testing.T, l [][]byte) {
	t.Helper()
	slices.SortFunc(l, bytes.Compare)
	for i := range len(l) - 1 {
		if bytes.HasPrefix(l[i+1], l[i]) {
			t.Errorf("%v is a prefix of %v", l[i], l[i+1])
		}
	}
}

func TestP2_4NoPrefixes(t *testing.T) {
	var l [][]byte
	for _, x := range numbers() {
		l = append(l, nums.Put(nil, x))
	}
	wantNoPrefixes(t, l)
	seen := map[string]bool{}
	var m [][]byte
	r := rand.New(rand.NewSource(6))
	for range 3000 {
		s := strings.Repeat(string(edgy(r)), r.Intn(20))
		if !seen[s] {
			seen[s] = true
			m = append(m, nums.PutText(nil, s))
		}
	}
	wantNoPrefixes(t, m)
}

func TestP2_4GreaterNumbersAreNoShorter(t *testing.T) {
	n := 1
	for _, x := range numbers() {
		b := nums.Put(nil, x)
		if len(b) < n || len(b) > 10 {
			t.Errorf("%d has %d bytes, a lesser one %d", x, len(b), n)
		}
		n = len(b)
	}
}
