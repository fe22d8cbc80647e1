package frame_test

import (
	"bytes"
	"hash/crc32"
	"math/rand"
	"slices"
	"testing"

	"ratline/api"
	"ratline/frame"
)

// modelSum goes by the chapter's words alone, bit by bit.
func modelSum(b []byte) uint32 {
	register := uint32(0xffffffff)
	for _, c := range b {
		for i := range 8 {
			bit, out := uint32(c>>i)&1, register&1
			register >>= 1
			if out != bit {
				register ^= 3945912366
			}
		}
	}
	return register
}

// four is the four bytes of a number.
func four(x uint32) []byte {
	return []byte{byte(x), byte(x >> 8), byte(x >> 16), byte(x >> 24)}
}

// told is the bytes b with that number in front, and the check sum of both behind, whether it is a frame or not.
func told(n uint32, b []byte) []byte {
	f := slices.Concat(four(n), b)
	return append(f, four(modelSum(f))...)
}

// modelSeal is the frame of bytes that have one.
func modelSeal(b []byte) []byte {
	return told(uint32(len(b)), b)
}

// modelTake tries each number of bytes within for which the frame would fit.
func modelTake(b []byte) ([]byte, []byte, bool) {
	for n := 0; n+8 <= len(b) && n <= 1<<20; n++ {
		if bytes.Equal(b[:4], four(uint32(n))) {
			return b[4 : 4+n], b[8+n:], bytes.Equal(b[4+n:8+n], four(modelSum(b[:4+n])))
		}
	}
	return nil, nil, false
}

// holdTake compares Take with the model.
func holdTake(t *testing.T, b []byte) bool {
	t.Helper()
	was := bytes.Clone(b)
	within, rest, ok := modelTake(b)
	if ok {
		wantTake(t, b, within, rest)
	} else {
		wantNone(t, "by the model", b)
	}
	wantBytes(t, "the argument", b, was)
	return ok
}

// edges are bytes at which numbers and sums change their ways.
var edges = []byte{0, 1, 2, 3, 4, 5, 8, 16, 127, 128, 254, 255}

func edgeByte(r *rand.Rand) byte {
	if r.Intn(2) == 0 {
		return byte(r.Intn(256))
	}
	return edges[r.Intn(len(edges))]
}

func randomBytes(r *rand.Rand, n int) []byte {
	b := make([]byte, n)
	r.Read(b)
	return b
}

// nearly is some frames, one behind the other, in which a few bytes are others, are gone, or are too many.
func nearly(r *rand.Rand) []byte {
	var b []byte
	for range 1 + r.Intn(3) {
		b = append(b, modelSeal(randomBytes(r, r.Intn(20)))...)
	}
	for range r.Intn(3) {
		i := r.Intn(len(b))
		if r.Intn(2) == 0 {
			i = min(i, r.Intn(8))
		}
		switch r.Intn(4) {
		case 0:
			b = slices.Insert(b, i, edgeByte(r))
		case 1:
			b = append(slices.Delete(b, i, i+1), edgeByte(r))
		case 2:
			b = b[:max(i, 1)]
		default:
			b[i] = edgeByte(r)
		}
	}
	return b
}

func TestP5_1AgainstModel(t *testing.T) {
	r := rand.New(rand.NewSource(1))
	for n := range 600 {
		for range 5 {
			wantSum(t, randomBytes(r, n), modelSum)
		}
	}
	for _, n := range []int{4095, 4096, 65535, 65536, api.MaxFrame, api.MaxFrame + 4, api.MaxFrame + 5, 3 << 20} {
		wantSum(t, randomBytes(r, n), modelSum)
	}
}

// The library has this sum, too: it inverts all bits of the register in the end.
func TestP5_1AgainstLibrary(t *testing.T) {
	library := func(b []byte) uint32 {
		return ^crc32.Checksum(b, crc32.MakeTable(crc32.Koopman))
	}
	r := rand.New(rand.NewSource(2))
	for n := range 600 {
		wantSum(t, randomBytes(r, n), library)
		wantSum(t, make([]byte, n), library)
		wantSum(t, bytes.Repeat([]byte{255}, n), library)
	}
}

func TestP5_2TakeAgainstModel(t *testing.T) {
	r := rand.New(rand.NewSource(3))
	taken := 0
	for range 100000 {
		if holdTake(t, nearly(r)) {
			taken++
		}
	}
	if taken < 20000 || taken > 80000 {
		t.Errorf("of 100000 frames that are changed %d are taken", taken)
	}
}

// All bytes at each place of some frames; and bytes without any order.
func TestP5_2TakeAnyBytes(t *testing.T) {
	for _, within := range [][]byte{nil, {7}, {0, 0}, {1, 0, 0, 0, 7}, []byte("abcdefghijkl")} {
		b := append(modelSeal(within), modelSeal([]byte("behind"))...)
		for i, was := range b {
			for a := range 256 {
				b[i] = byte(a)
				holdTake(t, b)
				holdTake(t, slices.Insert(slices.Clone(b), i, edges...))
			}
			b[i] = was
		}
	}
	r := rand.New(rand.NewSource(4))
	for range 100000 {
		b := make([]byte, r.Intn(20))
		for i := range b {
			b[i] = edgeByte(r) & []byte{0, 3, 255}[r.Intn(3)]
		}
		holdTake(t, b)
	}
}

// P5.3: what is sealed is taken as the same, and the rest stays, whatever that is.
func TestP5_3SealedThenTaken(t *testing.T) {
	r := rand.New(rand.NewSource(5))
	for range 20000 {
		within, rest := randomBytes(r, r.Intn(300)), randomBytes(r, r.Intn(20))
		wantTake(t, slices.Concat(frame.Seal(within), rest), within, rest)
	}
}
