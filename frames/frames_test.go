package frames_test

import (
	"bytes"
	"slices"
	"testing"

	"ratline/api"
	"ratline/frame"
	"ratline/frames"
)

// several is what stands within some frames: nothing, little, as much as there may be.
func several() [][]byte {
	return [][]byte{{7}, nil, []byte("abc"), make([]byte, api.MaxFrame), nil, {0, 0, 0, 0}, bytes.Repeat([]byte{255}, 300)}
}

// sealed is the frames of these, one after the other, and where each of them ends.
func sealed(l [][]byte) ([]byte, []int) {
	var b []byte
	var ends []int
	for _, within := range l {
		b = append(b, frame.Seal(within)...)
		ends = append(ends, len(b))
	}
	return b, ends
}

func wantAll(t *testing.T, what string, b []byte, want [][]byte, ends []int) {
	t.Helper()
	n := 0
	for within, end := range frames.All(b) {
		if n == len(want) || !bytes.Equal(within, want[n]) || end != ends[n] {
			t.Fatalf("%s: the frame %d has %d bytes within, and ends at %d", what, n, len(within), end)
		}
		n++
	}
	if n < len(want) {
		t.Errorf("%s: %d frames, want %d", what, n, len(want))
	}
}

func TestAll(t *testing.T) {
	l := several()
	b, ends := sealed(l)
	for n := range len(l) + 1 {
		wantAll(t, "frames", b[:endOf(ends, n)], l[:n], ends[:n])
	}
	wantAll(t, "nothing", nil, nil, nil)
}

// endOf is where the first n frames end.
func endOf(ends []int, n int) int {
	return append([]int{0}, ends...)[n]
}

// What begins with no frame ends it, whatever stands behind.
func TestAllTorn(t *testing.T) {
	l := several()
	b, ends := sealed(l)
	for i, within := range l {
		one := frame.Seal(within)
		changed := bytes.Clone(one)
		changed[len(changed)-1]++
		for what, torn := range map[string][]byte{
			"a byte too few":        one[:len(one)-1],
			"a number too few":      one[:len(one)-4],
			"a number's beginning":  one[:3],
			"a sum that is changed": changed,
			"bytes 255":             bytes.Repeat([]byte{255}, 20),
			"zeros":                 make([]byte, 20),
		} {
			ahead := b[:endOf(ends, i)]
			wantAll(t, what, slices.Concat(ahead, torn), l[:i], ends[:i])
			wantAll(t, what+", with a frame behind", slices.Concat(ahead, torn, frame.Seal([]byte{9})), l[:i], ends[:i])
		}
	}
	beyond := append([]byte{1, 0, 16, 0}, make([]byte, api.MaxFrame+5)...)
	wantAll(t, "more than a frame may have", slices.Concat(b, beyond), l, ends)
}

// Who ranges may stop, and range again.
func TestAllStopped(t *testing.T) {
	l := several()
	b, ends := sealed(l)
	all := frames.All(b)
	for stop := range l {
		n := 0
		for _, end := range all {
			if end != ends[n] {
				t.Errorf("the frame %d ends at %d", n, end)
			}
			if n++; n > stop {
				break
			}
		}
		if n != stop+1 {
			t.Errorf("%d frames, and %d were asked for", n, stop+1)
		}
	}
}

func TestAllMemoryOfItsOwn(t *testing.T) {
	b, _ := sealed(several())
	was := bytes.Clone(b)
	for within := range frames.All(b) {
		clear(within[:cap(within)])
	}
	if !bytes.Equal(b, was) {
		t.Errorf("what was within has changed the frames")
	}
}

// What a frame costs must not grow with what stands behind it.
func TestAllVeryMany(t *testing.T) {
	const many = 300000
	b := bytes.Repeat(frame.Seal([]byte{7}), many)
	n := 0
	for range frames.All(b) {
		n++
	}
	if n != many {
		t.Errorf("%d frames of %d", n, many)
	}
}
