// Package frames reads frames that stand one after the other: for the layers that write files of them.
package frames

import (
	"iter"

	"ratline/api"
	"ratline/frame"
	"ratline/nums"
)

// four is how many bytes the number of a frame has, and around how many a frame has besides those within.
const (
	four   = 4
	around = 8
)

// All yields what is within each of the frames that b begins with, in memory of its own, with the position at which the frame ends.
func All(b []byte) iter.Seq2[[]byte, int] {
	return func(yield func([]byte, int) bool) {
		for end := 0; ; {
			sealed := near(b[end:])
			within, _, e := frame.Take(sealed)
			if e != api.OK {
				return
			}
			end += len(sealed)
			if !yield(within, end) {
				return
			}
		}
	}
}

// near is as many bytes of b as the frame at its beginning tells that it has, or all if there are not so many: frame copies all that stands behind.
func near(b []byte) []byte {
	n, _, _ := nums.TakeFour(b[:min(four, len(b))])
	// The number is compared as it was read: it need not fit into an int.
	return b[:min(around+uint64(n), uint64(len(b)))]
}
