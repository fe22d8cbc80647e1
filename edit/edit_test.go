package edit_test

import (
	"bytes"
	"fmt"
	"math"
	"slices"
	"strings"
	"testing"

	"ratline/api"
	"ratline/edit"
)

// short is the short form of a number: digits of base 128, the lowest first.
func short(x uint64) []byte {
	var b []byte
	for x >= 128 {
		b = append(b, byte(x%128)+128)
		x /= 128
	}
	return append(b, byte(x))
}

// long is a form of a number with a byte more than the short one.
func long(x uint64) []byte {
	b := short(x)
	b[len(b)-1] += 128
	return append(b, 0)
}

func text(s string) []byte {
	return append(short(uint64(len(s))), s...)
}

func note(num, size uint64, least, most string) api.Meta {
	return api.Meta{Num: num, Size: size, Least: least, Most: most}
}

// noted is the form of a note, by hand.
func noted(m api.Meta) []byte {
	return slices.Concat(short(m.Num), short(m.Size), text(m.Least), text(m.Most))
}

// again is n times the letter k.
func again(n int) string {
	return strings.Repeat("k", n)
}

// ordinary is n notes with the numbers from first on.
func ordinary(first uint64, n int) []api.Meta {
	l := make([]api.Meta, n)
	for i := range l {
		num := first + uint64(i)
		l[i] = note(num, 40+num%300, fmt.Sprint("a", num%10), fmt.Sprint("b", num))
	}
	return l
}

// greatest is n notes with as many bytes as there may be.
func greatest(n int) []api.Meta {
	l := make([]api.Meta, n)
	for i := range l {
		l[i] = note(math.MaxUint64-uint64(n-1-i), math.MaxUint64, again(64), again(64))
	}
	return l
}

func edited(add []api.Meta, log, last, next uint64) api.Edit {
	return api.Edit{Add: add, Log: log, Last: last, Next: next}
}

func version(tables []api.Meta, log, last, next uint64) api.Version {
	return api.Version{Tables: tables, Log: log, Last: last, Next: next}
}

// brief is how bytes are told of that may be many.
func brief(b []byte) string {
	if len(b) > 60 {
		return fmt.Sprintf("%v.. (%d bytes)", b[:60], len(b))
	}
	return fmt.Sprint(b)
}

// show is how an edit, or a version, is told of: keys need not be letters.
func show(l []api.Meta, log, last, next uint64) string {
	var told []string
	for i, m := range l {
		if i == 3 {
			told = append(told, fmt.Sprintf(".. (%d notes, to the number %d)", len(l), l[len(l)-1].Num))
			break
		}
		told = append(told, fmt.Sprintf("(%d %d %q %q)", m.Num, m.Size, m.Least, m.Most))
	}
	return fmt.Sprintf("[%s] log %d last %d next %d", strings.Join(told, " "), log, last, next)
}

func tell(e api.Edit) string {
	return show(e.Add, e.Log, e.Last, e.Next)
}

func tellVersion(v api.Version) string {
	return show(v.Tables, v.Log, v.Last, v.Next)
}

// same is whether two edits are, by their parts.
func same(a, b api.Edit) bool {
	return slices.Equal(a.Add, b.Add) && [3]uint64{a.Log, a.Last, a.Next} == [3]uint64{b.Log, b.Last, b.Next}
}

func sameVersion(a, b api.Version) bool {
	return slices.Equal(a.Tables, b.Tables) && [3]uint64{a.Log, a.Last, a.Next} == [3]uint64{b.Log, b.Last, b.Next}
}

func isNothing(e api.Edit) bool {
	return len(e.Add) == 0 && e.Log == 0 && e.Last == 0 && e.Next == 0
}

// wantRight is that an edit is right, has that form, and is parsed from it.
func wantRight(t *testing.T, e api.Edit, form []byte) {
	t.Helper()
	if !edit.Right(e) {
		t.Errorf("Right(%s): false", tell(e))
	}
	if b, err := edit.Bytes(e); !bytes.Equal(b, form) || err != api.OK {
		t.Errorf("Bytes(%s): %s, error %d, want %s", tell(e), brief(b), err, brief(form))
	}
	if got, err := edit.Parse(form); !same(got, e) || err != api.OK {
		t.Errorf("Parse(%s): %s, error %d, want %s", brief(form), tell(got), err, tell(e))
	}
}

// wantWrong is that an edit is not right, and has no form.
func wantWrong(t *testing.T, what string, e api.Edit) {
	t.Helper()
	if edit.Right(e) {
		t.Errorf("Right(%s), %s: true", tell(e), what)
	}
	if b, err := edit.Bytes(e); len(b) > 0 || err != api.ErrEdit {
		t.Errorf("Bytes(%s), %s: %s, error %d, want none and ErrEdit", tell(e), what, brief(b), err)
	}
	wantNotApplied(t, what, api.Version{}, e)
}

func wantNoParse(t *testing.T, what string, b []byte) {
	t.Helper()
	if e, err := edit.Parse(b); !isNothing(e) || err != api.ErrEdit {
		t.Errorf("Parse(%s), %s: %s, error %d, want nothing and ErrEdit", brief(b), what, tell(e), err)
	}
}

func wantApplied(t *testing.T, what string, v api.Version, e api.Edit, want api.Version) {
	t.Helper()
	if got, err := edit.Apply(v, e); !sameVersion(got, want) || err != api.OK {
		t.Errorf("Apply(%s, %s), %s: %s, error %d, want %s", tellVersion(v), tell(e), what, tellVersion(got), err, tellVersion(want))
	}
}

// wantNotApplied is that the version is returned as it was, with ErrEdit.
func wantNotApplied(t *testing.T, what string, v api.Version, e api.Edit) {
	t.Helper()
	if got, err := edit.Apply(v, e); !sameVersion(got, v) || err != api.ErrEdit {
		t.Errorf("Apply(%s, %s), %s: %s, error %d, want the version as it was and ErrEdit", tellVersion(v), tell(e), what, tellVersion(got), err)
	}
}

func wantSame(t *testing.T, a, b api.Edit, want bool) {
	t.Helper()
	if got := edit.Same(a, b); got != want {
		t.Errorf("Same(%s, %s): %t", tell(a), tell(b), got)
	}
	if got := edit.Same(b, a); got != want {
		t.Errorf("Same(%s, %s): %t", tell(b), tell(a), got)
	}
}

func TestExamples(t *testing.T) {
	plain := edited(nil, 3, 9, 0)
	wantRight(t, plain, []byte{6, 3, 9})
	e := edited([]api.Meta{note(2, 48, "a", "c")}, 3, 9, 0)
	wantRight(t, e, []byte{7, 1, 2, 48, 1, 97, 1, 99, 3, 9})
	v := version(e.Add, 3, 9, 0)
	wantApplied(t, "the example", api.Version{}, e, v)
	wantNotApplied(t, "the same again", v, e)
	wantNotApplied(t, "Log 2 then", v, edited(nil, 2, 0, 0))
	wantNoParse(t, "the example", []byte{0})
	wantNoParse(t, "the example", []byte{2, 0})
}

// Each of the parts alone, and with each of the others: what the first byte tells, and in which order they stand.
func TestP9_1Parts(t *testing.T) {
	for first := byte(1); first < 16; first++ {
		e, form := api.Edit{}, []byte{first}
		if first&1 > 0 {
			e.Add = []api.Meta{note(5, 300, "a", "ab"), note(7, 1, "\x00", "\xff")}
			form = append(form, 2, 5, 172, 2, 1, 97, 2, 97, 98, 7, 1, 1, 0, 1, 255)
		}
		if first&2 > 0 {
			e.Log = 200
			form = append(form, 200, 1)
		}
		if first&4 > 0 {
			e.Last = 1
			form = append(form, 1)
		}
		if first&8 > 0 {
			e.Next = 16384
			form = append(form, 128, 128, 1)
		}
		wantRight(t, e, form)
	}
}

// edges are numbers at which forms, and what is right, change.
var edges = []uint64{1, 2, 63, 64, 65, 127, 128, 129, 255, 256, 16383, 16384, 1<<32 - 1, 1 << 32, 1<<56 - 1, 1 << 56, 1<<56 + 1, 1<<63 - 1, 1 << 63, math.MaxUint64 - 1, math.MaxUint64}

func TestP9_1Numbers(t *testing.T) {
	for _, x := range edges {
		wantRight(t, edited(nil, x, 0, 0), append([]byte{2}, short(x)...))
		wantRight(t, edited(nil, 0, 0, x), append([]byte{8}, short(x)...))
		wantRight(t, edited(nil, x, 0, x), slices.Concat([]byte{10}, short(x), short(x)))
		for _, m := range []api.Meta{note(x, 1, "a", "a"), note(1, x, "a", "a"), note(x, x, "a", "b")} {
			wantRight(t, edited([]api.Meta{m}, 0, 0, 0), append([]byte{1, 1}, noted(m)...))
			wantRight(t, edited([]api.Meta{m}, 0, 0, x), slices.Concat([]byte{9, 1}, noted(m), short(x)))
		}
		if x <= 1<<56-1 {
			wantRight(t, edited(nil, 0, x, 0), append([]byte{4}, short(x)...))
			wantRight(t, edited(nil, 1, x, 2), slices.Concat([]byte{14, 1}, short(x), []byte{2}))
			continue
		}
		wantWrong(t, "Last", edited(nil, 0, x, 0))
		wantWrong(t, "Last, with numbers", edited(nil, 1, x, 2))
		wantWrong(t, "Last, with notes", edited(ordinary(1, 1), 0, x, 0))
		wantNoParse(t, "Last", append([]byte{4}, short(x)...))
		wantNoParse(t, "Last, with numbers", slices.Concat([]byte{14, 1}, short(x), []byte{2}))
	}
	wantRight(t, edited(ordinary(1, 1), 1, api.MaxSeq, 1), slices.Concat([]byte{15, 1}, noted(ordinary(1, 1)[0]), []byte{1}, short(api.MaxSeq), []byte{1}))
	wantWrong(t, "it says nothing", api.Edit{})
	wantWrong(t, "it says nothing", edited([]api.Meta{}, 0, 0, 0))
}

// formOf is the form of that many notes, which the number tells.
func formOf(n uint64, l []api.Meta) []byte {
	b := append([]byte{1}, short(n)...)
	for _, m := range l {
		b = append(b, noted(m)...)
	}
	return b
}

func TestP9_1NumberOfNotes(t *testing.T) {
	for n := 1; n <= 64; n++ {
		wantRight(t, edited(ordinary(3, n), 0, 0, 0), formOf(uint64(n), ordinary(3, n)))
		e := edited(greatest(n), math.MaxUint64, api.MaxSeq, math.MaxUint64)
		form := slices.Concat(formOf(uint64(n), e.Add), short(e.Log), short(e.Last), short(e.Next))
		form[0] = 15
		wantRight(t, e, form)
	}
	for _, n := range []int{65, 66, 127, 128, 200, 1000} {
		for _, l := range [][]api.Meta{ordinary(1, n), greatest(n)} {
			wantWrong(t, "too many notes", edited(l, 0, 0, 0))
			wantWrong(t, "too many notes", edited(l, 1, 2, 3))
			wantNoParse(t, "too many notes", formOf(uint64(n), l))
		}
	}
	for _, n := range []uint64{0, 1, 2, 3, 4, 5, 6, 63, 64, 65, 66, 127, 128, 4 + 1<<32, 4 + 1<<63, 1 << 63, math.MaxUint64 - 3, math.MaxUint64} {
		if n != 4 {
			wantNoParse(t, fmt.Sprint("the number ", n, " of 4 notes"), formOf(n, ordinary(1, 4)))
		}
		wantNoParse(t, fmt.Sprint("the number ", n, " of none"), formOf(n, nil))
		wantNoParse(t, fmt.Sprint("the number ", n, " of 65"), formOf(n, ordinary(1, 65)))
	}
	wantNoParse(t, "no notes, but numbers", []byte{3, 0, 5})
	wantNoParse(t, "no notes, but numbers", []byte{15, 0, 5, 6, 7})
}

func TestP9_1Keys(t *testing.T) {
	for _, m := range []api.Meta{
		note(1, 1, "a", "a"), note(1, 1, "a", "b"), note(1, 1, "\x00", "\x00"), note(1, 1, "\x00", "\xff"), note(1, 1, "\xff", "\xff"),
		note(1, 1, "a", "aa"), note(1, 1, "a", "a\x00"), note(1, 1, "aa", "b"), note(1, 1, "\x7f", "\x80"), note(1, 1, "a\xff", "b"),
		note(1, 1, again(64), again(64)), note(1, 1, again(63), again(64)), note(1, 1, "k", again(64)), note(1, 1, again(64), "l"), note(1, 1, again(64), "kl"),
		note(1, 1, strings.Repeat("\x00", 64), strings.Repeat("\xff", 64)), note(1, 1, "\xc3\x28", "ä"),
	} {
		wantRight(t, edited([]api.Meta{m}, 0, 0, 0), append([]byte{1, 1}, noted(m)...))
	}
}

// wrongNotes are notes that are not right.
var wrongNotes = []struct {
	what string
	note api.Meta
}{
	{"nothing", api.Meta{}},
	{"the number 0", note(0, 48, "a", "b")},
	{"the size 0", note(70, 0, "a", "b")},
	{"the number and the size 0", note(0, 0, "a", "b")},
	{"an empty Least", note(70, 48, "", "b")},
	{"an empty Most", note(70, 48, "a", "")},
	{"both empty", note(70, 48, "", "")},
	{"a Least of 65 bytes", note(70, 48, again(65), "l")},
	{"a Most of 65 bytes", note(70, 48, "a", again(65))},
	{"both of 65 bytes", note(70, 48, again(65), again(65))},
	{"a Least of 128 bytes", note(70, 48, again(128), "l")},
	{"a Most of 70000 bytes", note(70, 48, "a", again(70000))},
	{"a Least above its Most", note(70, 48, "b", "a")},
	{"a Least that is longer than its Most", note(70, 48, "aa", "a")},
	{"a Least that is longer by a byte 0", note(70, 48, "a\x00", "a")},
	{"a Least above by its first byte", note(70, 48, "\x80", "\x7f"+again(63))},
	{"a Least above by its last byte", note(70, 48, again(63)+"\x01", again(63)+"\x00")},
	{"a Least above by 255", note(70, 48, "\xff", "a")},
}

// One note that is not right, anywhere.
func TestP9_1WrongNotes(t *testing.T) {
	for _, w := range wrongNotes {
		wantWrong(t, w.what, edited([]api.Meta{w.note}, 0, 0, 0))
		wantWrong(t, w.what, edited([]api.Meta{w.note}, 1, 2, 3))
		wantNoParse(t, w.what, formOf(1, []api.Meta{w.note}))
		for _, n := range []int{2, 3, 64} {
			for i := range n {
				l := ordinary(1, n)
				for j := i + 1; j < n; j++ {
					l[j].Num += 100
				}
				l[i] = w.note
				wantWrong(t, w.what, edited(l, 0, 0, 0))
				wantNoParse(t, w.what, formOf(uint64(n), l))
			}
		}
	}
}

// Numbers that fall, or stand twice, anywhere.
func TestP9_1NumbersOfNotes(t *testing.T) {
	for _, n := range []int{2, 3, 64} {
		for i := range n - 1 {
			for what, num := range map[string]func(l []api.Meta) uint64{
				"twice the same":     func(l []api.Meta) uint64 { return l[i].Num },
				"below by 1":         func(l []api.Meta) uint64 { return l[i].Num - 1 },
				"1":                  func(l []api.Meta) uint64 { return 1 },
				"the first one's":    func(l []api.Meta) uint64 { return l[0].Num },
				"below, when signed": func(l []api.Meta) uint64 { l[i].Num = 1 << 63; return 1<<63 - 1 },
				"the greatest twice": func(l []api.Meta) uint64 { l[i].Num = math.MaxUint64; return math.MaxUint64 },
				"behind the greatest": func(l []api.Meta) uint64 {
					l[i].Num = math.MaxUint64
					return 1
				},
			} {
				l := ordinary(10, n)
				l[i+1].Num = num(l)
				wantWrong(t, what, edited(l, 0, 0, 0))
				wantNoParse(t, what, formOf(uint64(n), l))
			}
		}
		l := ordinary(10, n)
		slices.Reverse(l)
		wantWrong(t, "backwards", edited(l, 0, 0, 0))
		wantNoParse(t, "backwards", formOf(uint64(n), l))
	}
	rising := []api.Meta{note(1, 1, "z", "z"), note(2, 9, "a", "a"), note(1<<63-1, 1, "z", "z"), note(1<<63, 1, "a", "z"), note(math.MaxUint64, 1, "a", "a")}
	wantRight(t, edited(rising, 0, 0, 0), formOf(5, rising))
}

// someRight are right edits of all sorts, with their forms.
func someRight() map[string]api.Edit {
	all := map[string]api.Edit{}
	for i, add := range [][]api.Meta{nil, {note(2, 48, "a", "c")}, ordinary(100, 3), greatest(2), {note(1, 1, "\x00", "\x01\x01")}} {
		for j, x := range []uint64{0, 1, 128, api.MaxSeq} {
			for k, y := range []uint64{0, 9, 300, math.MaxUint64} {
				e := edited(add, y, x, y/2)
				if !isNothing(e) {
					all[fmt.Sprint(i, j, k)] = e
				}
			}
		}
	}
	return all
}

func TestP9_1ProperPrefixes(t *testing.T) {
	for _, e := range someRight() {
		b := modelForm(e)
		wantRight(t, e, b)
		for i := range b {
			wantNoParse(t, "a proper prefix", b[:i])
			wantNoParse(t, "a proper prefix with room", slices.Grow(bytes.Clone(b[:i]), 100))
		}
	}
	b := modelForm(edited(greatest(64), math.MaxUint64, api.MaxSeq, math.MaxUint64))
	for i := range b {
		wantNoParse(t, "a proper prefix", b[:i])
	}
	wantNoParse(t, "nothing", nil)
	wantNoParse(t, "nothing", []byte{})
}

func TestP9_1AByteMore(t *testing.T) {
	for _, e := range someRight() {
		b := modelForm(e)
		for _, c := range []byte{0, 1, 97, 127, 128, 255} {
			wantNoParse(t, "a byte more behind", append(bytes.Clone(b), c))
		}
		for i := range len(b) {
			for _, c := range []byte{0, 1, 2, 64, 65, 97, 128, 129, 255} {
				holdParse(t, slices.Insert(slices.Clone(b), i, c))
			}
		}
		wantNoParse(t, "twice", slices.Concat(b, b))
		wantNoParse(t, "much more behind", append(bytes.Clone(b), make([]byte, 70000)...))
	}
	great := modelForm(edited(greatest(64), math.MaxUint64, api.MaxSeq, math.MaxUint64))
	for i := range len(great) + 1 {
		wantNoParse(t, "a byte more", slices.Insert(slices.Clone(great), i, 0))
	}
}

// These have a byte more in their midst, and are no forms: each of the numbers that are not short, and what a form does not have.
func TestP9_1NotShort(t *testing.T) {
	m := note(200, 48, "a", "c")
	for what, b := range map[string][]byte{
		"the number of notes": slices.Concat([]byte{1}, long(1), noted(m)),
		"Num":                 slices.Concat([]byte{1, 1}, long(200), short(48), text("a"), text("c")),
		"Size":                slices.Concat([]byte{1, 1}, short(200), long(48), text("a"), text("c")),
		"the length of Least": slices.Concat([]byte{1, 1}, short(200), short(48), long(1), []byte("a"), text("c")),
		"the length of Most":  slices.Concat([]byte{1, 1}, short(200), short(48), text("a"), long(1), []byte("c")),
		"Log":                 slices.Concat([]byte{2}, long(3)),
		"Last":                slices.Concat([]byte{4}, long(9)),
		"Next":                slices.Concat([]byte{8}, long(9)),
		"Log, a great one":    slices.Concat([]byte{2}, long(1<<62)),
		"Log of 2^64":         {2, 128, 128, 128, 128, 128, 128, 128, 128, 128, 2},
		"Last of 2^64":        {4, 128, 128, 128, 128, 128, 128, 128, 128, 128, 2},
		"Next of 2^64":        {8, 128, 128, 128, 128, 128, 128, 128, 128, 128, 2},
		"Next without an end": {8, 128, 128, 128, 128, 128, 128, 128, 128, 128, 128, 1},
		"Num of 2^64":         slices.Concat([]byte{1, 1}, []byte{128, 128, 128, 128, 128, 128, 128, 128, 128, 2}, short(48), text("a"), text("c")),
		"Size of 2^64":        slices.Concat([]byte{1, 1}, short(200), []byte{128, 128, 128, 128, 128, 128, 128, 128, 128, 2}, text("a"), text("c")),
	} {
		wantNoParse(t, what, b)
	}
	wantRight(t, edited([]api.Meta{m}, 0, 0, 0), formOf(1, []api.Meta{m}))
}

// A number that is told, and is 0, alone and with others.
func TestP9_1ToldAndZero(t *testing.T) {
	m := noted(note(2, 48, "a", "c"))
	for _, b := range [][]byte{
		{2, 0}, {4, 0}, {8, 0}, {6, 0, 9}, {6, 3, 0}, {6, 0, 0}, {10, 0, 9}, {10, 3, 0}, {12, 0, 9}, {12, 3, 0},
		{14, 0, 1, 1}, {14, 1, 0, 1}, {14, 1, 1, 0}, {14, 0, 0, 0},
		slices.Concat([]byte{3, 1}, m, []byte{0}), slices.Concat([]byte{5, 1}, m, []byte{0}), slices.Concat([]byte{9, 1}, m, []byte{0}),
		slices.Concat([]byte{15, 1}, m, []byte{0, 1, 1}), slices.Concat([]byte{15, 1}, m, []byte{1, 0, 1}), slices.Concat([]byte{15, 1}, m, []byte{1, 1, 0}),
		{1, 0}, {3, 0, 1}, {15, 0, 1, 1, 1},
	} {
		wantNoParse(t, "a number of 0", b)
	}
}

// First bytes that say nothing, or too much, or not what follows.
func TestP9_1FirstBytes(t *testing.T) {
	for _, e := range someRight() {
		form := modelForm(e)
		for c := range 256 {
			b := bytes.Clone(form)
			b[0] = byte(c)
			holdParse(t, b)
			if c == 0 || c > 15 {
				wantNoParse(t, fmt.Sprint("the first byte ", c), b)
			}
		}
	}
	for c := range 256 {
		if c > 0 && c < 16 {
			continue
		}
		wantNoParse(t, "a first byte alone", []byte{byte(c)})
		wantNoParse(t, "one that says nothing right", []byte{byte(c), 3})
		wantNoParse(t, "one that says nothing right", []byte{byte(c), 3, 9})
		wantNoParse(t, "one that says nothing right", []byte{byte(c), 3, 9, 5})
	}
	for first := byte(1); first < 16; first++ {
		wantNoParse(t, "a first byte alone", []byte{first})
	}
	for _, b := range [][]byte{{2, 3, 9}, {4, 3, 9}, {8, 3, 9}, {14, 3, 9}, {7, 3, 9}, {6, 3, 9, 5}, {6, 3}, {14, 3}} {
		wantNoParse(t, "a first byte that does not tell what follows", b)
	}
}

func TestP9_1Same(t *testing.T) {
	all := someRight()
	for i, a := range all {
		for j, b := range all {
			wantSame(t, a, b, i == j)
		}
		again := a
		again.Add = slices.Clone(a.Add)
		wantSame(t, a, again, true)
		for _, other := range othersOf(a) {
			wantSame(t, a, other, false)
		}
	}
	wantSame(t, api.Edit{}, api.Edit{}, true)
	wantSame(t, api.Edit{}, edited([]api.Meta{}, 0, 0, 0), true)
	wantSame(t, edited([]api.Meta{}, 1, 2, 3), edited(nil, 1, 2, 3), true)
	wantSame(t, edited([]api.Meta{{}}, 0, 0, 0), edited([]api.Meta{{}}, 0, 0, 0), true)
	wantSame(t, edited([]api.Meta{{}}, 0, 0, 0), api.Edit{}, false)
	wantSame(t, edited(ordinary(1, 100), 0, math.MaxUint64, 0), edited(ordinary(1, 100), 0, math.MaxUint64, 0), true)
	wantSame(t, edited(ordinary(1, 100), 0, 1, 0), edited(ordinary(1, 99), 0, 1, 0), false)
	two := ordinary(1, 2)
	wantSame(t, edited(two, 0, 0, 0), edited([]api.Meta{two[1], two[0]}, 0, 0, 0), false)
}

// othersOf are edits that differ in one thing.
func othersOf(e api.Edit) []api.Edit {
	all := []api.Edit{
		edited(e.Add, e.Log+1, e.Last, e.Next), edited(e.Add, e.Log, e.Last+1, e.Next), edited(e.Add, e.Log, e.Last, e.Next+1),
		edited(e.Add, e.Log^1<<63, e.Last, e.Next), edited(e.Add, e.Log, e.Last^1<<63, e.Next), edited(e.Add, e.Log, e.Last, e.Next^1<<63),
		edited(append(slices.Clone(e.Add), api.Meta{}), e.Log, e.Last, e.Next),
		edited(append(slices.Clone(e.Add), ordinary(500, 1)...), e.Log, e.Last, e.Next),
	}
	for i, m := range e.Add {
		less := slices.Delete(slices.Clone(e.Add), i, i+1)
		all = append(all, edited(less, e.Log, e.Last, e.Next))
		for _, other := range []api.Meta{
			note(m.Num+1, m.Size, m.Least, m.Most), note(m.Num, m.Size+1, m.Least, m.Most), note(m.Num, m.Size, m.Least+"\x00", m.Most), note(m.Num, m.Size, m.Least, m.Most+"\x00"),
			note(m.Num^1<<63, m.Size, m.Least, m.Most), note(m.Num, m.Size^1<<63, m.Least, m.Most), note(m.Num, m.Size, m.Most+"x", m.Most), {},
		} {
			l := slices.Clone(e.Add)
			l[i] = other
			all = append(all, edited(l, e.Log, e.Last, e.Next))
		}
	}
	return all
}

func TestP9_2NotesBehind(t *testing.T) {
	for _, had := range []int{0, 1, 2, 63, 64, 65, 200, 1000} {
		v := version(ordinary(1, had), 4, 5, 6)
		for _, n := range []int{1, 2, 63, 64} {
			for _, above := range []uint64{1, 2, 100, 1 << 63} {
				add := ordinary(uint64(had)+above, n)
				wantApplied(t, "notes alone", v, edited(add, 0, 0, 0), version(slices.Concat(v.Tables, add), 4, 5, 6))
				wantApplied(t, "notes and numbers", v, edited(add, 7, 8, 9), version(slices.Concat(v.Tables, add), 7, 8, 9))
			}
		}
		wantApplied(t, "no notes", v, edited(nil, 7, 8, 9), version(v.Tables, 7, 8, 9))
		wantApplied(t, "an empty list of notes", v, edited([]api.Meta{}, 7, 0, 0), version(v.Tables, 7, 5, 6))
	}
	wantApplied(t, "the greatest number", version(ordinary(1, 3), 0, 0, 0), edited(greatest(1), 0, 0, 0), version(append(ordinary(1, 3), greatest(1)...), 0, 0, 0))
	// Only numbers count: neither keys nor sizes.
	low := []api.Meta{note(9, 1, "a", "a")}
	wantApplied(t, "lower keys", version([]api.Meta{note(8, 9, "z", "z")}, 0, 0, 0), edited(low, 0, 0, 0), version([]api.Meta{note(8, 9, "z", "z"), low[0]}, 0, 0, 0))
}

func TestP9_2NotesNotAbove(t *testing.T) {
	for _, had := range []int{1, 2, 64, 200} {
		v := version(ordinary(1000, had), 4, 5, 6)
		last := v.Tables[had-1].Num
		for _, first := range []uint64{1, 2, 999, 1000, last - 1, last} {
			for _, n := range []int{1, 2, 64} {
				wantNotApplied(t, "not above the last one", v, edited(ordinary(first, n), 0, 0, 0))
				wantNotApplied(t, "not above the last one", v, edited(ordinary(first, n), 7, 8, 9))
			}
		}
	}
	for _, pair := range [][2]uint64{{1 << 63, 1<<63 - 1}, {1 << 63, 1}, {math.MaxUint64, 1}, {math.MaxUint64, math.MaxUint64}, {math.MaxUint64, math.MaxUint64 - 1}, {2, 1}, {1, 1}} {
		v := version([]api.Meta{note(pair[0], 1, "a", "a")}, 0, 0, 0)
		wantNotApplied(t, "not above the last one", v, edited([]api.Meta{note(pair[1], 1, "a", "a")}, 0, 0, 0))
	}
	// A greater number behind does not help, and it is the last one of the version that counts.
	v := version([]api.Meta{note(1, 1, "a", "a"), note(5, 1, "a", "a")}, 0, 0, 0)
	wantNotApplied(t, "between two", v, edited([]api.Meta{note(3, 1, "a", "a")}, 0, 0, 0))
	wantNotApplied(t, "the second one above", v, edited([]api.Meta{note(5, 1, "a", "a"), note(6, 1, "a", "a")}, 0, 0, 0))
	wantApplied(t, "just above", v, edited([]api.Meta{note(6, 1, "a", "a")}, 0, 0, 0), version(append(slices.Clone(v.Tables), note(6, 1, "a", "a")), 0, 0, 0))
}

// Each of the numbers alone, and each pair of them, and all, with notes and without: as great as the version's, just above, far above, just below.
func TestP9_2Numbers(t *testing.T) {
	tables := ordinary(1, 2)
	for _, base := range []uint64{0, 1, 2, 300, api.MaxSeq - 1, api.MaxSeq} {
		v := version(tables, base, base, base)
		values := []uint64{0, 1, base - 1, base, base + 1, api.MaxSeq}
		for _, log := range values {
			for _, last := range values {
				for _, next := range values {
					for _, add := range [][]api.Meta{nil, ordinary(3, 1)} {
						holdApply(t, v, edited(add, log, last, next))
					}
				}
			}
		}
	}
	great := version(nil, 1<<63, 7, 1<<63)
	wantNotApplied(t, "below, when not signed", great, edited(nil, 1<<63-1, 0, 0))
	wantNotApplied(t, "below, when not signed", great, edited(nil, 0, 0, 1))
	wantApplied(t, "the greatest ones", great, edited(nil, math.MaxUint64, 0, math.MaxUint64), version(nil, math.MaxUint64, 7, math.MaxUint64))
	wantApplied(t, "the same ones", great, edited(nil, 1<<63, 7, 1<<63), great)
}

// Each number falls by itself, whatever the others do, and each keeps what is not said.
func TestP9_2OneNumber(t *testing.T) {
	v := version(ordinary(1, 1), 10, 20, 30)
	for _, add := range [][]api.Meta{nil, ordinary(2, 1)} {
		all := slices.Concat(v.Tables, add)
		wantApplied(t, "Log", v, edited(add, 11, 0, 0), version(all, 11, 20, 30))
		wantApplied(t, "Last", v, edited(add, 0, 21, 0), version(all, 10, 21, 30))
		wantApplied(t, "Next", v, edited(add, 0, 0, 31), version(all, 10, 20, 31))
		wantApplied(t, "Log and Last", v, edited(add, 11, 21, 0), version(all, 11, 21, 30))
		wantApplied(t, "Log and Next", v, edited(add, 11, 0, 31), version(all, 11, 20, 31))
		wantApplied(t, "Last and Next", v, edited(add, 0, 21, 31), version(all, 10, 21, 31))
		wantApplied(t, "all of them", v, edited(add, 11, 21, 31), version(all, 11, 21, 31))
		wantApplied(t, "the same ones", v, edited(add, 10, 20, 30), version(all, 10, 20, 30))
		wantNotApplied(t, "Log below", v, edited(add, 9, 21, 31))
		wantNotApplied(t, "Last below", v, edited(add, 11, 19, 31))
		wantNotApplied(t, "Next below", v, edited(add, 11, 21, 29))
		wantNotApplied(t, "Log below", v, edited(add, 1, 0, 0))
		wantNotApplied(t, "Last below", v, edited(add, 0, 1, 0))
		wantNotApplied(t, "Next below", v, edited(add, 0, 0, 1))
	}
}

// An edit that is not right is not applied, to whatever version.
func TestP9_2NotRight(t *testing.T) {
	for _, v := range []api.Version{{}, version(ordinary(1, 3), 1, 2, 3), version(ordinary(1, 100), 0, 0, 0), version(nil, 1, 2, 3)} {
		wantNotApplied(t, "it says nothing", v, api.Edit{})
		wantNotApplied(t, "65 notes", v, edited(ordinary(500, 65), 5, 5, 5))
		wantNotApplied(t, "Last", v, edited(ordinary(500, 1), 5, api.MaxSeq+1, 5))
		wantNotApplied(t, "twice the same number", v, edited(append(ordinary(500, 2), ordinary(501, 1)...), 5, 5, 5))
		for _, w := range wrongNotes {
			m := w.note
			if m.Num > 0 {
				m.Num = 600
			}
			wantNotApplied(t, w.what, v, edited([]api.Meta{m}, 0, 0, 0))
			wantNotApplied(t, w.what, v, edited(append(ordinary(500, 3), m), 5, 5, 5))
		}
	}
}

// A version need not be one that edits lead to: its own notes are not looked at, but the number of the last one.
func TestP9_2AnyVersion(t *testing.T) {
	odd := version([]api.Meta{note(9, 0, "", ""), note(9, 1, "b", "a"), note(2, 0, again(65), "")}, 5, math.MaxUint64, 6)
	add := ordinary(3, 2)
	wantApplied(t, "a version that is odd", odd, edited(add, 0, 0, 7), version(slices.Concat(odd.Tables, add), 5, math.MaxUint64, 7))
	wantNotApplied(t, "a version that is odd", odd, edited(ordinary(2, 2), 0, 0, 0))
	wantNotApplied(t, "a version whose Last is above all", odd, edited(nil, 0, api.MaxSeq, 0))
	wantNotApplied(t, "a version whose Last is above all", odd, edited(nil, 0, math.MaxUint64, 0))
	wantWhole(t, odd)
}

func wantWhole(t *testing.T, v api.Version) {
	t.Helper()
	if e := edit.Whole(v); !same(e, edited(v.Tables, v.Log, v.Last, v.Next)) {
		t.Errorf("Whole(%s): %s", tellVersion(v), tell(e))
	}
}

func TestP9_3Whole(t *testing.T) {
	wantWhole(t, api.Version{})
	wantWhole(t, version([]api.Meta{}, 0, 0, 0))
	for _, n := range []int{0, 1, 2, 63, 64, 65, 1000} {
		for _, x := range append([]uint64{0}, edges...) {
			wantWhole(t, version(ordinary(1, n), x, 0, 0))
			wantWhole(t, version(ordinary(1, n), 0, x, 0))
			wantWhole(t, version(ordinary(1, n), 0, 0, x))
			wantWhole(t, version(ordinary(1, n), x, x/2, x/3))
		}
	}
}

// P9.4: a version whose Whole is right is what applying that to the empty version gives.
func TestP9_4WholeThenApply(t *testing.T) {
	for n := range 67 {
		for _, x := range []uint64{0, 1, 300, api.MaxSeq, api.MaxSeq + 1} {
			v := version(ordinary(5, n), x/2, x, x/3)
			e := edit.Whole(v)
			if n > 64 || x > api.MaxSeq || n == 0 && x == 0 {
				wantWrong(t, "Whole", e)
				continue
			}
			wantRight(t, e, modelForm(e))
			wantApplied(t, "Whole", api.Version{}, e, v)
		}
	}
}

// Arguments that are lists with room behind them: nothing of them changes, and what is returned is in memory of its own.
func roomy(l []api.Meta) []api.Meta {
	return append(make([]api.Meta, 0, len(l)+70), l...)
}

func TestR3ArgumentsStay(t *testing.T) {
	for _, e := range someRight() {
		v := version(roomy(ordinary(1, 5)), 1, 2, 3)
		e.Add = roomy(e.Add)
		tables, add := slices.Clone(v.Tables[:cap(v.Tables)]), slices.Clone(e.Add[:cap(e.Add)])
		b := append(make([]byte, 0, 20000), modelForm(e)...)
		form := bytes.Clone(b[:cap(b)])
		edit.Right(e)
		edit.Same(e, edited(v.Tables, 1, 2, 3))
		edit.Bytes(e)
		edit.Parse(b)
		edit.Apply(v, e)
		edit.Apply(v, edited(e.Add, 1, 2, 0))
		edit.Apply(v, edited(roomy(ordinary(6, 5)), 0, 0, 0))
		edit.Whole(v)
		if !slices.Equal(v.Tables[:cap(v.Tables)], tables) || !slices.Equal(e.Add[:cap(e.Add)], add) || !bytes.Equal(b[:cap(b)], form) {
			t.Errorf("an argument of %s has changed", tell(e))
		}
	}
}

// spoil changes all of a list, with the room behind it.
func spoil(l []api.Meta) {
	for i := range l[:cap(l)] {
		l[:cap(l)][i] = note(1, 2, "spoilt", "spoilt")
	}
}

func TestR3MemoryOfItsOwn(t *testing.T) {
	for _, n := range []int{1, 5, 64} {
		v := version(roomy(ordinary(1, n)), 1, 2, 3)
		right := edited(roomy(ordinary(100, n)), 0, 0, 4)
		wrong := edited(roomy(ordinary(1, n)), 0, 0, 4)
		applied, _ := edit.Apply(v, right)
		alone, _ := edit.Apply(v, edited(nil, 1, 2, 3))
		first, _ := edit.Apply(api.Version{}, right)
		failed, _ := edit.Apply(v, wrong)
		whole := edit.Whole(v)
		b := modelForm(right)
		parsed, _ := edit.Parse(b)
		twice, _ := edit.Parse(b)
		made, _ := edit.Bytes(right)

		lists := [][]api.Meta{v.Tables, right.Add, wrong.Add, applied.Tables, alone.Tables, first.Tables, failed.Tables, whole.Add, parsed.Add, twice.Add}
		var were [][]api.Meta
		for _, l := range lists {
			were = append(were, slices.Clone(l))
		}
		for i := range b {
			b[i] = 255
		}
		for i, l := range lists {
			spoil(l)
			for j := i + 1; j < len(lists); j++ {
				if !slices.Equal(lists[j], were[j]) {
					t.Errorf("the list %d has changed with the list %d", j, i)
				}
			}
		}
		for i := range made {
			made[i] = 255
		}
		if next, _ := edit.Bytes(edited(ordinary(100, n), 0, 0, 4)); !bytes.Equal(next, modelForm(edited(ordinary(100, n), 0, 0, 4))) {
			t.Errorf("the bytes of an edit have changed with those before")
		}
	}
}

func TestR4SameAgain(t *testing.T) {
	v := version(ordinary(1, 5), 1, 2, 3)
	e := edited(ordinary(6, 3), 2, 3, 4)
	b := modelForm(e)
	for range 3 {
		wantRight(t, e, b)
		wantNoParse(t, "cut", b[:len(b)-1])
		wantApplied(t, "again", v, e, version(ordinary(1, 8), 2, 3, 4))
		wantNotApplied(t, "again", v, edited(ordinary(5, 3), 2, 3, 4))
		wantWhole(t, v)
		wantSame(t, e, edit.Whole(version(ordinary(6, 3), 2, 3, 4)), true)
	}
}
