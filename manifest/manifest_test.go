package manifest_test

import (
	"bytes"
	"fmt"
	"math"
	"slices"
	"strings"
	"testing"

	"ratline/api"
	"ratline/manifest"
)

func note(num, size uint64, least, most string) api.Meta {
	return api.Meta{Num: num, Size: size, Least: least, Most: most}
}

// again is n times the letter k.
func again(n int) string {
	return strings.Repeat("k", n)
}

// ordinary is n notes with the numbers from first on.
func ordinary(first uint64, n int) []api.Meta {
	l := make([]api.Meta, n)
	for i := range l {
		num := first + uint64(i)
		l[i] = note(num, 40+num%300, fmt.Sprint("a", num%10), fmt.Sprint("b", num))
	}
	return l
}

// greatest is n notes with as many bytes as there may be.
func greatest(n int) []api.Meta {
	l := make([]api.Meta, n)
	for i := range l {
		l[i] = note(math.MaxUint64-uint64(n-1-i), math.MaxUint64, again(64), again(64))
	}
	return l
}

func edited(add []api.Meta, log, last, next uint64) api.Edit {
	return api.Edit{Add: add, Log: log, Last: last, Next: next}
}

func version(tables []api.Meta, log, last, next uint64) api.Version {
	return api.Version{Tables: tables, Log: log, Last: last, Next: next}
}

// brief is how bytes are told of that may be many.
func brief(b []byte) string {
	if len(b) > 60 {
		return fmt.Sprintf("%v.. (%d bytes)", b[:60], len(b))
	}
	return fmt.Sprint(b)
}

// tell is how a version is told of: keys need not be letters.
func tell(v api.Version) string {
	told := make([]string, 0, 3)
	for _, m := range v.Tables[:min(3, len(v.Tables))] {
		told = append(told, fmt.Sprintf("(%d %d %.70q %.70q)", m.Num, m.Size, m.Least, m.Most))
	}
	return fmt.Sprintf("%d notes [%s], log %d, last %d, next %d", len(v.Tables), strings.Join(told, " "), v.Log, v.Last, v.Next)
}

func tellEdit(e api.Edit) string {
	return tell(version(e.Add, e.Log, e.Last, e.Next))
}

func same(a, b api.Version) bool {
	return slices.Equal(a.Tables, b.Tables) && [3]uint64{a.Log, a.Last, a.Next} == [3]uint64{b.Log, b.Last, b.Next}
}

func wantBytes(t *testing.T, what string, got, want []byte) {
	t.Helper()
	if !bytes.Equal(got, want) {
		t.Errorf("%s: %s, want %s", what, brief(got), brief(want))
	}
}

func wantRecord(t *testing.T, e api.Edit, want []byte) {
	t.Helper()
	if b, err := manifest.Record(e); !bytes.Equal(b, want) || err != api.OK {
		t.Errorf("Record(%s): %s, error %d, want %s", tellEdit(e), brief(b), err, brief(want))
	}
}

// wantNoRecord is that an edit has none, and that the frame of its form is none of a manifest.
func wantNoRecord(t *testing.T, what string, e api.Edit) {
	t.Helper()
	if b, err := manifest.Record(e); len(b) > 0 || err != api.ErrEdit {
		t.Errorf("Record(%s), %s: %s, error %d, want nothing and ErrEdit", tellEdit(e), what, brief(b), err)
	}
	wantNothingBehind(t, what, modelRecord(e))
}

func wantVersion(t *testing.T, v api.Version, want []byte) {
	t.Helper()
	if b, err := manifest.Bytes(v); !bytes.Equal(b, want) || err != api.OK {
		t.Errorf("Bytes(%s): %s, error %d, want %s", tell(v), brief(b), err, brief(want))
	}
	wantRead(t, "what was written", want, v, len(want))
}

func wantNoVersion(t *testing.T, what string, v api.Version) {
	t.Helper()
	if b, err := manifest.Bytes(v); len(b) > 0 || err != api.ErrEdit {
		t.Errorf("Bytes(%s), %s: %s, error %d, want nothing and ErrEdit", tell(v), what, brief(b), err)
	}
}

// wantRead is that bytes are read as that version; if none of them are used, as nothing.
func wantRead(t *testing.T, what string, b []byte, want api.Version, used int) {
	t.Helper()
	wantErr := api.OK
	if used == 0 {
		want, wantErr = api.Version{}, api.ErrManifest
	}
	if v, n, err := manifest.Read(b); !same(v, want) || n != used || err != wantErr {
		t.Errorf("Read(%s), %s: %s, %d, error %d, want %s, %d, error %d", brief(b), what, tell(v), n, err, tell(want), used, wantErr)
	}
}

// wantNothingBehind is that bytes are not used, and nothing behind them is: alone, ahead of right records, between these.
func wantNothingBehind(t *testing.T, what string, b []byte) {
	t.Helper()
	v := version(ordinary(1, 1), 2, 0, 2)
	ahead := modelRecord(edited(v.Tables, 2, 0, 2))
	behind := slices.Concat(modelRecord(edited(nil, 3, 0, 0)), modelRecord(edited(ordinary(2, 3), 0, 4, 0)))
	wantRead(t, what, b, api.Version{}, 0)
	wantRead(t, what+", ahead of records", slices.Concat(b, behind), api.Version{}, 0)
	wantRead(t, what+", behind a record", slices.Concat(ahead, b), v, len(ahead))
	wantRead(t, what+", between records", slices.Concat(ahead, b, behind), v, len(ahead))
}

func TestExamples(t *testing.T) {
	one, err := manifest.Record(edited(nil, 1, 0, 2))
	two, err2 := manifest.Record(edited(nil, 0, 9, 0))
	if err != api.OK || err2 != api.OK {
		t.Errorf("the errors %d, %d", err, err2)
	}
	both := slices.Concat(one, two)
	wantRead(t, "both", both, version(nil, 1, 9, 2), len(both))
	wantRead(t, "without the last byte", both[:len(both)-1], version(nil, 1, 0, 2), len(one))
	five, _ := manifest.Record(edited(nil, 0, 0, 5))
	four, _ := manifest.Record(edited(nil, 0, 0, 4))
	wantRead(t, "Next 5, and then Next 4", slices.Concat(five, four), version(nil, 0, 0, 5), len(five))
	wantRead(t, "nothing", nil, api.Version{}, 0)
}

// The document's examples of the whole tell how many bytes the manifest of a new store has, and of one with a table of one key.
func TestExamplesOfTheWhole(t *testing.T) {
	first, _ := manifest.Bytes(version(nil, 1, 0, 2))
	opened, _ := manifest.Record(edited(nil, 2, 0, 3))
	flushed, _ := manifest.Record(edited([]api.Meta{note(3, 48, "a", "a")}, 4, 1, 5))
	if len(first)+len(opened) != 22 || len(flushed) != 19 {
		t.Errorf("%d, %d and %d bytes, want 22 in all, and 19", len(first), len(opened), len(flushed))
	}
}

// Records by hand, each with the check sum that the library tells.
func TestP10_1Record(t *testing.T) {
	wantRecord(t, edited(nil, 1, 0, 2), []byte{3, 0, 0, 0, 10, 1, 2, 60, 178, 88, 179})
	wantRecord(t, edited(nil, 0, 9, 0), []byte{2, 0, 0, 0, 4, 9, 170, 56, 32, 246})
	wantRecord(t, edited([]api.Meta{note(2, 48, "a", "c")}, 3, 9, 0), []byte{10, 0, 0, 0, 7, 1, 2, 48, 1, 97, 1, 99, 3, 9, 144, 57, 174, 79})
	for what, e := range rightEdits() {
		b := modelRecord(e)
		wantRecord(t, e, b)
		wantRead(t, what, b, version(e.Add, e.Log, e.Last, e.Next), len(b))
	}
}

// rightEdits are right edits with each of the parts alone, with all, and with as many notes as there may be.
func rightEdits() map[string]api.Edit {
	return map[string]api.Edit{
		"Log":                      edited(nil, 1, 0, 0),
		"Last":                     edited(nil, 0, 1, 0),
		"Next":                     edited(nil, 0, 0, 1),
		"the greatest Log":         edited(nil, math.MaxUint64, 0, 0),
		"the greatest Last":        edited(nil, 0, api.MaxSeq, 0),
		"the greatest Next":        edited(nil, 0, 0, math.MaxUint64),
		"all numbers":              edited(nil, 300, 200, 100),
		"a note":                   edited(ordinary(1, 1), 0, 0, 0),
		"a note and all numbers":   edited(ordinary(1, 1), 1, 2, 3),
		"notes":                    edited(ordinary(9, 3), 0, 0, 0),
		"notes that do not follow": edited([]api.Meta{note(1, 1, "z", "z"), note(200, 9, "a", "b"), note(1<<63, 1, "\x00", "\xff")}, 0, 7, 0),
		"63 notes":                 edited(ordinary(5, 63), 1, 0, 0),
		"64 notes":                 edited(ordinary(5, 64), 0, 1, 0),
		"64 great notes":           edited(greatest(64), math.MaxUint64, api.MaxSeq, math.MaxUint64),
	}
}

// wrongNotes are notes that are not right. Their numbers, if they have any, are above 500.
func wrongNotes() map[string]api.Meta {
	return map[string]api.Meta{
		"nothing":                           {},
		"the number 0":                      note(0, 48, "a", "b"),
		"the size 0":                        note(501, 0, "a", "b"),
		"an empty Least":                    note(501, 48, "", "b"),
		"an empty Most":                     note(501, 48, "a", ""),
		"a Least of 65 bytes":               note(501, 48, again(65), "l"),
		"a Most of 65 bytes":                note(501, 48, "a", again(65)),
		"a Least above its Most":            note(501, 48, "b", "a"),
		"a Least longer than its Most":      note(501, 48, "a\x00", "a"),
		"a Least above by its first byte":   note(501, 48, "\x80", "\x7f"),
		"a Most of more than a frame":       note(501, 48, "a", again(api.MaxFrame+1)),
		"a Least and a Most of 70000 bytes": note(501, 48, again(70000), again(70000)),
	}
}

func TestP10_1WrongEdits(t *testing.T) {
	wantNoRecord(t, "it says nothing", api.Edit{})
	wantNoRecord(t, "it says nothing", edited([]api.Meta{}, 0, 0, 0))
	wantNoRecord(t, "Last", edited(nil, 0, api.MaxSeq+1, 0))
	wantNoRecord(t, "Last", edited(ordinary(5, 1), 5, math.MaxUint64, 5))
	wantNoRecord(t, "65 notes", edited(ordinary(5, 65), 0, 0, 0))
	wantNoRecord(t, "200 notes", edited(ordinary(5, 200), 5, 5, 5))
	wantNoRecord(t, "more notes than a frame has bytes", edited(ordinary(5, api.MaxFrame), 5, 5, 5))
	wantNoRecord(t, "twice the same number", edited(append(ordinary(5, 2), ordinary(6, 1)...), 5, 5, 5))
	wantNoRecord(t, "a number that falls", edited(append(ordinary(5, 2), ordinary(1, 1)...), 5, 5, 5))
	for what, m := range wrongNotes() {
		wantNoRecord(t, what, edited([]api.Meta{m}, 0, 0, 0))
		wantNoRecord(t, what, edited(append(ordinary(5, 3), m), 5, 5, 5))
		wantNoRecord(t, what, edited(slices.Concat([]api.Meta{m}, ordinary(600, 3)), 5, 5, 5))
	}
}

// sizes are numbers of notes at which edits are full, and some between and beyond.
var sizes = []int{0, 1, 2, 32, 63, 64, 65, 66, 127, 128, 129, 191, 192, 193, 1000}

// numbers are a version's: none, each alone, some, all, the greatest ones.
var numbers = [][3]uint64{{}, {1, 0, 0}, {0, 1, 0}, {0, 0, 1}, {2, 1, 0}, {0, 300, 2}, {7, 0, 8}, {3, 9, 5}, {math.MaxUint64, api.MaxSeq, math.MaxUint64}}

// pieces is the edits that a version is written as, counted out: how many notes each of them has.
func pieces(v api.Version, counts ...int) []api.Edit {
	var l []api.Edit
	at := 0
	for i, n := range counts {
		e := edited(v.Tables[at:at+n], 0, 0, 0)
		if i == len(counts)-1 {
			e.Log, e.Last, e.Next = v.Log, v.Last, v.Next
		}
		l, at = append(l, e), at+n
	}
	return l
}

func TestP10_2BytesCounted(t *testing.T) {
	for _, counts := range [][]int{{0}, {1}, {63}, {64}, {64, 1}, {64, 63}, {64, 64}, {64, 64, 1}, {64, 64, 64}, {64, 64, 64, 64, 44}} {
		n := 0
		for _, c := range counts {
			n += c
		}
		for _, x := range numbers {
			v := version(ordinary(3, n), x[0], x[1], x[2])
			if n > 0 || x != [3]uint64{} {
				wantVersion(t, v, modelManifest(pieces(v, counts...)...))
			}
		}
	}
}

func TestP10_2BytesOfAllSizes(t *testing.T) {
	for _, n := range sizes {
		for _, x := range numbers {
			for _, notes := range [][]api.Meta{ordinary(1, n), greatest(n)} {
				v := version(notes, x[0], x[1], x[2])
				if n == 0 && x == [3]uint64{} {
					wantNoVersion(t, "it is empty", v)
					continue
				}
				wantVersion(t, v, modelManifest(modelEdits(v)...))
			}
		}
	}
	wantNoVersion(t, "it is empty", api.Version{})
}

// A note that is not right, anywhere.
func TestP10_2BytesWrongNotes(t *testing.T) {
	for what, m := range wrongNotes() {
		for _, n := range []int{1, 2, 64, 65, 129} {
			for i := range n {
				l := ordinary(1, n)
				for j := i + 1; j < n; j++ {
					l[j].Num += 1000
				}
				l[i] = m
				wantNoVersion(t, what, version(l, 0, 0, 0))
				wantNoVersion(t, what, version(l, 1, 2, 3))
			}
		}
	}
}

// Numbers that fall, or stand twice, anywhere: also from one edit to the next one.
func TestP10_2BytesNumbersOfNotes(t *testing.T) {
	for _, n := range []int{2, 64, 65, 66, 128, 129, 200} {
		for i := range n - 1 {
			l := ordinary(1000, n)
			for what, num := range map[string]uint64{
				"twice the same": l[i].Num, "below by 1": l[i].Num - 1, "the first one's": l[0].Num, "1": 1, "0": 0,
			} {
				l[i+1].Num = num
				wantNoVersion(t, what, version(l, 0, 0, 0))
				wantNoVersion(t, what, version(l, 1, 2, 3))
			}
			l = ordinary(1000, n)
			l[i].Num = math.MaxUint64
			wantNoVersion(t, "behind the greatest", version(l, 1, 2, 3))
			l[i].Num, l[i+1].Num = 1<<63, 1<<63-1
			wantNoVersion(t, "below, when not signed", version(l[:i+2], 1, 2, 3))
		}
	}
	// Edits that are right by themselves, and do not follow one another.
	wantNoVersion(t, "the same 64 again", version(slices.Concat(ordinary(1, 64), ordinary(1, 64)), 1, 2, 3))
	wantNoVersion(t, "the 64 before", version(slices.Concat(ordinary(65, 64), ordinary(1, 64)), 1, 2, 3))
	wantNoVersion(t, "the last one again", version(slices.Concat(ordinary(1, 64), ordinary(64, 1)), 1, 2, 3))
	wantNoVersion(t, "the first one again, at last", version(slices.Concat(ordinary(1, 128), ordinary(1, 1)), 1, 2, 3))
	gaps := slices.Concat(ordinary(1, 64), ordinary(1<<62, 64), ordinary(1<<63, 2))
	wantVersion(t, version(gaps, 1, 2, 3), modelManifest(pieces(version(gaps, 1, 2, 3), 64, 64, 2)...))
}

func TestP10_2BytesLast(t *testing.T) {
	for _, n := range sizes {
		for _, last := range []uint64{api.MaxSeq + 1, api.MaxSeq + 2, 1 << 63, math.MaxUint64} {
			wantNoVersion(t, "Last", version(ordinary(1, n), 0, last, 0))
			wantNoVersion(t, "Last", version(ordinary(1, n), 1, last, 3))
		}
	}
}

// chain is edits that can be applied, one after the other: with numbers alone, with notes, with both, with numbers as they were, and with as many notes as there may be.
func chain() []api.Edit {
	return []api.Edit{
		edited(nil, 1, 0, 2),
		edited(ordinary(2, 1), 0, 0, 0),
		edited(nil, 0, 9, 0),
		edited(ordinary(3, 2), 3, 9, 5),
		edited(nil, 3, 9, 5),
		edited(ordinary(100, 64), 0, 300, 0),
		edited(nil, 0, 0, 6),
		edited([]api.Meta{note(500, 1, "\x00", "\xff")}, 128, 301, 129),
		edited(nil, 0, api.MaxSeq, 0),
		edited(greatest(3), math.MaxUint64, api.MaxSeq, math.MaxUint64),
		edited(nil, math.MaxUint64, 0, 0),
	}
}

// ends is the records of edits, one after the other, with the versions that they lead to, and where each of them ends: first of all the empty version.
func ends(l []api.Edit) (b []byte, to []api.Version, at []int) {
	v := api.Version{}
	to, at = append(to, v), append(at, 0)
	for _, e := range l {
		b = append(b, modelRecord(e)...)
		v, _ = modelApply(v, e)
		to, at = append(to, v), append(at, len(b))
	}
	return b, to, at
}

func TestP10_2Read(t *testing.T) {
	b, to, at := ends(chain())
	for n := range to {
		wantRead(t, fmt.Sprint(n, " records"), b[:at[n]], to[n], at[n])
	}
	want := version(slices.Concat(ordinary(2, 3), ordinary(100, 64), []api.Meta{note(500, 1, "\x00", "\xff")}, greatest(3)), math.MaxUint64, api.MaxSeq, math.MaxUint64)
	wantRead(t, "all of them", b, want, len(b))
	wantRead(t, "nothing", []byte{}, api.Version{}, 0)
}

// P10.3: of each prefix the whole records are read, whatever the spare capacity holds.
func TestP10_3Prefixes(t *testing.T) {
	b, to, at := ends(chain())
	n := 0
	for end := range len(b) + 1 {
		for n+1 < len(at) && at[n+1] <= end {
			n++
		}
		wantRead(t, "a prefix", b[:end], to[n], at[n])
		wantRead(t, "a prefix without room", slices.Clip(bytes.Clone(b[:end])), to[n], at[n])
	}
	if n != len(chain()) {
		t.Errorf("%d records of %d", n, len(chain()))
	}
}

// A version of several edits: of a prefix of its bytes, the notes of the edits within are read, and its numbers only at the end.
func TestP10_3PrefixesOfAVersion(t *testing.T) {
	v := version(ordinary(1, 129), 7, 8, 9)
	b, _ := manifest.Bytes(v)
	one := len(modelRecord(edited(v.Tables[:64], 0, 0, 0)))
	two := one + len(modelRecord(edited(v.Tables[64:128], 0, 0, 0)))
	for end := range len(b) {
		switch {
		case end < one:
			wantRead(t, "a prefix", b[:end], api.Version{}, 0)
		case end < two:
			wantRead(t, "a prefix", b[:end], version(v.Tables[:64], 0, 0, 0), one)
		default:
			wantRead(t, "a prefix", b[:end], version(v.Tables[:128], 0, 0, 0), two)
		}
	}
	wantRead(t, "all", b, v, len(b))
}

// A record that is damaged, at each of its bytes: nothing of it is read, and nothing behind it.
func TestP10_2Damaged(t *testing.T) {
	for _, e := range []api.Edit{edited(nil, 0, 9, 0), edited(nil, 3, 9, 4), edited(ordinary(2, 1), 3, 9, 5), edited(ordinary(2, 64), 3, 9, 5)} {
		b := modelRecord(e)
		for i, was := range b {
			for _, change := range []byte{1, 2, 4, 8, 16, 32, 64, 128, 255} {
				b[i] = was ^ change
				wantNothingBehind(t, fmt.Sprint("the byte ", i, " changed by ", change), b)
			}
			b[i] = was
			wantNothingBehind(t, "a byte too few", slices.Delete(bytes.Clone(b), i, i+1))
			wantNothingBehind(t, "a byte too many", slices.Insert(bytes.Clone(b), i, was+1))
		}
	}
}

// Each record of a manifest damaged: those before it are read.
func TestP10_2DamagedAmongOthers(t *testing.T) {
	b, to, at := ends(chain())
	n := 0
	for i := range b {
		if i == at[n+1] {
			n++
		}
		b[i] ^= 16
		wantRead(t, "damaged", b, to[n], at[n])
		b[i] ^= 16
	}
}

// An edit that is right, and can't be applied: it is not read, and nothing is behind it, even if that could be applied.
func TestP10_2NotApplied(t *testing.T) {
	first := edited(ordinary(5, 3), 10, 20, 30)
	v := version(first.Add, 10, 20, 30)
	ahead, behind := modelRecord(first), modelManifest(edited(nil, 11, 21, 31), edited(ordinary(8, 1), 0, 0, 0))
	for what, e := range map[string]api.Edit{
		"Log below":                   edited(nil, 9, 0, 0),
		"Last below":                  edited(nil, 0, 19, 0),
		"Next below":                  edited(nil, 0, 0, 29),
		"Log below, the others above": edited(ordinary(8, 1), 1, 21, 31),
		"Next below, notes above":     edited(ordinary(8, 2), 0, 0, 1),
		"the same notes again":        edited(ordinary(5, 3), 10, 20, 30),
		"the last note again":         edited(ordinary(7, 1), 0, 0, 0),
		"the last note again, others": edited(ordinary(7, 5), 11, 21, 31),
		"a note between":              edited([]api.Meta{note(6, 1, "a", "a")}, 0, 0, 0),
		"a note of the least number":  edited(ordinary(1, 1), 11, 21, 31),
	} {
		b := modelRecord(e)
		wantRecord(t, e, b)
		wantRead(t, what+", alone", b, version(e.Add, e.Log, e.Last, e.Next), len(b))
		wantRead(t, what, slices.Concat(ahead, b), v, len(ahead))
		wantRead(t, what+", with records behind", slices.Concat(ahead, b, behind), v, len(ahead))
		wantRead(t, what+", twice", slices.Concat(ahead, b, b, behind), v, len(ahead))
	}
	all := slices.Concat(ahead, behind)
	wantRead(t, "without them", all, version(ordinary(5, 4), 11, 21, 31), len(all))
}

// Each edit is held against all before it, not only against the one before: a number, or a note, that was told long ago.
func TestP10_2NotAppliedLongAfter(t *testing.T) {
	told := edited(ordinary(5, 64), 10, 20, 30)
	for what, e := range map[string]api.Edit{
		"Log": edited(nil, 9, 0, 0), "Last": edited(nil, 0, 19, 0), "Next": edited(nil, 0, 0, 29), "a note": edited(ordinary(68, 1), 0, 0, 0),
	} {
		l := []api.Edit{told, edited(nil, 10, 0, 0), edited(nil, 0, 20, 0), edited(nil, 0, 0, 30), edited(nil, 10, 0, 0)}
		b := modelManifest(l...)
		wantRead(t, what, slices.Concat(b, modelRecord(e), modelRecord(edited(nil, 99, 99, 99))), version(told.Add, 10, 20, 30), len(b))
	}
}

// Frames, and what is within them is the form of no right edit.
func TestP10_2NoEditWithin(t *testing.T) {
	for what, within := range map[string][]byte{
		"nothing":                        nil,
		"a first byte of 0":              {0},
		"a first byte of 0, and numbers": {0, 5},
		"a first byte alone":             {2},
		"a first byte of 16":             {16, 5},
		"a first byte of 18":             {18, 5},
		"Log 0":                          {2, 0},
		"Next 0":                         {8, 0},
		"no short form":                  {2, 131, 0},
		"a byte behind":                  {2, 3, 0},
		"a number too few":               {6, 3},
		"no notes, but their number":     {1, 0},
		"a note too few":                 {1, 2, 5, 48, 1, 97, 1, 97},
		"a note too many":                {1, 1, 5, 48, 1, 97, 1, 97, 6, 48, 1, 97, 1, 97},
		"notes and their order":          {1, 2, 6, 48, 1, 97, 1, 97, 5, 48, 1, 97, 1, 97},
		"two forms":                      {2, 3, 2, 4},
		"a record":                       modelRecord(edited(nil, 3, 0, 0)),
		"a Last of 2^56":                 {4, 128, 128, 128, 128, 128, 128, 128, 128, 1},
		"a Next of 2^64":                 {8, 128, 128, 128, 128, 128, 128, 128, 128, 128, 2},
		"as much as a frame may have":    make([]byte, api.MaxFrame),
	} {
		wantNothingBehind(t, what, framed(within))
	}
	b := framed([]byte{2, 3})
	wantRead(t, "one that these nearly are", b, version(nil, 3, 0, 0), len(b))
}

func TestP10_2NoFrame(t *testing.T) {
	right := []byte{2, 3}
	wantNothingBehind(t, "a form without a frame", right)
	wantNothingBehind(t, "a frame without its number", framed(right)[4:])
	wantNothingBehind(t, "zeros", make([]byte, 100))
	wantNothingBehind(t, "bytes 255", bytes.Repeat([]byte{255}, 100))
	for _, n := range []uint32{0, 1, 3, 6, 10, 256 + 2, 1<<16 + 2, 1 << 20, 1<<20 + 1, 1<<24 + 2, 1<<31 - 1, 1 << 31, 1<<31 + 2, math.MaxUint32 - 7, math.MaxUint32 - 3, math.MaxUint32} {
		wantNothingBehind(t, fmt.Sprint("the number ", n, " in place of 2"), sealed(n, right))
	}
}

// P10.3: whatever stands behind what is used does not matter.
func TestP10_3Behind(t *testing.T) {
	b, to, at := ends(chain())
	for n := 1; n < len(to); n++ {
		for what, behind := range map[string][]byte{
			"a byte":                    {0},
			"some bytes":                {1, 2, 3, 4, 5, 6, 7, 8, 9},
			"zeros":                     make([]byte, 5000),
			"a frame of nothing":        framed(nil),
			"a torn record":             modelRecord(edited(nil, math.MaxUint64, 0, 0))[:13],
			"its own first record":      b[:at[1]-1],
			"an edit that can't follow": modelRecord(edited(ordinary(1, 1), 0, 0, 0)),
		} {
			if what == "an edit that can't follow" && len(to[n].Tables) == 0 {
				continue
			}
			wantRead(t, what, slices.Concat(b[:at[n]], behind), to[n], at[n])
			wantRead(t, what+", and a record", slices.Concat(b[:at[n]], behind, modelRecord(edited(nil, math.MaxUint64, api.MaxSeq, math.MaxUint64))), to[n], at[n])
		}
	}
}

// P10.3: a version that comes from edits has bytes, and is read from them as it is; and they can go on from there.
func TestP10_3AgainWritten(t *testing.T) {
	l := chain()
	_, to, _ := ends(l)
	for n, v := range to[1:] {
		b, err := manifest.Bytes(v)
		if err != api.OK {
			t.Errorf("Bytes(%s): error %d", tell(v), err)
		}
		wantRead(t, "a version from edits", b, v, len(b))
		for _, e := range l[n+1:] {
			record, _ := manifest.Record(e)
			b = append(b, record...)
		}
		wantRead(t, "with the other edits behind", b, to[len(to)-1], len(b))
	}
}

// A manifest of very many records is read to its end, and a version of very many notes is written: what one costs must not grow with what was before it, or is behind it.
func TestP10_2VeryMany(t *testing.T) {
	const many = 200000
	v := version(ordinary(1, many), many, many, many)
	var b []byte
	for i := range many {
		b = append(b, modelRecord(edited(v.Tables[i:i+1], 0, 0, uint64(i)+1))...)
	}
	wantRead(t, "very many records", b, version(v.Tables, 0, 0, many), len(b))
	written, err := manifest.Bytes(v)
	if err != api.OK {
		t.Errorf("Bytes of very many notes: error %d", err)
	}
	wantRead(t, "very many notes", written, v, len(written))
	v.Tables[many-1].Num = 5
	wantNoVersion(t, "the last one falls", v)
}

// roomy is a list with room behind it.
func roomy(l []api.Meta) []api.Meta {
	return append(make([]api.Meta, 0, len(l)+70), l...)
}

// The arguments and their spare capacity stay, with an error, too.
func TestR3ArgumentsStay(t *testing.T) {
	for _, n := range []int{0, 1, 3, 64, 65, 129} {
		l := roomy(ordinary(1, n))
		was := slices.Clone(l[:cap(l)])
		for _, last := range []uint64{0, 5, api.MaxSeq + 1} {
			manifest.Record(edited(l, 1, last, 2))
			manifest.Bytes(version(l, 1, last, 2))
		}
		if !slices.Equal(l[:cap(l)], was) {
			t.Errorf("%d notes have changed, or what is behind them", n)
		}
	}
	b, _, _ := ends(chain())
	was := bytes.Clone(b)
	for n := range b {
		manifest.Read(b[:n])
	}
	wantBytes(t, "the bytes and their spare capacity", b, was)
}

// What is returned shares nothing with the argument, or with another result.
func TestR3MemoryOfItsOwn(t *testing.T) {
	l := ordinary(1, 129)
	v, e := version(l, 7, 8, 9), edited(l[:64:64], 7, 8, 9)
	whole, record := modelManifest(modelEdits(v)...), modelRecord(e)
	oneWhole, _ := manifest.Bytes(v)
	twoWhole, _ := manifest.Bytes(v)
	oneRecord, _ := manifest.Record(e)
	twoRecord, _ := manifest.Record(e)
	b := bytes.Clone(whole)
	oneRead, _, _ := manifest.Read(b)
	twoRead, _, _ := manifest.Read(b)
	clear(oneWhole[:cap(oneWhole)])
	clear(oneRecord[:cap(oneRecord)])
	clear(oneRead.Tables[:cap(oneRead.Tables)])
	wantBytes(t, "the bytes that were read", b, whole)
	clear(b)
	clear(l)
	wantBytes(t, "the other bytes", twoWhole, whole)
	wantBytes(t, "the other record", twoRecord, record)
	if want := version(ordinary(1, 129), 7, 8, 9); !same(twoRead, want) {
		t.Errorf("the other version became %s", tell(twoRead))
	}
}

// R4: a call returns what it returned before, whatever was called in between.
func TestR4SameAgain(t *testing.T) {
	b, to, at := ends(chain())
	for range 3 {
		wantRead(t, "again", b, to[len(to)-1], len(b))
		wantRead(t, "again, torn", b[:len(b)-1], to[len(to)-2], at[len(at)-2])
		wantRead(t, "again, nothing", nil, api.Version{}, 0)
		for n, v := range to[1:] {
			wantVersion(t, v, modelManifest(modelEdits(v)...))
			wantRecord(t, chain()[n], modelRecord(chain()[n]))
		}
		wantNoVersion(t, "again, empty", api.Version{})
		wantNoRecord(t, "again, nothing", api.Edit{})
	}
}

// R6: an empty list of notes and none are the same.
func TestR6EmptyLists(t *testing.T) {
	b := modelRecord(edited(nil, 1, 2, 3))
	wantRecord(t, edited([]api.Meta{}, 1, 2, 3), b)
	wantVersion(t, version([]api.Meta{}, 1, 2, 3), b)
	wantNoVersion(t, "it is empty", version([]api.Meta{}, 0, 0, 0))
}
