package edit_test

import (
	"bytes"
	"fmt"
	"math"
	"math/big"
	"math/rand"
	"slices"
	"testing"

	"ratline/api"
	"ratline/edit"
)

// modelNote goes by the chapter's words alone.
func modelNote(m api.Meta) bool {
	return m.Num != 0 && m.Size != 0 && len(m.Least) != 0 && len(m.Most) != 0 && len(m.Least) < 65 && len(m.Most) < 65 &&
		bytes.Compare([]byte(m.Least), []byte(m.Most)) <= 0
}

// numbersOf are those of notes.
func numbersOf(l []api.Meta) []uint64 {
	var all []uint64
	for _, m := range l {
		all = append(all, m.Num)
	}
	return all
}

func modelRight(e api.Edit) bool {
	nums := numbersOf(e.Add)
	sorted := slices.Clone(nums)
	slices.Sort(sorted)
	return slices.Equal(nums, slices.Compact(sorted)) && len(nums) < 65 && e.Last < 1<<56 && !isNothing(e) &&
		!slices.ContainsFunc(e.Add, func(m api.Meta) bool { return !modelNote(m) })
}

// modelForm is the form as it is told, also of an edit that is not right.
func modelForm(e api.Edit) []byte {
	var first byte
	var behind []byte
	if len(e.Add) > 0 {
		first = 1
		behind = short(uint64(len(e.Add)))
		for _, m := range e.Add {
			behind = append(behind, noted(m)...)
		}
	}
	for i, x := range []uint64{e.Log, e.Last, e.Next} {
		if x > 0 {
			first += 2 << i
			behind = append(behind, short(x)...)
		}
	}
	return append([]byte{first}, behind...)
}

// cursor reads bytes, and is bad as soon as these are not what is read.
type cursor struct {
	left []byte
	bad  bool
}

func (c *cursor) number() uint64 {
	x := new(big.Int)
	for i, d := range c.left {
		x.Add(x, new(big.Int).Lsh(big.NewInt(int64(d%128)), uint(7*i)))
		if d >= 128 {
			continue
		}
		if !x.IsUint64() || d == 0 && i > 0 {
			break
		}
		c.left = c.left[i+1:]
		return x.Uint64()
	}
	c.bad = true
	return 0
}

// some is a number of a form, which is told only if it is not 0.
func (c *cursor) some() uint64 {
	x := c.number()
	c.bad = c.bad || x == 0
	return x
}

func (c *cursor) text() string {
	n := c.number()
	if c.bad || n > uint64(len(c.left)) {
		c.bad = true
		return ""
	}
	s := string(c.left[:n])
	c.left = c.left[n:]
	return s
}

// modelParse returns false if b is no form of a right edit.
func modelParse(b []byte) (api.Edit, bool) {
	if len(b) == 0 || b[0] == 0 || b[0] > 15 {
		return api.Edit{}, false
	}
	c := cursor{left: b[1:]}
	var e api.Edit
	if b[0]%2 == 1 {
		for n := c.some(); n > 0 && !c.bad; n-- {
			e.Add = append(e.Add, api.Meta{Num: c.number(), Size: c.number(), Least: c.text(), Most: c.text()})
		}
	}
	for i, x := range []*uint64{&e.Log, &e.Last, &e.Next} {
		if b[0]>>(i+1)%2 == 1 {
			*x = c.some()
		}
	}
	if c.bad || len(c.left) > 0 || !modelRight(e) {
		return api.Edit{}, false
	}
	return e, true
}

// holdParse compares Parse with the model, and puts what was parsed as it stood.
func holdParse(t *testing.T, b []byte) bool {
	t.Helper()
	was := bytes.Clone(b)
	want, ok := modelParse(b)
	if ok {
		wantRight(t, want, b)
	} else {
		wantNoParse(t, "by the model", b)
	}
	if !bytes.Equal(b, was) {
		t.Errorf("%s has changed from %s", brief(b), brief(was))
	}
	return ok
}

func holdRight(t *testing.T, e api.Edit) bool {
	t.Helper()
	ok := modelRight(e)
	if ok {
		wantRight(t, e, modelForm(e))
	} else {
		wantWrong(t, "by the model", e)
	}
	return ok
}

// modelApply is what the chapter says that becomes of a version, or false.
func modelApply(v api.Version, e api.Edit) (api.Version, bool) {
	if !modelRight(e) {
		return v, false
	}
	if len(v.Tables) > 0 && len(e.Add) > 0 && e.Add[0].Num <= v.Tables[len(v.Tables)-1].Num {
		return v, false
	}
	next := api.Version{Tables: append(slices.Clone(v.Tables), e.Add...), Log: e.Log, Last: e.Last, Next: e.Next}
	for _, n := range []struct{ was, now *uint64 }{{&v.Log, &next.Log}, {&v.Last, &next.Last}, {&v.Next, &next.Next}} {
		if *n.now == 0 {
			*n.now = *n.was
		}
		if *n.now < *n.was {
			return v, false
		}
	}
	return next, true
}

// holdApply compares Apply with the model, and returns what became of the version.
func holdApply(t *testing.T, v api.Version, e api.Edit) (api.Version, bool) {
	t.Helper()
	want, ok := modelApply(v, e)
	if ok {
		wantApplied(t, "by the model", v, e, want)
	} else {
		wantNotApplied(t, "by the model", v, e)
	}
	return want, ok
}

// edgy is a number near one at which something changes, most often a small one.
func edgy(r *rand.Rand) uint64 {
	switch r.Intn(4) {
	case 0:
		return edges[r.Intn(len(edges))]
	case 1:
		return r.Uint64() >> r.Intn(64)
	}
	return uint64(r.Intn(5))
}

// someKey is a key that is seldom not right.
func someKey(r *rand.Rand) string {
	switch r.Intn(12) {
	case 0:
		return again(62 + r.Intn(4))
	case 1:
		return string([]byte{byte(r.Intn(256)), byte(r.Intn(256))})
	case 2:
		return again(r.Intn(3))
	}
	return fmt.Sprint(r.Intn(30))
}

// someEdit is right about every second time.
func someEdit(r *rand.Rand, most int) api.Edit {
	var e api.Edit
	num := uint64(r.Intn(3))
	for range r.Intn(most + 1) {
		m := note(num, edgy(r), someKey(r), someKey(r))
		if m.Least > m.Most && r.Intn(20) > 0 {
			m.Least, m.Most = m.Most, m.Least
		}
		if r.Intn(10) > 0 {
			m.Size++
		}
		e.Add = append(e.Add, m)
		num += 1 + uint64(r.Intn(3))
		if r.Intn(15) == 0 {
			num = edgy(r)
		}
	}
	for _, x := range []*uint64{&e.Log, &e.Last, &e.Next} {
		if r.Intn(2) == 0 {
			*x = edgy(r)
		}
	}
	return e
}

func TestP9_1RightAgainstModel(t *testing.T) {
	r := rand.New(rand.NewSource(1))
	right := 0
	for range 40000 {
		if holdRight(t, someEdit(r, 1+r.Intn(5))) {
			right++
		}
	}
	if right < 8000 || right > 36000 {
		t.Errorf("%d of 40000 edits were right", right)
	}
}

// Bytes that are forms but for one byte or two, or pieces of forms.
func TestP9_1ParseAgainstModel(t *testing.T) {
	r := rand.New(rand.NewSource(2))
	parsed := 0
	for range 60000 {
		b := modelForm(someEdit(r, r.Intn(4)))
		for range r.Intn(3) {
			i := r.Intn(len(b))
			switch c := byte(edgy(r)); r.Intn(4) {
			case 0:
				b[i] = c
			case 1:
				b = slices.Insert(b, i, c)
			case 2:
				b[i] ^= 1 << r.Intn(8)
			case 3:
				if len(b) > 1 {
					b = slices.Delete(b, i, i+1)
				}
			}
		}
		if holdParse(t, b) {
			parsed++
		}
	}
	if parsed < 10000 || parsed > 54000 {
		t.Errorf("%d of 60000 were forms", parsed)
	}
}

// All bytes of two, and short ones of those that stand in forms.
func TestP9_1ParseAllShort(t *testing.T) {
	for a := range 256 {
		holdParse(t, []byte{byte(a)})
		for b := range 256 {
			holdParse(t, []byte{byte(a), byte(b)})
		}
	}
	r := rand.New(rand.NewSource(3))
	letters := []byte{0, 1, 2, 3, 97, 128, 129, 255}
	for range 200000 {
		b := make([]byte, 1+r.Intn(12))
		for i := range b {
			b[i] = letters[r.Intn(len(letters))]
		}
		b[0] = byte(r.Intn(17))
		holdParse(t, b)
	}
}

func TestP9_2ApplyAgainstModel(t *testing.T) {
	r := rand.New(rand.NewSource(4))
	applied := 0
	for range 40000 {
		e := someEdit(r, 3)
		v := api.Version{Tables: ordinary(1+uint64(r.Intn(3)), r.Intn(3)), Log: edgy(r), Last: edgy(r), Next: edgy(r)}
		if _, ok := holdApply(t, v, e); ok {
			applied++
		}
	}
	if applied < 2000 || applied > 38000 {
		t.Errorf("%d of 40000 edits were applied", applied)
	}
}

// P9.4: edits one after the other, some of which are refused. The numbers of the version never fall, and its notes stay.
func TestP9_4OneAfterTheOther(t *testing.T) {
	r := rand.New(rand.NewSource(5))
	for range 300 {
		var v api.Version
		for range 60 {
			e := someEdit(r, 3)
			for i := range e.Add {
				if n := len(v.Tables); n > 0 && r.Intn(10) > 0 && v.Tables[n-1].Num < 1<<62 {
					e.Add[i].Num = v.Tables[n-1].Num + 1 + uint64(i)
				}
			}
			e.Log, e.Last, e.Next = e.Log%4*v.Log, e.Last%300+v.Last, e.Next%2*(v.Next+uint64(r.Intn(4)))
			next, err := edit.Apply(v, e)
			holdApply(t, v, e)
			if n := len(v.Tables); len(next.Tables) < n || !slices.Equal(next.Tables[:n], v.Tables) {
				t.Errorf("the notes of %s did not stay: %s", tellVersion(v), tellVersion(next))
			}
			if next.Log < v.Log || next.Last < v.Last || next.Next < v.Next {
				t.Errorf("the numbers of %s fell: %s", tellVersion(v), tellVersion(next))
			}
			if err != api.OK && !sameVersion(v, next) {
				t.Errorf("an error, and %s became %s", tellVersion(v), tellVersion(next))
			}
			v = next
		}
		holdWhole(t, v)
	}
}

// holdWhole is that Whole, if it is right, leads from the empty version to the one it is of.
func holdWhole(t *testing.T, v api.Version) {
	t.Helper()
	wantWhole(t, v)
	if e := edit.Whole(v); modelRight(e) {
		wantApplied(t, "Whole", api.Version{}, e, v)
		b, _ := edit.Bytes(e)
		if back, err := edit.Parse(b); !edit.Same(e, back) || err != api.OK {
			t.Errorf("Parse(Bytes(%s)): %s, error %d", tell(e), tell(back), err)
		}
	}
}

func TestP9_4WholeAgainstModel(t *testing.T) {
	r := rand.New(rand.NewSource(6))
	for range 5000 {
		e := someEdit(r, 8)
		holdWhole(t, version(e.Add, e.Log, e.Last, e.Next))
	}
	holdWhole(t, version(greatest(64), math.MaxUint64, api.MaxSeq, math.MaxUint64))
	holdWhole(t, version(greatest(65), math.MaxUint64, api.MaxSeq, math.MaxUint64))
}
