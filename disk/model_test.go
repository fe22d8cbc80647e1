package disk_test

import (
	"math/rand"
	"slices"
	"strings"
	"testing"

	"ratline/api"
	"ratline/disk"
)

// model is a disk as the chapter's words tell it, in the plainest form: files by texts, the usage added up anew each time.
type model struct {
	capacity, calls int
	plan            api.Plan
	synced, loose   map[string]string
}

func newModel(capacity int, plan api.Plan) *model {
	return &model{capacity: capacity, plan: plan, synced: map[string]string{}, loose: map[string]string{}}
}

func (m *model) copied() *model {
	c := newModel(m.capacity, m.plan)
	c.calls = m.calls
	for n := range m.synced {
		c.synced[n], c.loose[n] = m.synced[n], m.loose[n]
	}
	return c
}

func (m *model) names() []string {
	var l []string
	for n := range m.synced {
		l = append(l, n)
	}
	slices.Sort(l)
	return l
}

func (m *model) used() int {
	n := 0
	for name := range m.synced {
		n += len(m.synced[name]) + len(m.loose[name])
	}
	return n
}

// count counts a call: its part, or -1 if it does not fail.
func (m *model) count() int {
	m.calls++
	for i, n := range m.plan.Fails {
		if n == m.calls {
			if i < len(m.plan.Parts) && m.plan.Parts[i] > 0 {
				return m.plan.Parts[i]
			}
			return 0
		}
	}
	return -1
}

func (m *model) there(name string) bool {
	_, ok := m.synced[name]
	return ok
}

func good(name string) bool { return 1 <= len(name) && len(name) <= 40 }

func (m *model) create(name string) api.Errno {
	part := m.count()
	switch {
	case !good(name):
		return api.ErrArg
	case m.there(name):
		return api.ErrThere
	case part >= 0:
		return api.ErrDisk
	}
	m.synced[name], m.loose[name] = "", ""
	return api.OK
}

// begin is what all calls but Create have in common: how it ends, if it ends at once.
func (m *model) begin(part int, names ...string) api.Errno {
	for _, n := range names {
		if !good(n) {
			return api.ErrArg
		}
	}
	if !m.there(names[0]) {
		return api.ErrFile
	}
	if part >= 0 {
		return api.ErrDisk
	}
	return api.OK
}

func (m *model) append(name, b string) api.Errno {
	part := m.count()
	e := m.begin(part, name)
	room := max(m.capacity, 0) - m.used()
	switch {
	case e == api.ErrDisk:
		m.loose[name] += b[:min(part, len(b), room)]
	case e == api.OK && room < len(b):
		e = api.ErrFull
	case e == api.OK:
		m.loose[name] += b
	}
	return e
}

func (m *model) sync(name string) api.Errno {
	e := m.begin(m.count(), name)
	if e == api.OK {
		m.synced[name], m.loose[name] = m.synced[name]+m.loose[name], ""
	}
	return e
}

func (m *model) rename(old, name string) api.Errno {
	e := m.begin(m.count(), old, name)
	if e == api.OK && old != name {
		m.synced[name], m.loose[name] = m.synced[old], m.loose[old]
		delete(m.synced, old)
		delete(m.loose, old)
	}
	return e
}

func (m *model) remove(name string) api.Errno {
	e := m.begin(m.count(), name)
	if e == api.OK {
		delete(m.synced, name)
		delete(m.loose, name)
	}
	return e
}

func (m *model) crash(keeps []int) {
	for i, n := range m.names() {
		keep := 0
		if i < len(keeps) {
			keep = min(max(keeps[i], 0), len(m.loose[n]))
		}
		m.synced[n], m.loose[n] = m.synced[n]+m.loose[n][:keep], ""
	}
}

// holdAgainst compares all that a disk tells.
func (m *model) holdAgainst(t *testing.T, d *disk.Disk) {
	t.Helper()
	wantDisk(t, d, m.used(), m.calls, m.names()...)
	for n := range m.synced {
		wantFile(t, d, n, m.synced[n]+m.loose[n], len(m.loose[n]))
	}
	if d.Used() > max(m.capacity, 0) {
		t.Errorf("%d bytes on a disk of %d", d.Used(), m.capacity)
	}
}

// both is a disk and its model, to which the same happens.
type both struct {
	t *testing.T
	r *rand.Rand
	d *disk.Disk
	m *model
}

func (x *both) name() string {
	l := []string{"a", "b", "c", "bb", strings.Repeat("n", 40), strings.Repeat("n", 41), ""}
	return l[x.r.Intn(len(l)+4)%len(l)]
}

func (x *both) text() string {
	b := make([]byte, x.r.Intn(6))
	for i := range b {
		b[i] = byte(x.r.Intn(256))
	}
	return string(b)
}

func (x *both) keeps() []int {
	l := make([]int, x.r.Intn(7))
	for i := range l {
		l[i] = x.r.Intn(9) - 2
	}
	return l
}

func (x *both) step() {
	var got, want api.Errno
	switch x.r.Intn(14) {
	case 0, 1, 2:
		n := x.name()
		got, want = x.d.Create(n), x.m.create(n)
	case 3, 4, 5, 6:
		n, b := x.name(), x.text()
		got, want = x.d.Append(n, []byte(b)), x.m.append(n, b)
	case 7, 8:
		n := x.name()
		got, want = x.d.Sync(n), x.m.sync(n)
	case 9, 10:
		n, o := x.name(), x.name()
		got, want = x.d.Rename(n, o), x.m.rename(n, o)
	case 11:
		n := x.name()
		got, want = x.d.Remove(n), x.m.remove(n)
	case 12:
		keeps := x.keeps()
		x.d.Crash(keeps)
		x.m.crash(keeps)
	case 13:
		x.goOnWithTheCopy()
		return
	}
	if got != want {
		x.t.Errorf("call %d: error %d, want %d", x.m.calls, got, want)
	}
	x.m.holdAgainst(x.t, x.d)
}

// goOnWithTheCopy does something to the disk that was copied, which the copy must not feel.
func (x *both) goOnWithTheCopy() {
	old := both{x.t, x.r, x.d, x.m}
	x.d, x.m = x.d.Copy(), x.m.copied()
	old.step()
	x.m.holdAgainst(x.t, x.d)
}

func plan(r *rand.Rand) api.Plan {
	var p api.Plan
	for range r.Intn(12) {
		p.Fails = append(p.Fails, r.Intn(60)-1)
	}
	for range r.Intn(12) {
		p.Parts = append(p.Parts, r.Intn(8)-2)
	}
	return p
}

// P1.1 to P1.6, by calls in any order, held against the model after each.
func TestAllAgainstModel(t *testing.T) {
	for seed := range int64(2000) {
		r := rand.New(rand.NewSource(seed))
		capacity, p := r.Intn(30)-2, plan(r)
		x := both{t, r, disk.New(capacity, p), newModel(capacity, p)}
		for range 60 {
			x.step()
		}
		if t.Failed() {
			t.Fatalf("seed %d", seed)
		}
	}
}

// P1.6: what was synced is there after a crash behind any call, and of what was loose a prefix; no call with an error, but an Append that fails, changes a file.
func TestP1_6Consequences(t *testing.T) {
	for seed := range int64(500) {
		r := rand.New(rand.NewSource(seed))
		capacity, p := r.Intn(30), plan(r)
		x := both{t, r, disk.New(capacity, p), newModel(capacity, p)}
		for range 40 {
			x.step()
			crashed := x.d.Copy()
			crashed.Crash(x.keeps())
			holdsPrefixes(t, x.d, crashed)
			failedCallsChangeNothing(t, x)
		}
		if t.Failed() {
			t.Fatalf("seed %d", seed)
		}
	}
}

func holdsPrefixes(t *testing.T, d, crashed *disk.Disk) {
	t.Helper()
	if !slices.Equal(d.List(), crashed.List()) {
		t.Errorf("%q behind the crash, %q before it", crashed.List(), d.List())
	}
	for _, n := range d.List() {
		was, _ := d.Read(n)
		loose, _ := d.Loose(n)
		is, _ := crashed.Read(n)
		if len(is) < len(was)-loose || !strings.HasPrefix(string(was), string(is)) {
			t.Errorf("%q: %q behind the crash, %q before it (%d loose)", n, is, was, loose)
		}
	}
}

func failedCallsChangeNothing(t *testing.T, x both) {
	t.Helper()
	d, m := x.d.Copy(), x.m.copied()
	n, o, b := x.name(), x.name(), x.text()
	calls := []func() api.Errno{
		func() api.Errno { return d.Create(n) },
		func() api.Errno { return d.Sync(n) },
		func() api.Errno { return d.Rename(n, o) },
		func() api.Errno { return d.Remove(n) },
		func() api.Errno {
			if e := d.Append(n, []byte(b)); e != api.ErrDisk {
				return e
			}
			return api.OK
		},
	}
	if e := calls[x.r.Intn(len(calls))](); e != api.OK {
		m.calls++
		m.holdAgainst(t, d)
	}
}
