package disk_test

import (
	"math"
	"slices"
	"strings"
	"testing"

	"ratline/api"
	"ratline/disk"
)

// roomy is a disk whose capacity and plan are in nobody's way.
func roomy() *disk.Disk {
	return disk.New(1000, api.Plan{})
}

// failing is a roomy disk whose call with the number n fails.
func failing(n int) *disk.Disk {
	return disk.New(1000, api.Plan{Fails: []int{n}})
}

func wantErr(t *testing.T, what string, got, want api.Errno) {
	t.Helper()
	if got != want {
		t.Errorf("%s: error %d, want %d", what, got, want)
	}
}

// must does calls that are not what the test is about.
func must(t *testing.T, errs ...api.Errno) {
	t.Helper()
	for i, e := range errs {
		if e != api.OK {
			t.Fatalf("call %d: error %d", i, e)
		}
	}
}

// wantFile asks a file for its bytes, and how many of these are loose.
func wantFile(t *testing.T, d *disk.Disk, name, bytes string, loose int) {
	t.Helper()
	b, e := d.Read(name)
	if e != api.OK || string(b) != bytes {
		t.Errorf("Read(%q): %q, error %d, want %q", name, b, e, bytes)
	}
	if n, e := d.Size(name); e != api.OK || n != len(bytes) {
		t.Errorf("Size(%q): %d, error %d, want %d", name, n, e, len(bytes))
	}
	if n, e := d.Loose(name); e != api.OK || n != loose {
		t.Errorf("Loose(%q): %d, error %d, want %d", name, n, e, loose)
	}
}

func wantDisk(t *testing.T, d *disk.Disk, used, calls int, names ...string) {
	t.Helper()
	if d.Used() != used {
		t.Errorf("Used: %d, want %d", d.Used(), used)
	}
	if d.Calls() != calls {
		t.Errorf("Calls: %d, want %d", d.Calls(), calls)
	}
	if got := d.List(); !slices.Equal(got, names) {
		t.Errorf("List: %q, want %q", got, names)
	}
}

// The chapter's example, call by call.
func TestExample(t *testing.T) {
	d := disk.New(5, api.Plan{Fails: []int{4, 6}, Parts: []int{1, 0}})
	wantErr(t, "Create a", d.Create("a"), api.OK)
	wantErr(t, "Append a xy", d.Append("a", []byte("xy")), api.OK)
	wantErr(t, "Sync a", d.Sync("a"), api.OK)
	wantErr(t, "Append a zw", d.Append("a", []byte("zw")), api.ErrDisk)
	wantFile(t, d, "a", "xyz", 1)
	d.Crash(nil)
	wantFile(t, d, "a", "xy", 0)
	wantErr(t, "Append a pqrs", d.Append("a", []byte("pqrs")), api.ErrFull)
	wantErr(t, "Append a pq", d.Append("a", []byte("pq")), api.ErrDisk)
	wantFile(t, d, "a", "xy", 0)
	wantErr(t, "Append a pqr", d.Append("a", []byte("pqr")), api.OK)
	wantFile(t, d, "a", "xypqr", 3)
	d.Crash([]int{2})
	wantFile(t, d, "a", "xypq", 0)
	wantErr(t, "Rename a b", d.Rename("a", "b"), api.OK)
	wantFile(t, d, "b", "xypq", 0)
	wantErr(t, "Create b", d.Create("b"), api.ErrThere)
	wantDisk(t, d, 4, 9, "b")
}

func TestP1_1New(t *testing.T) {
	wantDisk(t, disk.New(7, api.Plan{}), 0, 0)

	fails, parts := []int{2, 3}, []int{1}
	d := disk.New(7, api.Plan{Fails: fails[:1], Parts: parts})
	fails[0], parts[0] = 1, 9
	must(t, d.Create("a"))
	wantErr(t, "call 2", d.Append("a", []byte("xyz")), api.ErrDisk)
	wantFile(t, d, "a", "x", 1)
	wantErr(t, "call 3", d.Sync("a"), api.OK)
}

func TestP1_1PlanIsLeftAlone(t *testing.T) {
	fails, parts := []int{3, 1, 3, -1}, []int{-5, 2}
	d := disk.New(7, api.Plan{Fails: fails, Parts: parts})
	d.Create("a")
	d.Create("a")
	d.Append("a", []byte("x"))
	if !slices.Equal(fails, []int{3, 1, 3, -1}) || !slices.Equal(parts, []int{-5, 2}) {
		t.Error(fails, parts)
	}
}

func TestP1_1List(t *testing.T) {
	d := roomy()
	for _, n := range []string{"b", "\xff", "ab", "B", "\x00", "a", "\xc3\xa9", "a\x00", "10", "9"} {
		must(t, d.Create(n))
	}
	want := []string{"\x00", "10", "9", "B", "a", "a\x00", "ab", "b", "\xc3\xa9", "\xff"}
	wantDisk(t, d, 0, 10, want...)
	d.List()[0] = "other"
	wantDisk(t, d, 0, 10, want...)
}

func TestP1_1Used(t *testing.T) {
	d := roomy()
	must(t, d.Create("a"), d.Create("b"), d.Append("a", []byte("12")), d.Sync("a"), d.Append("b", []byte("345")), d.Append("a", []byte("6")))
	wantDisk(t, d, 6, 6, "a", "b")
	must(t, d.Rename("b", "c"))
	wantDisk(t, d, 6, 7, "a", "c")
	must(t, d.Rename("c", "a"))
	wantDisk(t, d, 3, 8, "a")
	d.Crash([]int{2})
	wantDisk(t, d, 2, 8, "a")
	must(t, d.Remove("a"))
	wantDisk(t, d, 0, 9)
}

// Calls that end with an error count like all others; looking, crashing and copying do not.
func TestP1_1Calls(t *testing.T) {
	d := disk.New(2, api.Plan{Fails: []int{12, 13, 14, 15, 16}})
	for i, c := range []struct {
		got, want api.Errno
	}{
		{d.Create(""), api.ErrArg},
		{d.Create("a"), api.OK},
		{d.Create("a"), api.ErrThere},
		{d.Append("", nil), api.ErrArg},
		{d.Append("b", nil), api.ErrFile},
		{d.Append("a", []byte("xyz")), api.ErrFull},
		{d.Sync(""), api.ErrArg},
		{d.Sync("b"), api.ErrFile},
		{d.Rename("b", "a"), api.ErrFile},
		{d.Rename("a", ""), api.ErrArg},
		{d.Remove("b"), api.ErrFile},
		{d.Create("b"), api.ErrDisk},
		{d.Append("a", nil), api.ErrDisk},
		{d.Sync("a"), api.ErrDisk},
		{d.Rename("a", "b"), api.ErrDisk},
		{d.Remove("a"), api.ErrDisk},
	} {
		if c.got != c.want {
			t.Errorf("call %d: error %d, want %d", i+1, c.got, c.want)
		}
	}
	wantDisk(t, d, 0, 16, "a")
	d.Read("a")
	d.Size("a")
	d.Loose("b")
	d.List()
	d.Crash(nil)
	d.Copy()
	wantDisk(t, d, 0, 16, "a")
}

func TestP1_1Copy(t *testing.T) {
	d := disk.New(6, api.Plan{Fails: []int{6}, Parts: []int{1}})
	must(t, d.Create("a"), d.Append("a", []byte("12")), d.Sync("a"), d.Append("a", []byte("34")), d.Create("b"))
	c := d.Copy()
	for _, x := range []*disk.Disk{d, c} {
		wantDisk(t, x, 4, 5, "a", "b")
		wantFile(t, x, "a", "1234", 2)
		wantErr(t, "call 6", x.Append("b", []byte("56")), api.ErrDisk)
		wantFile(t, x, "b", "5", 1)
		wantErr(t, "too much", x.Append("b", []byte("67")), api.ErrFull)
		must(t, x.Append("b", []byte("6")))
	}
}

func TestP1_1CopyHasMemoryOfItsOwn(t *testing.T) {
	d := roomy()
	must(t, d.Create("a"), d.Append("a", []byte("12")), d.Sync("a"), d.Append("a", []byte("34")))
	c := d.Copy()
	must(t, c.Append("a", []byte("c")), d.Append("a", []byte("dd")))
	wantFile(t, c, "a", "1234c", 3)
	wantFile(t, d, "a", "1234dd", 4)
	d.Crash(nil)
	must(t, d.Append("a", []byte("xy")), d.Create("b"), d.Rename("a", "e"))
	wantDisk(t, c, 5, 5, "a")
	wantFile(t, c, "a", "1234c", 3)
	must(t, c.Sync("a"), c.Remove("a"))
	wantDisk(t, d, 4, 8, "b", "e")
	wantFile(t, d, "e", "12xy", 2)

	cc := c.Copy().Copy()
	must(t, cc.Create("z"))
	wantDisk(t, cc, 0, 8, "z")
	wantDisk(t, c, 0, 7)
}

func TestP1_2Create(t *testing.T) {
	d := roomy()
	longest := strings.Repeat("n", api.MaxName)
	must(t, d.Create("a"), d.Create(longest), d.Create("\x00"), d.Create("/ "))
	wantErr(t, "no bytes", d.Create(""), api.ErrArg)
	wantErr(t, "41 bytes", d.Create(longest+"n"), api.ErrArg)
	wantErr(t, "40 runes of two bytes", d.Create(strings.Repeat("\u00e9", api.MaxName)), api.ErrArg)
	must(t, d.Append("a", []byte("x")))
	wantErr(t, "again", d.Create("a"), api.ErrThere)
	wantFile(t, d, "a", "x", 1)
	wantFile(t, d, longest, "", 0)
	wantDisk(t, d, 1, 9, "\x00", "/ ", "a", longest)
}

func TestP1_2CreateFails(t *testing.T) {
	d := failing(1)
	wantErr(t, "fails", d.Create("a"), api.ErrDisk)
	wantDisk(t, d, 0, 1)
	must(t, d.Create("a"))

	d = failing(1)
	wantErr(t, "fails, not valid", d.Create(""), api.ErrArg)
	d = failing(2)
	must(t, d.Create("a"))
	wantErr(t, "fails, is there", d.Create("a"), api.ErrThere)
}

func TestP1_2CreateOnAFullDisk(t *testing.T) {
	d := disk.New(0, api.Plan{})
	must(t, d.Create("a"), d.Create("b"))
	wantDisk(t, d, 0, 2, "a", "b")
}

func TestP1_2Remove(t *testing.T) {
	d := roomy()
	must(t, d.Create("a"), d.Create("b"), d.Append("a", []byte("xy")), d.Sync("a"))
	wantErr(t, "no bytes", d.Remove(""), api.ErrArg)
	wantErr(t, "41 bytes", d.Remove(strings.Repeat("n", 41)), api.ErrArg)
	wantErr(t, "not there", d.Remove("c"), api.ErrFile)
	must(t, d.Remove("a"))
	wantErr(t, "again", d.Remove("a"), api.ErrFile)
	wantDisk(t, d, 0, 9, "b")
	d.Crash([]int{9, 9})
	wantDisk(t, d, 0, 9, "b")
	must(t, d.Create("a"))
	wantFile(t, d, "a", "", 0)
}

func TestP1_2RemoveFails(t *testing.T) {
	d := failing(3)
	must(t, d.Create("a"), d.Append("a", []byte("xy")))
	wantErr(t, "fails", d.Remove("a"), api.ErrDisk)
	wantFile(t, d, "a", "xy", 2)
	must(t, d.Remove("a"))

	wantErr(t, "fails, not valid", failing(1).Remove(""), api.ErrArg)
	wantErr(t, "fails, not there", failing(1).Remove("a"), api.ErrFile)
}

func TestP1_2Rename(t *testing.T) {
	d := roomy()
	longest := strings.Repeat("n", api.MaxName)
	must(t, d.Create("a"), d.Append("a", []byte("12")), d.Sync("a"), d.Append("a", []byte("3")))
	must(t, d.Rename("a", longest))
	wantDisk(t, d, 3, 5, longest)
	wantFile(t, d, longest, "123", 1)
	must(t, d.Create("b"), d.Append("b", []byte("4567")), d.Sync("b"), d.Rename(longest, "b"))
	wantDisk(t, d, 3, 9, "b")
	wantFile(t, d, "b", "123", 1)
	d.Crash(nil)
	wantFile(t, d, "b", "12", 0)
}

func TestP1_2RenameToItself(t *testing.T) {
	d := disk.New(3, api.Plan{Fails: []int{6}})
	must(t, d.Create("a"), d.Append("a", []byte("12")), d.Sync("a"), d.Append("a", []byte("3")))
	must(t, d.Rename("a", "a"))
	wantFile(t, d, "a", "123", 1)
	wantDisk(t, d, 3, 5, "a")
	wantErr(t, "fails", d.Rename("a", "a"), api.ErrDisk)
	wantErr(t, "not there", d.Rename("b", "b"), api.ErrFile)
	wantErr(t, "not valid", d.Rename("", ""), api.ErrArg)
	wantFile(t, d, "a", "123", 1)
	wantErr(t, "full", d.Append("a", []byte("4")), api.ErrFull)
}

func TestP1_2RenameErrors(t *testing.T) {
	d := roomy()
	must(t, d.Create("a"), d.Append("a", []byte("12")), d.Create("b"))
	long := strings.Repeat("n", 41)
	for _, c := range []struct {
		old, name string
		want      api.Errno
	}{
		{"", "c", api.ErrArg},
		{"a", "", api.ErrArg},
		{long, "c", api.ErrArg},
		{"a", long, api.ErrArg},
		{"x", "", api.ErrArg},
		{"x", "b", api.ErrFile},
		{"x", "y", api.ErrFile},
	} {
		wantErr(t, c.old+" to "+c.name, d.Rename(c.old, c.name), c.want)
		wantErr(t, c.old+" to "+c.name+", fails", failing(1).Rename(c.old, c.name), c.want)
	}
	wantDisk(t, d, 2, 10, "a", "b")

	d = failing(4)
	must(t, d.Create("a"), d.Append("a", []byte("12")), d.Create("b"))
	wantErr(t, "fails", d.Rename("a", "b"), api.ErrDisk)
	wantFile(t, d, "a", "12", 2)
	wantFile(t, d, "b", "", 0)
}

// Files are made, renamed and removed durably, without any Sync.
func TestP1_2Durable(t *testing.T) {
	d := roomy()
	must(t, d.Create("a"), d.Create("b"), d.Create("c"), d.Rename("b", "e"), d.Remove("c"))
	d.Crash(nil)
	wantDisk(t, d, 0, 5, "a", "e")
}

func TestP1_3Append(t *testing.T) {
	d := roomy()
	must(t, d.Create("a"))
	wantErr(t, "not valid", d.Append("", []byte("x")), api.ErrArg)
	wantErr(t, "41 bytes", d.Append(strings.Repeat("n", 41), []byte("x")), api.ErrArg)
	wantErr(t, "not there", d.Append("b", []byte("x")), api.ErrFile)
	must(t, d.Append("a", nil), d.Append("a", []byte{}))
	wantFile(t, d, "a", "", 0)
	must(t, d.Append("a", []byte("1\x00")), d.Sync("a"), d.Append("a", []byte("\xff")), d.Append("a", []byte("2")))
	wantFile(t, d, "a", "1\x00\xff2", 2)
	wantDisk(t, d, 4, 10, "a")
}

func TestP1_3AppendKeepsNothing(t *testing.T) {
	d := roomy()
	b := []byte("12345678")
	must(t, d.Create("a"), d.Append("a", b[:3]), d.Append("a", []byte("xy")))
	if string(b) != "12345678" {
		t.Errorf("changed: %q", b)
	}
	b[0] = 'z'
	wantFile(t, d, "a", "123xy", 5)
}

func TestP1_3AppendWithoutRoom(t *testing.T) {
	d := disk.New(3, api.Plan{})
	must(t, d.Create("a"), d.Create("b"), d.Append("a", []byte("12")))
	wantErr(t, "too much", d.Append("b", []byte("34")), api.ErrFull)
	wantFile(t, d, "b", "", 0)
	must(t, d.Append("b", []byte("3")), d.Append("a", nil))
	wantErr(t, "full", d.Append("a", []byte("4")), api.ErrFull)
	wantErr(t, "full, not there", d.Append("c", []byte("4")), api.ErrFile)
	must(t, d.Remove("a"), d.Append("b", []byte("45")))
	wantFile(t, d, "b", "345", 3)
	wantDisk(t, d, 3, 10, "b")
}

func TestP1_3Capacity(t *testing.T) {
	for _, c := range []struct {
		capacity, n int
		want        api.Errno
	}{
		{0, 0, api.OK},
		{0, 1, api.ErrFull},
		{1, 1, api.OK},
		{1, 2, api.ErrFull},
		{-1, 0, api.OK},
		{-1, 1, api.ErrFull},
		{-9, 1, api.ErrFull},
		{math.MinInt, 0, api.OK},
		{math.MinInt, 1, api.ErrFull},
		{math.MaxInt, 9, api.OK},
	} {
		d := disk.New(c.capacity, api.Plan{})
		must(t, d.Create("a"))
		wantErr(t, "Append", d.Append("a", make([]byte, c.n)), c.want)
		if c.want == api.OK {
			wantFile(t, d, "a", strings.Repeat("\x00", c.n), c.n)
		} else {
			wantFile(t, d, "a", "", 0)
		}
	}
}

// Of a failed Append as many bytes stay as the part, the bytes, and the room allow, whichever is least.
func TestP1_3AppendFails(t *testing.T) {
	for _, c := range []struct {
		capacity    int
		fails       []int
		parts       []int
		b, appended string
	}{
		{9, []int{3}, nil, "345", ""},
		{9, []int{3}, []int{0}, "345", ""},
		{9, []int{3}, []int{2}, "345", "34"},
		{9, []int{3}, []int{3}, "345", "345"},
		{9, []int{3}, []int{4}, "345", "345"},
		{9, []int{3}, []int{math.MaxInt}, "345", "345"},
		{9, []int{3}, []int{-1}, "345", ""},
		{9, []int{3}, []int{math.MinInt}, "345", ""},
		{9, []int{3}, []int{2}, "", ""},
		{4, []int{3}, []int{3}, "345", "34"},
		{4, []int{3}, []int{1}, "345", "3"},
		{2, []int{3}, []int{3}, "345", ""},
		{9, []int{7, 3, 8}, []int{3, 1, 2}, "345", "3"},
		{9, []int{7, 3}, []int{3}, "345", ""},
		{9, []int{3, 3}, []int{1, 2}, "345", "3"},
		{9, []int{3, 3}, []int{-1, 2}, "345", ""},
		{9, []int{0, -3, 3}, []int{1, 2, 3}, "345", "345"},
	} {
		d := disk.New(c.capacity, api.Plan{Fails: c.fails, Parts: c.parts})
		must(t, d.Create("a"), d.Append("a", []byte("12")))
		wantErr(t, "fails", d.Append("a", []byte(c.b)), api.ErrDisk)
		wantFile(t, d, "a", "12"+c.appended, 2+len(c.appended))
		wantDisk(t, d, 2+len(c.appended), 3, "a")
	}
}

func TestP1_3AppendFailsElsewhere(t *testing.T) {
	plan := api.Plan{Fails: []int{1, 2}, Parts: []int{9, 9}}
	d := disk.New(9, plan)
	wantErr(t, "not valid", d.Append("", []byte("x")), api.ErrArg)
	wantErr(t, "not there", d.Append("a", []byte("x")), api.ErrFile)
	wantDisk(t, d, 0, 2)
	must(t, d.Create("a"), d.Append("a", []byte("x")))
	wantFile(t, d, "a", "x", 1)
}

// A part is an Append's alone: of the other calls that fail nothing is done.
func TestP1_3PartOfOtherCalls(t *testing.T) {
	d := disk.New(9, api.Plan{Fails: []int{1, 4}, Parts: []int{9, 9}})
	wantErr(t, "Create", d.Create("a"), api.ErrDisk)
	must(t, d.Create("a"), d.Append("a", []byte("12")))
	wantErr(t, "Sync", d.Sync("a"), api.ErrDisk)
	wantFile(t, d, "a", "12", 2)
}

func TestP1_3Sync(t *testing.T) {
	d := failing(6)
	must(t, d.Create("a"), d.Create("b"), d.Append("a", []byte("12")), d.Append("b", []byte("3")), d.Sync("a"))
	wantFile(t, d, "a", "12", 0)
	wantFile(t, d, "b", "3", 1)
	wantErr(t, "fails", d.Sync("b"), api.ErrDisk)
	wantFile(t, d, "b", "3", 1)
	wantErr(t, "no bytes", d.Sync(""), api.ErrArg)
	wantErr(t, "41 bytes", d.Sync(strings.Repeat("n", 41)), api.ErrArg)
	wantErr(t, "not there", d.Sync("c"), api.ErrFile)
	must(t, d.Sync("b"), d.Sync("b"))
	wantFile(t, d, "b", "3", 0)
	wantErr(t, "fails, not valid", failing(1).Sync(""), api.ErrArg)
	wantErr(t, "fails, not there", failing(1).Sync("a"), api.ErrFile)
}

func TestP1_4Looks(t *testing.T) {
	d := roomy()
	must(t, d.Create("a"), d.Append("a", []byte("12")), d.Sync("a"), d.Append("a", []byte("345")))
	wantFile(t, d, "a", "12345", 3)
	for name, want := range map[string]api.Errno{
		"":                      api.ErrArg,
		strings.Repeat("n", 41): api.ErrArg,
		strings.Repeat("n", 40): api.ErrFile,
		"b":                     api.ErrFile,
	} {
		if b, e := d.Read(name); b != nil || e != want {
			t.Errorf("Read(%q): %q, error %d, want %d", name, b, e, want)
		}
		if n, e := d.Size(name); n != 0 || e != want {
			t.Errorf("Size(%q): %d, error %d, want %d", name, n, e, want)
		}
		if n, e := d.Loose(name); n != 0 || e != want {
			t.Errorf("Loose(%q): %d, error %d, want %d", name, n, e, want)
		}
	}
}

func TestP1_4ReadHasMemoryOfItsOwn(t *testing.T) {
	d := roomy()
	must(t, d.Create("a"), d.Append("a", []byte("123")))
	b, _ := d.Read("a")
	c, _ := d.Read("a")
	b[0] = 'x'
	_ = append(b[:1], "yz"...)
	wantFile(t, d, "a", "123", 3)
	must(t, d.Append("a", []byte("4")))
	if string(c) != "123" {
		t.Errorf("%q", c)
	}
}

// Looking never fails by the plan.
func TestP1_4LooksDoNotFail(t *testing.T) {
	d := disk.New(9, api.Plan{Fails: []int{3, 4, 5, 6}})
	must(t, d.Create("a"), d.Append("a", []byte("12")))
	wantFile(t, d, "a", "12", 2)
	wantErr(t, "call 3", d.Sync("a"), api.ErrDisk)
}

func TestP1_5Crash(t *testing.T) {
	for _, c := range []struct {
		keeps   []int
		a, b, c string
	}{
		{nil, "12", "", "67"},
		{[]int{}, "12", "", "67"},
		{[]int{1}, "123", "", "67"},
		{[]int{0, 1}, "12", "4", "67"},
		{[]int{1, 2}, "123", "45", "67"},
		{[]int{2, 3, 1}, "123", "45", "67"},
		{[]int{-1, 1}, "12", "4", "67"},
		{[]int{math.MaxInt, math.MinInt}, "123", "", "67"},
		{[]int{0, 2, 9, 9, 9}, "12", "45", "67"},
	} {
		d := roomy()
		must(t, d.Create("c"), d.Create("b"), d.Create("a"))
		must(t, d.Append("a", []byte("12")), d.Sync("a"), d.Append("a", []byte("3")))
		must(t, d.Append("b", []byte("4")), d.Append("b", []byte("5")))
		must(t, d.Append("c", []byte("67")), d.Sync("c"))
		keeps := slices.Clone(c.keeps)
		d.Crash(keeps)
		if !slices.Equal(keeps, c.keeps) {
			t.Errorf("keeps changed: %v", keeps)
		}
		for range 2 {
			wantFile(t, d, "a", c.a, 0)
			wantFile(t, d, "b", c.b, 0)
			wantFile(t, d, "c", c.c, 0)
			wantDisk(t, d, len(c.a)+len(c.b)+len(c.c), 10, "a", "b", "c")
			d.Crash(nil)
		}
	}
}

// Behind a crash calls are counted on, the plan and the capacity hold, and what is gone has left room.
func TestP1_5CrashKeepsTheRest(t *testing.T) {
	d := disk.New(3, api.Plan{Fails: []int{4}, Parts: []int{1}})
	must(t, d.Create("a"), d.Append("a", []byte("123")))
	d.Crash([]int{1})
	wantErr(t, "full", d.Append("a", []byte("xyz")), api.ErrFull)
	wantErr(t, "call 4", d.Append("a", []byte("xy")), api.ErrDisk)
	wantFile(t, d, "a", "1x", 1)
	must(t, d.Append("a", []byte("z")))
	wantFile(t, d, "a", "1xz", 2)
	wantDisk(t, d, 3, 5, "a")
}

// wantNone holds that a disk that none is answers nothing.
func wantNone(t *testing.T, d *disk.Disk) {
	t.Helper()
	for _, name := range []string{"a", ""} {
		b, e1 := d.Read(name)
		n, e2 := d.Size(name)
		m, e3 := d.Loose(name)
		if b != nil || n != 0 || m != 0 {
			t.Error(b, n, m)
		}
		for i, e := range []api.Errno{d.Create(name), d.Append(name, []byte("x")), d.Sync(name), d.Rename(name, "b"), d.Rename("b", name), d.Remove(name), e1, e2, e3} {
			if e != api.ErrNil {
				t.Errorf("call %d with %q: error %d", i, name, e)
			}
		}
	}
	d.Crash([]int{1})
	wantDisk(t, d, 0, 0)
	if c := d.Copy(); c != nil {
		t.Error("a copy of no disk")
	}
}

func TestR5NoDisk(t *testing.T) {
	wantNone(t, nil)
	wantNone(t, &disk.Disk{})
	d := roomy()
	must(t, d.Create("a"), d.Append("a", []byte("12")))
	byValue := *d
	wantNone(t, &byValue)
	wantFile(t, d, "a", "12", 2)
	wantDisk(t, d, 2, 2, "a")
}
