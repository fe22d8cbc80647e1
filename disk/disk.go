// Package disk is layer 1: see shared/doc/01-disk.md.
package disk

import (
	"maps"
	"slices"

	"ratline/api"
)

// Disk is files.
type Disk struct {
	self     *Disk // tells a disk that New or Copy returned from a zero one, and from one that was assigned by value
	capacity int
	used     int         // kept, so that an Append need not go through all files
	calls    int         // that counted
	parts    map[int]int // for each call that the plan fails its part
	files    map[string]*file
}

// file is one of a disk: the bytes behind the synced ones are loose.
type file struct {
	bytes  []byte
	synced int
}

// call is one that counts.
type call struct {
	fails bool
	part  int
}

func New(capacity int, plan api.Plan) *Disk {
	d := &Disk{
		capacity: max(capacity, 0),
		parts:    partsOf(plan),
		files:    map[string]*file{},
	}
	d.self = d
	return d
}

func (d *Disk) Copy() *Disk {
	if !d.made() {
		return nil
	}
	c := &Disk{
		capacity: d.capacity,
		used:     d.used,
		calls:    d.calls,
		parts:    maps.Clone(d.parts),
		files:    map[string]*file{},
	}
	c.self = c
	for name, f := range d.files {
		c.files[name] = &file{bytes: slices.Clone(f.bytes), synced: f.synced}
	}
	return c
}

func (d *Disk) Create(name string) api.Errno {
	return d.count(func(c call) api.Errno {
		switch {
		case !valid(name):
			return api.ErrArg
		case d.files[name] != nil:
			return api.ErrThere
		case c.fails:
			return api.ErrDisk
		}
		d.files[name] = &file{}
		return api.OK
	})
}

func (d *Disk) Append(name string, b []byte) api.Errno {
	return d.change(name, func(f *file, c call) api.Errno {
		room := d.capacity - d.used
		if c.fails {
			d.grow(f, b[:min(c.part, len(b), room)])
			return api.ErrDisk
		}
		if len(b) > room {
			return api.ErrFull
		}
		d.grow(f, b)
		return api.OK
	})
}

func (d *Disk) Sync(name string) api.Errno {
	return d.change(name, func(f *file, c call) api.Errno {
		if c.fails {
			return api.ErrDisk
		}
		f.synced = len(f.bytes)
		return api.OK
	})
}

func (d *Disk) Rename(old, name string) api.Errno {
	return d.count(func(c call) api.Errno {
		if !valid(name) {
			return api.ErrArg
		}
		return d.with(old, func(f *file) api.Errno {
			if c.fails {
				return api.ErrDisk
			}
			// Taken out first, so that a file that gets its own name does not replace itself.
			delete(d.files, old)
			d.drop(name)
			d.files[name] = f
			return api.OK
		})
	})
}

func (d *Disk) Remove(name string) api.Errno {
	return d.change(name, func(f *file, c call) api.Errno {
		if c.fails {
			return api.ErrDisk
		}
		d.drop(name)
		return api.OK
	})
}

func (d *Disk) Read(name string) ([]byte, api.Errno) {
	var b []byte
	e := d.with(name, func(f *file) api.Errno {
		b = slices.Clone(f.bytes)
		return api.OK
	})
	return b, e
}

func (d *Disk) Size(name string) (int, api.Errno) {
	n := 0
	e := d.with(name, func(f *file) api.Errno {
		n = len(f.bytes)
		return api.OK
	})
	return n, e
}

func (d *Disk) Loose(name string) (int, api.Errno) {
	n := 0
	e := d.with(name, func(f *file) api.Errno {
		n = f.loose()
		return api.OK
	})
	return n, e
}

func (d *Disk) List() []string {
	if !d.made() {
		return nil
	}
	return slices.Sorted(maps.Keys(d.files))
}

func (d *Disk) Used() int {
	if !d.made() {
		return 0
	}
	return d.used
}

func (d *Disk) Calls() int {
	if !d.made() {
		return 0
	}
	return d.calls
}

func (d *Disk) Crash(keeps []int) {
	for i, name := range d.List() {
		keep := numberAt(keeps, i)
		d.with(name, func(f *file) api.Errno {
			gone := f.loose() - min(keep, f.loose())
			d.used -= gone
			f.bytes = f.bytes[:len(f.bytes)-gone]
			f.synced = len(f.bytes)
			return api.OK
		})
	}
}

func (d *Disk) made() bool {
	return d != nil && d.self == d
}

// count does a call that counts, whatever do returns for it.
func (d *Disk) count(do func(c call) api.Errno) api.Errno {
	if !d.made() {
		return api.ErrNil
	}
	d.calls++
	part, fails := d.parts[d.calls]
	return do(call{fails: fails, part: part})
}

// with does something with a file that must be there.
func (d *Disk) with(name string, do func(f *file) api.Errno) api.Errno {
	if !d.made() {
		return api.ErrNil
	}
	if !valid(name) {
		return api.ErrArg
	}
	f := d.files[name]
	if f == nil {
		return api.ErrFile
	}
	return do(f)
}

// change does a call that counts with a file that must be there.
func (d *Disk) change(name string, do func(f *file, c call) api.Errno) api.Errno {
	return d.count(func(c call) api.Errno {
		return d.with(name, func(f *file) api.Errno {
			return do(f, c)
		})
	})
}

func (d *Disk) grow(f *file, b []byte) {
	f.bytes = append(f.bytes, b...)
	d.used += len(b)
}

// drop takes a file away, if it is there.
func (d *Disk) drop(name string) {
	if f := d.files[name]; f != nil {
		d.used -= len(f.bytes)
		delete(d.files, name)
	}
}

func (f *file) loose() int {
	return len(f.bytes) - f.synced
}

func valid(name string) bool {
	return len(name) >= 1 && len(name) <= api.MaxName
}

// partsOf turns a plan into parts by the numbers of calls: the first one of a number counts.
func partsOf(plan api.Plan) map[int]int {
	parts := map[int]int{}
	for i, n := range plan.Fails {
		if _, there := parts[n]; !there {
			parts[n] = numberAt(plan.Parts, i)
		}
	}
	return parts
}

// numberAt is 0 where the list has no number, or a negative one.
func numberAt(list []int, i int) int {
	if i >= len(list) {
		return 0
	}
	return max(list[i], 0)
}
