package disk_test

import (
	"bytes"
	"fmt"
	"slices"
	"testing"

	"twain/api"
	"twain/disk"
	"twain/sample"
)

// either is a disk, or what it is held against.
type either interface {
	Size() int
	Read(at int) (api.Sector, api.Errno)
	Write(at int, s api.Sector) api.Errno
	Flush() api.Errno
	Fuse(k int)
	Broken() bool
	Crash(mask uint64)
	Cached() []int
	Durable(at int) api.Sector
	Ops() int
}

// plain is a disk by the chapter's words: what is durable in each sector, and, if anything is, what is cached for it.
type plain struct {
	durable []api.Sector
	cached  []*api.Sector
	fused   bool
	left    int
	broken  bool
	ops     int
}

func newPlain(n int) *plain {
	return &plain{durable: make([]api.Sector, n), cached: make([]*api.Sector, n)}
}

func (p *plain) Size() int    { return len(p.durable) }
func (p *plain) Broken() bool { return p.broken }
func (p *plain) Ops() int     { return p.ops }
func (p *plain) Fuse(k int)   { p.fused, p.left = k >= 0, k }

func (p *plain) Read(at int) (api.Sector, api.Errno) {
	switch {
	case at < 0 || at >= p.Size():
		return api.Sector{}, api.ErrRange
	case p.broken:
		return api.Sector{}, api.ErrDown
	case p.cached[at] != nil:
		return *p.cached[at], api.OK
	}
	return p.durable[at], api.OK
}

func (p *plain) operation(do func()) api.Errno {
	switch {
	case p.broken:
		return api.ErrDown
	case p.fused && p.left == 0:
		p.broken = true
		return api.ErrDown
	}
	p.left--
	p.ops++
	do()
	return api.OK
}

func (p *plain) Write(at int, s api.Sector) api.Errno {
	if at < 0 || at >= p.Size() {
		return api.ErrRange
	}
	return p.operation(func() { p.cached[at] = &s })
}

func (p *plain) Flush() api.Errno {
	return p.operation(func() {
		for at, s := range p.cached {
			if s != nil {
				p.durable[at] = *s
			}
		}
		clear(p.cached)
	})
}

func (p *plain) Crash(mask uint64) {
	bit := uint64(1)
	for _, at := range p.Cached() {
		if mask&bit != 0 {
			p.durable[at] = *p.cached[at]
		}
		// Behind the highest bit the lowest one is next.
		if bit *= 2; bit == 0 {
			bit = 1
		}
	}
	clear(p.cached)
	p.broken, p.fused = false, false
}

func (p *plain) Cached() []int {
	var list []int
	for at, s := range p.cached {
		if s != nil {
			list = append(list, at)
		}
	}
	return list
}

func (p *plain) Durable(at int) api.Sector {
	if at < 0 || at >= p.Size() {
		return api.Sector{}
	}
	return p.durable[at]
}

// step is something that is done to a disk.
type step struct {
	name string
	do   func(x either) api.Errno
}

func write(at int, s api.Sector) step {
	return step{fmt.Sprintf("Write(%d, %v)", at, s), func(x either) api.Errno { return x.Write(at, s) }}
}

func flush() step {
	return step{"Flush", func(x either) api.Errno { return x.Flush() }}
}

func fuse(k int) step {
	return step{fmt.Sprintf("Fuse(%d)", k), func(x either) api.Errno { x.Fuse(k); return api.OK }}
}

func crash(mask uint64) step {
	return step{fmt.Sprintf("Crash(%#x)", mask), func(x either) api.Errno { x.Crash(mask); return api.OK }}
}

// named: the names of the steps, for a test that fails.
func named(steps []step) []string {
	var list []string
	for _, s := range steps {
		list = append(list, s.name)
	}
	return list
}

// made: a new disk of n sectors.
func made(t *testing.T, n int) *disk.Disk {
	t.Helper()
	d, e := disk.New(n)
	if d == nil || e != api.OK {
		t.Fatalf("New(%d): %v, %v", n, d, e)
	}
	return d
}

// alike: does the disk tell what the plain one tells, of each sector and of those beside?
func alike(t *testing.T, d *disk.Disk, p *plain, steps ...step) {
	t.Helper()
	if !d.Made() || d.Size() != p.Size() || d.Broken() != p.Broken() || d.Ops() != p.Ops() {
		t.Fatalf("%v: Made %v, Size %d, Broken %v, Ops %d, want true, %d, %v, %d", named(steps), d.Made(), d.Size(), d.Broken(), d.Ops(), p.Size(), p.Broken(), p.Ops())
	}
	if got, want := d.Cached(), p.Cached(); !slices.Equal(got, want) {
		t.Fatalf("%v: Cached: %v, want %v", named(steps), got, want)
	}
	for at := -1; at <= p.Size(); at++ {
		if got, want := d.Durable(at), p.Durable(at); got != want {
			t.Fatalf("%v: Durable(%d): %v, want %v", named(steps), at, got, want)
		}
		got, e := d.Read(at)
		want, wantE := p.Read(at)
		if got != want || e != wantE {
			t.Fatalf("%v: Read(%d): %v, %v, want %v, %v", named(steps), at, got, e, want, wantE)
		}
	}
}

// play: the steps, done to a new disk of n sectors, held against a plain one at each of them.
func play(t *testing.T, n int, steps ...step) *disk.Disk {
	t.Helper()
	d, p := made(t, n), newPlain(n)
	alike(t, d, p)
	for i, s := range steps {
		did := steps[:i+1]
		if got, want := s.do(d), s.do(p); got != want {
			t.Fatalf("%v: %v, want %v", named(did), got, want)
		}
		alike(t, d, p, did...)
	}
	return d
}

// few: steps that small disks can take, wrong ones among them.
func few() []step {
	return []step{
		write(0, api.Sector{1}),
		write(1, api.Sector{15: 2}),
		write(0, api.Sector{}),
		write(-1, api.Sector{3}),
		write(2, api.Sector{4}),
		flush(),
		crash(0),
		crash(1),
		crash(2),
		crash(all),
		fuse(0),
		fuse(1),
		fuse(-1),
	}
}

// chance: a step that a word of no pattern chooses for a disk of n sectors, of which it writes no more than some.
func chance(w uint64, n, some int) step {
	at := int(w>>8%uint64(some)) * n / some
	switch w % 32 {
	case 0, 1:
		return flush()
	case 2, 3:
		return crash(w >> 5)
	case 4:
		return crash(0)
	case 5:
		return fuse(int(w>>8) % 40)
	case 6:
		return fuse(-int(w >> 40))
	case 7:
		return write(n+int(w>>40), api.Sector{1})
	case 8:
		return write(-1-int(w>>40), api.Sector{1})
	case 9, 10:
		return write(at, api.Sector{})
	}
	return write(at, api.Sector(bytes.Repeat([]byte{byte(w >> 48), byte(w >> 56)}, 8)))
}

// words: n words of no pattern.
func words(n int) []uint64 {
	list := sample.Words()
	return list[len(list)-n:]
}
