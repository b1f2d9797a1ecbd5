package resync_test

import (
	"math"
	"slices"
	"testing"

	"twain/api"
	"twain/copying"
	"twain/disk"
	"twain/meta"
	"twain/resync"
	"twain/sample"
)

const (
	all      = math.MaxUint64
	greatest = math.MaxUint32
)

// plain is a node's part by the chapter's words, on a disk that goes their way.
type plain struct {
	d            *disk.Disk
	source, over bool
	left         uint64
}

// isGreet: is it a Greet, and Good, by chapter 17's words?
func isGreet(m api.Message) bool {
	return m.Kind == 1 && m.Id == 0 && m.Off == 0 && len(m.Data) == 0
}

// isSource: does the node give, by chapter 26's words?
func isSource(who int, mine, theirs bool) bool {
	if mine != theirs {
		return mine
	}
	return who == 0
}

// begun: Begin, by the chapter's words.
func begun(d *disk.Disk, who, sectors int, mine, theirs api.Message) (*plain, []api.Message, api.Errno) {
	if !isGreet(mine) || !isGreet(theirs) || who != 0 && who != 1 {
		return nil, nil, api.ErrArg
	}
	p := &plain{d: d, source: isSource(who, mine.Was, theirs.Was), left: sample.Union(mine.Mask, theirs.Mask, sectors)}
	if err := meta.Retire(d, p.left); err != api.OK {
		return nil, nil, err
	}
	if !p.source {
		return p, nil, api.OK
	}
	if p.left == 0 {
		return p, p.close(), api.OK
	}
	var told []api.Message
	for _, e := range sample.Members(p.left) {
		m, err := copying.Give(d, e)
		if err != api.OK {
			return nil, nil, err
		}
		told = append(told, m)
	}
	return p, told, api.OK
}

// close: End is told, and it is Over.
func (p *plain) close() []api.Message {
	p.over = true
	return []api.Message{{Kind: 8}}
}

// take: Take, by the chapter's words.
func (p *plain) take(m api.Message) ([]api.Message, api.Errno) {
	switch {
	case p.over:
	case p.source && m.Kind == 7 && slices.Contains(sample.Members(p.left), m.Off):
		if _, err := copying.Told(p.d, m.Off); err != api.OK {
			return nil, err
		}
		p.left = sample.Without(p.left, m.Off)
		if p.left == 0 {
			return p.close(), api.OK
		}
	case !p.source && m.Kind == 6:
		have, err := copying.Put(p.d, m)
		if err != api.OK {
			return nil, err
		}
		p.left = sample.Without(p.left, m.Off)
		return []api.Message{have}, api.OK
	case !p.source && m.Kind == 8:
		p.over = true
	}
	return nil, api.OK
}

// node is a Resync, the disk that it is on, and what both must be.
type node struct {
	r     *resync.Resync
	d     *disk.Disk
	plain *plain
}

// leaves: is the disk as the other one, to which the same was done by the chapter's words?
func leaves(t *testing.T, what string, d, want *disk.Disk) {
	t.Helper()
	if !sample.Alike(d, want) {
		t.Fatalf("%s: the disk is another one: Broken %v, Cached %v, Ops %d, want %v, %v, %d", what, d.Broken(), d.Cached(), d.Ops(), want.Broken(), want.Cached(), want.Ops())
	}
}

// begins: does Begin answer, and do, what the chapter's words have? nil, if there is no Resync.
func begins(t *testing.T, what string, d *disk.Disk, who, sectors int, mine, theirs api.Message) (*node, []api.Message, api.Errno) {
	t.Helper()
	like := d.Copy()
	p, want, wantE := begun(like, who, sectors, mine, theirs)
	r, told, err := resync.Begin(d, who, sectors, mine, theirs)
	if err != wantE || !sample.AlikeAll(told, want) || (r == nil) != (p == nil) {
		t.Fatalf("%s: Begin(%d, %d, %s, %s): %v, %v, %v, want %v, %v", what, who, sectors, sample.Shown(mine), sample.Shown(theirs), r, sample.ShownAll(told), err, sample.ShownAll(want), wantE)
	}
	leaves(t, what, d, like)
	if r == nil {
		return nil, told, err
	}
	n := &node{r: r, d: d, plain: p}
	n.stands(t, what)
	return n, told, err
}

// beginStays: is that Begin's error, with nothing beside it, and is the disk as it was?
func beginStays(t *testing.T, what string, d *disk.Disk, who, sectors int, mine, theirs api.Message, want api.Errno) {
	t.Helper()
	was := d.Copy()
	if n, told, err := begins(t, what, d, who, sectors, mine, theirs); n != nil || told != nil || err != want {
		t.Fatalf("%s: Begin(%d, %d, %s, %s): %v, %v, %v, want nil, nil, %v", what, who, sectors, sample.Shown(mine), sample.Shown(theirs), n, told, err, want)
	}
	leaves(t, what, d, was)
}

// stands: does the Resync tell what it must, however often it is asked, and is its disk as it must be?
func (n *node) stands(t *testing.T, what string) {
	t.Helper()
	for range 2 {
		if n.r.Source() != n.plain.source || n.r.Over() != n.plain.over || n.r.Left() != n.plain.left {
			t.Fatalf("%s: Source %v, Over %v, Left %#x, want %v, %v, %#x", what, n.r.Source(), n.r.Over(), n.r.Left(), n.plain.source, n.plain.over, n.plain.left)
		}
	}
	leaves(t, what, n.d, n.plain.d)
}

// takes: does Take answer, and do, what the chapter's words have?
func (n *node) takes(t *testing.T, what string, m api.Message) ([]api.Message, api.Errno) {
	t.Helper()
	want, wantE := n.plain.take(m)
	got, err := n.r.Take(m)
	if err != wantE || !sample.AlikeAll(got, want) {
		t.Fatalf("%s: Take(%s): %v, %v, want %v, %v", what, sample.Shown(m), sample.ShownAll(got), err, sample.ShownAll(want), wantE)
	}
	n.stands(t, what)
	return got, err
}

// answers: is that told, and nothing wrong?
func (n *node) answers(t *testing.T, what string, m api.Message, want ...api.Message) {
	t.Helper()
	if got, err := n.takes(t, what, m); !sample.AlikeAll(got, want) || err != api.OK {
		t.Fatalf("%s: Take(%s): %v, %v, want %v, OK", what, sample.Shown(m), sample.ShownAll(got), err, sample.ShownAll(want))
	}
}

// takeStays: is that Take's error, with nothing told, and is all as it was?
func (n *node) takeStays(t *testing.T, what string, m api.Message, want api.Errno) {
	t.Helper()
	was, left, over := n.d.Copy(), n.r.Left(), n.r.Over()
	if got, err := n.takes(t, what, m); len(got) != 0 || err != want || n.r.Left() != left || n.r.Over() != over {
		t.Fatalf("%s: Take(%s): %v, %v, Left %#x, Over %v, want nothing, %v, %#x, %v", what, sample.Shown(m), sample.ShownAll(got), err, n.r.Left(), n.r.Over(), want, left, over)
	}
	leaves(t, what, n.d, was)
}

// fuse: the disk breaks behind so many operations.
func (n *node) fuse(k int) {
	n.d.Fuse(k)
	n.plain.d.Fuse(k)
}

// crash: the disk's cache is gone, but for what is spared.
func (n *node) crash(mask uint64) {
	n.d.Crash(mask)
	n.plain.d.Crash(mask)
}

// end: the message that tells that nothing is left to copy.
func end() api.Message { return api.Message{Kind: 8} }

// sourceOf: a node that gives the extents of that set, on a disk of that size.
func sourceOf(t *testing.T, size int, set uint64) *node {
	t.Helper()
	n, _, _ := begins(t, "the source", sample.Knowing(size, set, 0), 0, size-8, sample.Greet(set, false), sample.Greet(0, false))
	return n
}

// targetOf: a node that gets the extents of that set, on a disk of that size.
func targetOf(t *testing.T, size int, set uint64) *node {
	t.Helper()
	n, _, _ := begins(t, "the target", sample.Knowing(size, 0, set), 1, size-8, sample.Greet(set, false), sample.Greet(0, false))
	return n
}
