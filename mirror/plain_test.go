package mirror_test

import (
	"bytes"
	"fmt"
	"math"
	"slices"
	"testing"

	"twain/actlog"
	"twain/api"
	"twain/data"
	"twain/disk"
	"twain/flight"
	"twain/hot"
	"twain/later"
	"twain/mirror"
	"twain/sample"
)

const all = math.MaxUint64

// The states of a flight by chapter 24's numbers.
const (
	isSent  = 0
	isAgain = 1
	isHeld  = 2
)

// The answers to a Data by chapter 17's numbers.
const (
	isAck   = 3
	isOver  = 4
	isRetry = 5
)

// at: a span.
func at(off, n int) api.Span { return api.Span{Off: off, Len: n} }

// bytesFor: what a write of that ticket, or Id, has: for each ticket others.
func bytesFor(ticket int, s api.Span) []byte { return sample.Pattern(ticket%1000, s.Len) }

// dataOf: the Data of a write of that ticket.
func dataOf(ticket int, s api.Span) api.Message {
	return sample.Data(ticket, s.Off, bytesFor(ticket, s))
}

// plain is a Mirror by the chapter's words: its flights by rising tickets, and what waits, as lists, on a disk that goes their way.
type plain struct {
	d    *disk.Disk
	who  int
	hot  *hot.Set
	fly  []flight.Write
	wait []later.Write
}

// made: New, by the chapter's words.
func made(d *disk.Disk, most, who int, mask uint64) (*plain, api.Errno) {
	switch {
	case !d.Made():
		return nil, api.ErrMade
	case who < 0 || who > 1 || most < 1 || most > 16:
		return nil, api.ErrArg
	}
	set, _ := hot.New(most)
	set.Load(mask)
	return &plain{d: d, who: who, hot: set}, api.OK
}

// place: where the flight of that ticket stands, or would stand, and whether it does.
func (p *plain) place(ticket int) (int, bool) {
	at := 0
	for at < len(p.fly) && p.fly[at].Ticket < ticket {
		at++
	}
	return at, at < len(p.fly) && p.fly[at].Ticket == ticket
}

// busy: does a flight overlap s?
func (p *plain) busy(s api.Span) bool {
	return slices.ContainsFunc(p.fly, func(w flight.Write) bool { return sample.InBoth(w.Span, s) })
}

// waits: does what waits overlap s?
func (p *plain) waits(s api.Span) bool {
	return slices.ContainsFunc(p.wait, func(w later.Write) bool { return sample.InBoth(w.Span, s) })
}

// extents: those of which a flight has a sector; each is asked for.
func (p *plain) extents() uint64 {
	var set uint64
	for e := range 64 {
		if p.busy(at(4*e, 4)) {
			set += 1 << e
		}
	}
	return set
}

// needs: the extents of which s has a sector; each is asked for.
func needs(s api.Span) uint64 {
	var set uint64
	for e := range 64 {
		if sample.InBoth(s, at(4*e, 4)) {
			set += 1 << e
		}
	}
	return set
}

// may: is it what a Write may be given?
func (p *plain) may(ticket int, s api.Span, b []byte) bool {
	sectors := p.d.Size() - 8
	return ticket > 0 && s.Off >= 0 && s.Len > 0 && s.Len <= sectors && s.Off <= sectors-s.Len && len(b) == 16*s.Len
}

// store: data's Write, and the disk's Flush.
func (p *plain) store(s api.Span, b []byte) api.Errno {
	if err := data.Write(p.d, s, b); err != api.OK {
		return err
	}
	return p.d.Flush()
}

func (p *plain) write(ticket int, s api.Span, b []byte) (bool, []api.Message, api.Errno) {
	if !p.may(ticket, s, b) {
		return false, nil, api.ErrArg
	}
	place, flies := p.place(ticket)
	if flies || p.busy(s) || p.waits(s) || !p.hot.Fits(needs(s), p.extents()) {
		return false, nil, api.OK
	}
	if turned, _ := p.hot.Use(needs(s), p.extents()); turned {
		if err := actlog.Put(p.d, p.hot.Mask()); err != api.OK {
			return false, nil, err
		}
	}
	if err := p.store(s, b); err != api.OK {
		return false, nil, err
	}
	p.fly = slices.Insert(p.fly, place, flight.Write{Ticket: ticket, Span: s, Data: bytes.Clone(b), State: isSent})
	return true, []api.Message{sample.Data(ticket, s.Off, b)}, api.OK
}

// keeps: does a flight that is Sent, or Held, overlap s?
func (p *plain) keeps(s api.Span) bool {
	return slices.ContainsFunc(p.fly, func(w flight.Write) bool { return w.State != isAgain && sample.InBoth(w.Span, s) })
}

// holds: is each sector of s in one flight?
func (p *plain) holds(s api.Span) bool {
	return slices.ContainsFunc(p.fly, func(w flight.Write) bool {
		return w.Span.Off <= s.Off && s.Off+s.Len <= w.Span.Off+w.Span.Len
	})
}

// meet: Take of a Data.
func (p *plain) meet(x api.Message) ([]api.Message, api.Errno) {
	s := at(x.Off, len(x.Data)/16)
	switch {
	case p.who == 0 && p.holds(s):
		return []api.Message{sample.Answer(isOver, x.Id)}, api.OK
	case p.who == 0 && p.busy(s):
		return []api.Message{sample.Answer(isRetry, x.Id)}, api.OK
	case p.who == 1 && p.keeps(s):
		p.wait = append(p.wait, later.Write{Id: x.Id, Span: s, Data: bytes.Clone(x.Data)})
		return nil, api.OK
	}
	if err := p.store(s, x.Data); err != api.OK {
		return nil, err
	}
	return []api.Message{sample.Answer(isAck, x.Id)}, api.OK
}

func (p *plain) take(x api.Message) ([]int, []api.Message, api.Errno) {
	if !sample.IsMessage(x) {
		return nil, nil, api.ErrArg
	}
	place, flies := p.place(x.Id)
	switch {
	case x.Kind == 2:
		told, err := p.meet(x)
		return nil, told, err
	case (x.Kind == isAck || x.Kind == isOver) && flies:
		p.fly = slices.Delete(p.fly, place, place+1)
		return []int{x.Id}, nil, api.OK
	case x.Kind == isRetry && flies:
		p.fly[place].State = isAgain
	}
	return nil, nil, api.OK
}

func (p *plain) goes() ([]api.Message, api.Errno) {
	var told []api.Message
	for {
		i := slices.IndexFunc(p.wait, func(w later.Write) bool { return !p.keeps(w.Span) })
		if i < 0 {
			break
		}
		w := p.wait[i]
		p.wait = slices.Delete(p.wait, i, i+1)
		if err := p.store(w.Span, w.Data); err != api.OK {
			return nil, err
		}
		told = append(told, sample.Answer(isAck, w.Id))
	}
	for i, w := range p.fly {
		if w.State != isAgain || p.waits(w.Span) {
			continue
		}
		if err := p.store(w.Span, w.Data); err != api.OK {
			return nil, err
		}
		p.fly[i].State = isSent
		told = append(told, sample.Data(w.Ticket, w.Span.Off, w.Data))
	}
	return told, api.OK
}

func (p *plain) hold() api.Errno {
	p.wait = nil
	for _, w := range p.fly {
		if w.State != isAgain {
			continue
		}
		if err := p.store(w.Span, w.Data); err != api.OK {
			return err
		}
	}
	for i := range p.fly {
		p.fly[i].State = isHeld
	}
	return api.OK
}

func (p *plain) release() []int {
	var done []int
	var left []flight.Write
	for _, w := range p.fly {
		if w.State == isHeld {
			done = append(done, w.Ticket)
		} else {
			left = append(left, w)
		}
	}
	p.fly = left
	return done
}

// spans: those of what waits.
func (p *plain) spans() []api.Span {
	var list []api.Span
	for _, w := range p.wait {
		list = append(list, w.Span)
	}
	return list
}

// node is a Mirror, the disk that it is on, and what both must be.
type node struct {
	m     *mirror.Mirror
	d     *disk.Disk
	plain *plain
}

// same: are the flights alike, byte by byte?
func same(a, b flight.Write) bool {
	return a.Ticket == b.Ticket && a.Span == b.Span && a.State == b.State && bytes.Equal(a.Data, b.Data)
}

// flying: flights as a test's words tell them: ticket, span, state, and how many bytes.
func flying(list []flight.Write) []string {
	var texts []string
	for _, w := range list {
		texts = append(texts, fmt.Sprint(w.Ticket, w.Span, w.State, " of ", len(w.Data)))
	}
	return texts
}

// leaves: is the disk as the other one, to which the same was done by the chapter's words?
func leaves(t *testing.T, what string, d, want *disk.Disk) {
	t.Helper()
	if !sample.Alike(d, want) {
		t.Fatalf("%s: the disk is another one: Broken %v, Cached %v, Ops %d, the log %#x, want %v, %v, %d, %#x", what, d.Broken(), d.Cached(), d.Ops(), actlog.Get(d), want.Broken(), want.Cached(), want.Ops(), actlog.Get(want))
	}
}

// makes: does New answer what the chapter's words have? nil, if there is no Mirror.
func makes(t *testing.T, what string, d *disk.Disk, most, who int, mask uint64) (*node, api.Errno) {
	t.Helper()
	like := d.Copy()
	p, want := made(like, most, who, mask)
	m, err := mirror.New(d, most, who, mask)
	if err != want || (m == nil) != (p == nil) {
		t.Fatalf("%s: New(%d, %d, %#x): %v, %v, want %v", what, most, who, mask, m, err, want)
	}
	leaves(t, what, d, like)
	if m == nil {
		return nil, err
	}
	n := &node{m: m, d: d, plain: p}
	n.stands(t, what)
	return n, err
}

// stands: does the Mirror tell what it must, however often it is asked, and is its disk as it must be?
func (n *node) stands(t *testing.T, what string, asked ...api.Span) {
	t.Helper()
	for range 2 {
		if got, want := n.m.Hot(), n.plain.hot.Mask(); got != want {
			t.Fatalf("%s: Hot %#x, want %#x", what, got, want)
		}
		if got := n.m.Flights(); !slices.EqualFunc(got, n.plain.fly, same) {
			t.Fatalf("%s: Flights %v, want %v", what, flying(got), flying(n.plain.fly))
		}
		if got, want := n.m.Later(), n.plain.spans(); !slices.Equal(got, want) {
			t.Fatalf("%s: Later %v, want %v", what, got, want)
		}
	}
	for _, s := range asked {
		if got, want := n.m.Busy(s), n.plain.busy(s); got != want {
			t.Fatalf("%s: Busy(%v): %v, want %v", what, s, got, want)
		}
	}
	leaves(t, what, n.d, n.plain.d)
}

// writes: does Write answer, and do, what the chapter's words have?
func (n *node) writes(t *testing.T, what string, ticket int, s api.Span, b []byte) (bool, []api.Message, api.Errno) {
	t.Helper()
	what = fmt.Sprintf("%s: Write(%d, %v, %d bytes)", what, ticket, s, len(b))
	wantOk, want, wantE := n.plain.write(ticket, s, b)
	ok, told, err := n.m.Write(ticket, s, b)
	if ok != wantOk || err != wantE || !sample.AlikeAll(told, want) {
		t.Fatalf("%s: %v, %v, %v, want %v, %v, %v", what, ok, sample.ShownAll(told), err, wantOk, sample.ShownAll(want), wantE)
	}
	n.stands(t, what, sample.NearSpans(s)...)
	return ok, told, err
}

// flies: a Write of that ticket's bytes, that must be done.
func (n *node) flies(t *testing.T, what string, ticket int, s api.Span) {
	t.Helper()
	if ok, told, err := n.writes(t, what, ticket, s, bytesFor(ticket, s)); !ok || err != api.OK || !sample.AlikeAll(told, []api.Message{dataOf(ticket, s)}) {
		t.Fatalf("%s: Write(%d, %v): %v, %v, %v, want true, and its Data", what, ticket, s, ok, sample.ShownAll(told), err)
	}
}

// writeStays: is that what Write answers, false and nothing beside it, and is all as it was?
func (n *node) writeStays(t *testing.T, what string, ticket int, s api.Span, b []byte, want api.Errno) {
	t.Helper()
	was, hot, fly, wait := n.d.Copy(), n.m.Hot(), n.m.Flights(), n.m.Later()
	if ok, told, err := n.writes(t, what, ticket, s, b); ok || told != nil || err != want {
		t.Fatalf("%s: Write(%d, %v, %d bytes): %v, %v, %v, want false, nothing, %v", what, ticket, s, len(b), ok, sample.ShownAll(told), err, want)
	}
	if n.m.Hot() != hot || !slices.EqualFunc(n.m.Flights(), fly, same) || !slices.Equal(n.m.Later(), wait) {
		t.Fatalf("%s: a Write(%d, %v) that was refused: Hot %#x, Flights %v, Later %v", what, ticket, s, n.m.Hot(), flying(n.m.Flights()), n.m.Later())
	}
	leaves(t, what, n.d, was)
}

// refuses: a Write of that ticket's bytes, that may not be done now.
func (n *node) refuses(t *testing.T, what string, ticket int, s api.Span) {
	t.Helper()
	n.writeStays(t, what, ticket, s, bytesFor(ticket, s), api.OK)
}

// takes: does Take answer, and do, what the chapter's words have?
func (n *node) takes(t *testing.T, what string, x api.Message) ([]int, []api.Message, api.Errno) {
	t.Helper()
	what = fmt.Sprintf("%s: Take(%s)", what, sample.Shown(x))
	wantDone, want, wantE := n.plain.take(x)
	done, told, err := n.m.Take(x)
	if err != wantE || !slices.Equal(done, wantDone) || !sample.AlikeAll(told, want) {
		t.Fatalf("%s: %v, %v, %v, want %v, %v, %v", what, done, sample.ShownAll(told), err, wantDone, sample.ShownAll(want), wantE)
	}
	n.stands(t, what, sample.NearSpans(at(x.Off, len(x.Data)/16))...)
	return done, told, err
}

// tells: is that what a Take tells, with nothing answered, and nothing wrong?
func (n *node) tells(t *testing.T, what string, x api.Message, want ...api.Message) {
	t.Helper()
	if done, told, err := n.takes(t, what, x); len(done) != 0 || !sample.AlikeAll(told, want) || err != api.OK {
		t.Fatalf("%s: Take(%s): %v, %v, %v, want none, %v, OK", what, sample.Shown(x), done, sample.ShownAll(told), err, sample.ShownAll(want))
	}
}

// answers: are those the tickets that a Take answers, with nothing told, and nothing wrong?
func (n *node) answers(t *testing.T, what string, x api.Message, want ...int) {
	t.Helper()
	if done, told, err := n.takes(t, what, x); !slices.Equal(done, want) || len(told) != 0 || err != api.OK {
		t.Fatalf("%s: Take(%s): %v, %v, %v, want %v, nothing, OK", what, sample.Shown(x), done, sample.ShownAll(told), err, want)
	}
}

// takeStays: is that Take's error, with nothing beside it, and is all as it was?
func (n *node) takeStays(t *testing.T, what string, x api.Message, want api.Errno) {
	t.Helper()
	was, hot, fly, wait := n.d.Copy(), n.m.Hot(), n.m.Flights(), n.m.Later()
	if done, told, err := n.takes(t, what, x); done != nil || told != nil || err != want {
		t.Fatalf("%s: Take(%s): %v, %v, %v, want none, nothing, %v", what, sample.Shown(x), done, sample.ShownAll(told), err, want)
	}
	if n.m.Hot() != hot || !slices.EqualFunc(n.m.Flights(), fly, same) || !slices.Equal(n.m.Later(), wait) {
		t.Fatalf("%s: a Take(%s) that does nothing: Hot %#x, Flights %v, Later %v", what, sample.Shown(x), n.m.Hot(), flying(n.m.Flights()), n.m.Later())
	}
	leaves(t, what, n.d, was)
}

// goes: does Go answer, and do, what the chapter's words have?
func (n *node) goes(t *testing.T, what string) ([]api.Message, api.Errno) {
	t.Helper()
	want, wantE := n.plain.goes()
	told, err := n.m.Go()
	if err != wantE || !sample.AlikeAll(told, want) || err != api.OK && told != nil {
		t.Fatalf("%s: Go: %v, %v, want %v, %v", what, sample.ShownAll(told), err, sample.ShownAll(want), wantE)
	}
	n.stands(t, what+": Go")
	return told, err
}

// goesTo: is that what a Go tells, with nothing wrong?
func (n *node) goesTo(t *testing.T, what string, want ...api.Message) {
	t.Helper()
	if told, err := n.goes(t, what); !sample.AlikeAll(told, want) || err != api.OK {
		t.Fatalf("%s: Go: %v, %v, want %v, OK", what, sample.ShownAll(told), err, sample.ShownAll(want))
	}
}

// holds: does Hold answer, and do, what the chapter's words have?
func (n *node) holds(t *testing.T, what string) api.Errno {
	t.Helper()
	want := n.plain.hold()
	err := n.m.Hold()
	if err != want {
		t.Fatalf("%s: Hold: %v, want %v", what, err, want)
	}
	n.stands(t, what+": Hold")
	return err
}

// releases: does Release answer, and do, what the chapter's words have?
func (n *node) releases(t *testing.T, what string) []int {
	t.Helper()
	want := n.plain.release()
	done := n.m.Release()
	if !slices.Equal(done, want) {
		t.Fatalf("%s: Release: %v, want %v", what, done, want)
	}
	n.stands(t, what+": Release")
	return done
}

// forgets: Forget, and all that is told behind it.
func (n *node) forgets(t *testing.T, what string) {
	t.Helper()
	n.plain.hot.Load(0)
	n.m.Forget()
	n.stands(t, what+": Forget")
}

// fuse: the disk breaks behind so many operations.
func (n *node) fuse(k int) {
	n.d.Fuse(k)
	n.plain.d.Fuse(k)
}

// crash: the disk's cache is gone, but for what is spared.
func (n *node) crash(mask uint64) {
	n.d.Crash(mask)
	n.plain.d.Crash(mask)
}

// nodeOf: the node who, whose data area has so many sectors, with bytes in each, and with room for so many hot extents, of which there is none.
func nodeOf(t *testing.T, sectors, most, who int) *node {
	t.Helper()
	n, err := makes(t, "a node", sample.Knowing(sectors+8, 0, 0), most, who, 0)
	if err != api.OK {
		t.Fatalf("New: %v", err)
	}
	return n
}

// has: are the sectors of s on the disk, durable, as the bytes tell?
func (n *node) has(s api.Span, b []byte) bool {
	for i := range s.Len {
		if n.d.Durable(8+s.Off+i) != api.Sector(b[16*i:]) {
			return false
		}
	}
	return true
}
