package node_test

import (
	"bytes"
	"fmt"
	"slices"
	"testing"

	"twain/api"
	"twain/data"
	"twain/dirty"
	"twain/disk"
	"twain/meta"
	"twain/mirror"
	"twain/node"
	"twain/pack"
	"twain/resync"
	"twain/sample"
	"twain/session"
	"twain/wait"
)

// The answers to a Data by chapter 17's numbers.
const (
	isAck   = 3
	isOver  = 4
	isRetry = 5
)

// end: the message that says that the resync is over.
func end() api.Message { return api.Message{Kind: 8} }

// config: the settings of the document's examples.
func config() api.Config { return sample.Settings()[2] }

// held is a request that the table has.
type held struct {
	ticket int
	api.Request
}

// plain is a Node by the chapter's words, on a disk that goes its way.
type plain struct {
	c     api.Config
	who   int
	d     *disk.Disk
	up    bool
	s     *session.Session
	m     *mirror.Mirror
	r     *resync.Resync
	table []held
	state int
	was   bool
	mine  api.Message
	count int
	done  []api.Done
	mail  [][]byte
}

// stop: all but the disk is forgotten.
func (p *plain) stop() { *p = plain{c: p.c, who: p.who, d: p.d} }

// fails: a step within a call failed: the node is stopped.
func (p *plain) fails(err api.Errno) bool {
	if err != api.OK {
		p.stop()
	}
	return err != api.OK
}

func (p *plain) start() api.Errno {
	if p.up {
		return api.ErrState
	}
	known, err := meta.Start(p.d)
	if err != api.OK {
		return err
	}
	p.stop()
	p.up, p.state = true, api.Greeting
	p.s, _ = session.New(known.Boot, p.c.Window, p.c.Patience)
	p.m, _ = mirror.New(p.d, p.c.Hot, p.who, known.Hot)
	return api.OK
}

func (p *plain) status() int {
	if p.state == api.Connected && !p.s.Alive() {
		return api.Frozen
	}
	return p.state
}

// requests: the tickets of the table.
func (p *plain) requests() []int {
	var list []int
	for _, h := range p.table {
		list = append(list, h.ticket)
	}
	return list
}

// flying: the tickets of the flights.
func (p *plain) flying() []int {
	var list []int
	for _, w := range p.m.Flights() {
		list = append(list, w.Ticket)
	}
	return list
}

func (p *plain) submit(r api.Request) (int, api.Errno) {
	switch {
	case !p.up:
		return 0, api.ErrDown
	case !sample.IsRequest(p.c.Sectors, r):
		return 0, api.ErrInvalid
	case len(p.table) == p.c.Table || p.s.Len() >= p.c.Window || p.count == 16777215:
		return 0, api.ErrBusy
	}
	p.count++
	ticket := int(p.s.My())*16777216 + p.count
	r.Data = bytes.Clone(r.Data)
	p.table = append(p.table, held{ticket, r})
	p.goOn()
	return ticket, api.OK
}

// send: the messages are sent.
func (p *plain) send(told []api.Message) {
	for _, m := range told {
		p.mail = append(p.mail, p.s.Send(pack.Bytes(m))...)
	}
}

// complete: the table has it no longer, and Poll tells it.
func (p *plain) complete(ticket int, b []byte) {
	p.table = slices.DeleteFunc(p.table, func(h held) bool { return h.ticket == ticket })
	p.done = append(p.done, api.Done{Ticket: ticket, Data: b})
}

func (p *plain) take(b []byte) {
	if !p.up {
		return
	}
	got, packets := p.s.Take(b)
	p.mail = append(p.mail, packets...)
	if got.New {
		if p.fails(p.m.Hold()) {
			return
		}
		p.state, p.r = api.Greeting, nil
		p.mine = sample.Greet(p.m.Hot()|dirty.Get(p.d), p.was)
		p.send([]api.Message{p.mine})
	}
	if m, err := pack.Parse(got.Body); got.Has && err == api.OK && !p.hear(m) {
		return
	}
	p.goOn()
}

// hear: a message came. Does the node still run?
func (p *plain) hear(m api.Message) bool {
	switch {
	case m.Kind == 1 && p.state == api.Greeting:
		r, told, err := resync.Begin(p.d, p.who, p.c.Sectors, p.mine, m)
		if p.fails(err) {
			return false
		}
		p.r = r
		p.m.Forget()
		p.send(told)
		p.state = api.Target
		if r.Source() {
			p.state = api.Source
		}
	case m.Kind >= 6 && p.r != nil:
		told, err := p.r.Take(m)
		if p.fails(err) {
			return false
		}
		p.send(told)
	case m.Kind >= 2 && m.Kind <= 5 && p.state == api.Connected:
		done, told, err := p.m.Take(m)
		if p.fails(err) {
			return false
		}
		p.send(told)
		for _, ticket := range done {
			p.complete(ticket, nil)
		}
	}
	if p.r != nil && p.r.Over() {
		p.state, p.r, p.was = api.Connected, nil, true
		for _, ticket := range p.m.Release() {
			p.complete(ticket, nil)
		}
	}
	return true
}

func (p *plain) tick() {
	if p.up {
		p.mail = append(p.mail, p.s.Tick()...)
		p.goOn()
	}
}

func (p *plain) goOn() {
	if p.status() != api.Connected {
		return
	}
	told, err := p.m.Go()
	if p.fails(err) {
		return
	}
	p.send(told)
	for _, h := range slices.Clone(p.table) {
		if p.may(h.ticket) && !p.does(h) {
			return
		}
	}
}

// may: may it be done, with all that does not fly just now as those that wait?
func (p *plain) may(ticket int) bool {
	var l, fly []wait.Item
	place := -1
	for _, h := range p.table {
		item := wait.Item{Ticket: h.ticket, Kind: h.Kind, Span: h.Span}
		switch {
		case slices.Contains(p.flying(), h.ticket):
			fly = append(fly, item)
			continue
		case h.ticket == ticket:
			place = len(l)
		}
		l = append(l, item)
	}
	return place >= 0 && wait.May(l, place, fly, p.m.Later())
}

// does: it is done. Does the node still run?
func (p *plain) does(h held) bool {
	switch h.Kind {
	case api.Read:
		b, err := data.Read(p.d, h.Span)
		if p.fails(err) {
			return false
		}
		p.complete(h.ticket, b)
	case api.Write:
		_, told, err := p.m.Write(h.ticket, h.Span, h.Data)
		if p.fails(err) {
			return false
		}
		p.send(told)
	case api.Flush:
		p.complete(h.ticket, nil)
	}
	return true
}

// half is a Node, the disk that it is on, and what both must be.
type half struct {
	n     *node.Node
	d     *disk.Disk
	plain *plain
}

// makes: does New answer what the chapter's words have? nil, if there is no Node.
func makes(t *testing.T, what string, c api.Config, who int, d *disk.Disk) (*half, api.Errno) {
	t.Helper()
	was := d.Copy()
	n, err := node.New(c, who, d)
	if (n == nil) == (err == api.OK) {
		t.Fatalf("%s: New(%+v, %d): %v, %v", what, c, who, n, err)
	}
	if d.Made() && !sample.Alike(d, was) {
		t.Fatalf("%s: New(%+v, %d) did something to the disk", what, c, who)
	}
	if n == nil {
		return nil, err
	}
	h := &half{n: n, d: d, plain: &plain{c: c, who: who, d: was}}
	h.stands(t, what)
	return h, err
}

// told: what a node tells of itself, in one line.
func told(status int, boot, peer uint32, requests, flying []int, unacked int, left uint64) string {
	return fmt.Sprintf("Status %d, Boot %d, Peer %d, Requests %v, Flying %v, Unacked %d, Left %#x", status, boot, peer, requests, flying, unacked, left)
}

// tells: what the Node tells of itself.
func (h *half) tells() string {
	n := h.n
	return told(n.Status(), n.Boot(), n.Peer(), n.Requests(), n.Flying(), n.Unacked(), n.Left())
}

// must: what it is to tell.
func (h *half) must() string {
	p := h.plain
	if !p.up {
		return told(api.Down, 0, 0, nil, nil, 0, 0)
	}
	return told(p.status(), p.s.My(), p.s.Peer(), p.requests(), p.flying(), p.s.Len(), p.r.Left())
}

// stands: does the Node tell what it must, however often it is asked, and is its disk as it must be?
func (h *half) stands(t *testing.T, what string) {
	t.Helper()
	for range 2 {
		if got, want := h.tells(), h.must(); got != want {
			t.Fatalf("%s: %s, want %s", what, got, want)
		}
	}
	if d, want := h.d, h.plain.d; !sample.Alike(d, want) {
		t.Fatalf("%s: the disk is another one: Broken %v, Cached %v, Ops %d, %+v, want %v, %v, %d, %+v", what, d.Broken(), d.Cached(), d.Ops(), meta.Look(d), want.Broken(), want.Cached(), want.Ops(), meta.Look(want))
	}
}

// starts: does Start answer, and do, what the chapter's words have?
func (h *half) starts(t *testing.T, what string) api.Errno {
	t.Helper()
	want := h.plain.start()
	err := h.n.Start()
	if err != want {
		t.Fatalf("%s: Start: %v, want %v", what, err, want)
	}
	h.stands(t, what+": Start")
	return err
}

// stops: Stop, and all that is told behind it.
func (h *half) stops(t *testing.T, what string) {
	t.Helper()
	h.plain.stop()
	h.n.Stop()
	h.stands(t, what+": Stop")
}

// submits: does Submit answer, and do, what the chapter's words have?
func (h *half) submits(t *testing.T, what string, r api.Request) (int, api.Errno) {
	t.Helper()
	what = fmt.Sprintf("%s: Submit(%d, %v, %d bytes)", what, r.Kind, r.Span, len(r.Data))
	want, wantE := h.plain.submit(r)
	ticket, err := h.n.Submit(r)
	if ticket != want || err != wantE {
		t.Fatalf("%s: %d, %v, want %d, %v", what, ticket, err, want, wantE)
	}
	h.stands(t, what)
	return ticket, err
}

// takes: does Take do what the chapter's words have?
func (h *half) takes(t *testing.T, what string, b []byte) {
	t.Helper()
	h.plain.take(b)
	h.n.Take(b)
	h.stands(t, fmt.Sprintf("%s: Take(%v)", what, b))
}

// ticks: does Tick do what the chapter's words have?
func (h *half) ticks(t *testing.T, what string) {
	t.Helper()
	h.plain.tick()
	h.n.Tick()
	h.stands(t, what+": Tick")
}

// alikeDones: are the lists alike, byte by byte?
func alikeDones(a, b []api.Done) bool {
	return slices.EqualFunc(a, b, func(a, b api.Done) bool { return a.Ticket == b.Ticket && bytes.Equal(a.Data, b.Data) })
}

// polls: does Poll tell what the chapter's words have, and nothing, when it is asked again?
func (h *half) polls(t *testing.T, what string) []api.Done {
	t.Helper()
	got, want := h.n.Poll(), h.plain.done
	h.plain.done = nil
	if !alikeDones(got, want) {
		t.Fatalf("%s: Poll: %v, want %v", what, got, want)
	}
	if again := h.n.Poll(); again != nil {
		t.Fatalf("%s: Poll, again: %v", what, again)
	}
	h.stands(t, what+": Poll")
	return got
}

// mails: does Mail tell what the chapter's words have, and nothing, when it is asked again?
func (h *half) mails(t *testing.T, what string) [][]byte {
	t.Helper()
	got, want := h.n.Mail(), h.plain.mail
	h.plain.mail = nil
	if !slices.EqualFunc(got, want, bytes.Equal) {
		t.Fatalf("%s: Mail: %v, want %v", what, got, want)
	}
	if again := h.n.Mail(); again != nil {
		t.Fatalf("%s: Mail, again: %v", what, again)
	}
	h.stands(t, what+": Mail")
	return got
}

// silent: is there nothing that Poll, or Mail, tells?
func (h *half) silent(t *testing.T, what string) {
	t.Helper()
	if done, packets := h.polls(t, what), h.mails(t, what); done != nil || packets != nil {
		t.Fatalf("%s: Poll %v, Mail %v, want nothing", what, done, packets)
	}
}

// ends: are those the tickets that Poll tells, and is there nothing beside them?
func (h *half) ends(t *testing.T, what string, want ...int) {
	t.Helper()
	done := h.polls(t, what)
	var tickets []int
	for _, x := range done {
		tickets = append(tickets, x.Ticket)
		if len(x.Data) != 0 {
			t.Fatalf("%s: Poll: %d has %d bytes", what, x.Ticket, len(x.Data))
		}
	}
	if !slices.Equal(tickets, want) {
		t.Fatalf("%s: Poll: %v, want %v", what, tickets, want)
	}
}

// is: is that the Node's Status?
func (h *half) is(t *testing.T, what string, want int) {
	t.Helper()
	if got := h.n.Status(); got != want {
		t.Fatalf("%s: Status %d, want %d", what, got, want)
	}
}

// fuse: the disk breaks behind so many operations.
func (h *half) fuse(k int) {
	h.d.Fuse(k)
	h.plain.d.Fuse(k)
}

// crash: the disk's cache is gone, but for what is spared.
func (h *half) crash(mask uint64) {
	h.d.Crash(mask)
	h.plain.d.Crash(mask)
}

// far is the other node as a test has it: a session of its own, by which it tells whatever it is to.
type far struct{ s *session.Session }

// farOf: the other node of that boot.
func farOf(t *testing.T, boot uint32) *far {
	t.Helper()
	s, err := session.New(boot, 64, 100)
	if err != api.OK {
		t.Fatal(err)
	}
	return &far{s}
}

// carries: the packets come to the Node, what it sends comes to the far one, and so on, until nothing is on its way. What the far one heard.
func (h *half) carries(t *testing.T, what string, f *far, packets [][]byte) []api.Message {
	t.Helper()
	var heard []api.Message
	for len(packets) > 0 {
		var back [][]byte
		for _, b := range packets {
			h.takes(t, what, b)
			back = append(back, h.mails(t, what)...)
		}
		var more []api.Message
		packets, more = f.takes(t, what, back)
		heard = append(heard, more...)
	}
	return heard
}

// takes: the packets come to the far one. What it sends then, and what it heard.
func (f *far) takes(t *testing.T, what string, packets [][]byte) ([][]byte, []api.Message) {
	t.Helper()
	var told [][]byte
	var heard []api.Message
	for _, b := range packets {
		got, back := f.s.Take(b)
		told = append(told, back...)
		if !got.Has {
			continue
		}
		m, err := pack.Parse(got.Body)
		if err != api.OK {
			t.Fatalf("%s: %v is no message: %v", what, got.Body, err)
		}
		heard = append(heard, m)
	}
	return told, heard
}

// sends: what the Node has in its Mail comes to the far one, and so on, until nothing is on its way. What the far one heard.
func (h *half) sends(t *testing.T, what string, f *far) []api.Message {
	t.Helper()
	packets, heard := f.takes(t, what, h.mails(t, what))
	return append(heard, h.carries(t, what, f, packets)...)
}

// hears: the far one tells that, and its packets come to the Node, and so on. What it heard then.
func (h *half) hears(t *testing.T, what string, f *far, told ...api.Message) []api.Message {
	t.Helper()
	var heard []api.Message
	for _, m := range told {
		b := pack.Bytes(m)
		if b == nil {
			t.Fatalf("%s: %s may not be", what, sample.Shown(m))
		}
		heard = append(heard, h.carries(t, what, f, f.s.Send(b))...)
	}
	return heard
}

// answers: the far one tells that: is that what it hears then?
func (h *half) answers(t *testing.T, what string, f *far, told api.Message, want ...api.Message) {
	t.Helper()
	if heard := h.hears(t, what, f, told); !sample.AlikeAll(heard, want) {
		t.Fatalf("%s: it was told %s, and told %v, want %v", what, sample.Shown(told), sample.ShownAll(heard), sample.ShownAll(want))
	}
}

// says: is that what is in the Node's Mail for the far one?
func (h *half) says(t *testing.T, what string, f *far, want ...api.Message) {
	t.Helper()
	if heard := h.sends(t, what, f); !sample.AlikeAll(heard, want) {
		t.Fatalf("%s: it told %v, want %v", what, sample.ShownAll(heard), sample.ShownAll(want))
	}
}

// meets: the far one says Hello: is that the Greet that the Node sends?
func (h *half) meets(t *testing.T, what string, f *far, want api.Message) {
	t.Helper()
	if heard := h.carries(t, what, f, f.s.Tick()); !sample.AlikeAll(heard, []api.Message{want}) {
		t.Fatalf("%s: it told %v, want %s", what, sample.ShownAll(heard), sample.Shown(want))
	}
	h.is(t, what, api.Greeting)
}

// halfOf: the node who, stopped, of the settings of the document's examples, with bytes in each sector.
func halfOf(t *testing.T, who int) *half {
	t.Helper()
	return halfWith(t, config(), who, sample.Knowing(24, 0, 0))
}

// halfWith: the node who of those settings, on that disk.
func halfWith(t *testing.T, c api.Config, who int, d *disk.Disk) *half {
	t.Helper()
	h, err := makes(t, "a node", c, who, d)
	if err != api.OK {
		t.Fatalf("New: %v", err)
	}
	return h
}

// begins: it is started, and looks for the other one.
func (h *half) begins(t *testing.T) {
	t.Helper()
	if err := h.starts(t, "it begins"); err != api.OK {
		t.Fatal(err)
	}
	h.is(t, "it begins", api.Greeting)
}

// joins: a node that looks for the other one meets the far one, which has nothing to copy, but was Connected: they copy what is left, and both serve.
func (h *half) joins(t *testing.T, f *far, was bool) {
	t.Helper()
	mask := h.plain.m.Hot() | dirty.Get(h.d)
	h.meets(t, "it joins", f, sample.Greet(mask, was))
	h.hears(t, "it joins", f, sample.Greet(0, true))
	for _, e := range sample.Members(h.n.Left()) {
		if h.n.Status() == api.Target {
			h.answers(t, "it joins", f, sample.Ext(e, sample.ExtentBytes(h.d, e)), sample.Have(e))
		} else {
			h.hears(t, "it joins", f, sample.Have(e))
		}
	}
	if h.n.Status() == api.Target {
		h.hears(t, "it joins", f, end())
	}
	h.is(t, "it joins", api.Connected)
}

// states: all that a node can be in.
func states() []int {
	return []int{api.Down, api.Greeting, api.Source, api.Target, api.Connected, api.Frozen}
}

// goesTo: a stopped node whose disk knows of nothing comes to that state; extents 1 and 2 are left at a Source and a Target.
func (h *half) goesTo(t *testing.T, state int) *far {
	t.Helper()
	f := farOf(t, 7)
	if state == api.Down {
		return f
	}
	h.begins(t)
	switch {
	case state == api.Connected, state == api.Frozen:
		h.joins(t, f, false)
		for range h.plain.c.Patience * (state / api.Frozen) {
			h.ticks(t, "it freezes")
			h.mails(t, "it freezes")
		}
	case state == api.Source && h.plain.who == 1:
		// Only one that was Connected gives to the arbiter.
		h.joins(t, f, false)
		f = farOf(t, 8)
		h.meets(t, "once more", f, sample.Greet(0, true))
		h.hears(t, "once more", f, sample.Greet(6, false))
	default:
		h.meets(t, "it meets", f, sample.Greet(0, false))
		if state != api.Greeting {
			h.hears(t, "it meets", f, sample.Greet(6, state == api.Target))
		}
	}
	h.is(t, "it comes there", state)
	h.silent(t, "it comes there")
	return f
}

// in: the node who in that state, of the settings of the document's examples, and the far one that it has met, but where it is stopped.
func in(t *testing.T, who, state int) (*half, *far) {
	t.Helper()
	h := halfOf(t, who)
	return h, h.goesTo(t, state)
}

// asks: the Node takes the request. Its ticket.
func (h *half) asks(t *testing.T, what string, r api.Request) int {
	t.Helper()
	ticket, err := h.submits(t, what, r)
	if err != api.OK {
		t.Fatalf("%s: Submit(%d, %v): %v", what, r.Kind, r.Span, err)
	}
	return ticket
}

// bytesFor: what a write of that number has: for each number others.
func bytesFor(n, sectors int) []byte { return sample.Pattern(n%1000, sectors) }

// write: the request of a write of that number.
func write(n, off, sectors int) api.Request {
	return sample.Write(off, sectors, bytesFor(n, sectors))
}

// has: are the sectors from off on durable on the disk as the bytes tell?
func (h *half) has(off int, b []byte) bool {
	for i := range len(b) / 16 {
		if h.d.Durable(8+off+i) != api.Sector(b[16*i:]) {
			return false
		}
	}
	return true
}
