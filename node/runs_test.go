package node_test

import (
	"fmt"
	"slices"
	"testing"

	"twain/api"
	"twain/pack"
	"twain/sample"
	"twain/wire"
)

// Each row of steps of two nodes that serve, and then all comes to rest: requests that overlap one another at both, deliveries, ticks, and a node that is stopped, or started.
func TestP32_7AllShortRuns(t *testing.T) {
	const what = "a short run"
	ask := func(who int, r api.Request) func(*pair) {
		return func(p *pair) { p.submit(t, what, who, r) }
	}
	var last *pair
	fresh := func() *pair {
		if last != nil {
			last.rest(t, what)
		}
		last = pairOf(t)
		return last
	}
	sample.AllRuns(4, fresh, []func(*pair){
		ask(0, sample.Write(0, 4, nil)),
		ask(1, sample.Write(1, 2, nil)),
		ask(1, sample.Write(3, 3, nil)),
		ask(1, sample.Read(2, 2)),
		func(p *pair) { p.deliver(t, what, 0, 0) },
		func(p *pair) { p.deliver(t, what, 1, 0) },
		func(p *pair) { p.crash(t, what, 0, 0); p.start(t, what, 0) },
	})
	last.rest(t, what)
}

// Each row of steps of two nodes that are stopped at first.
func TestP32_7AllShortRunsFromTheBeginning(t *testing.T) {
	const what = "a short run"
	var last *pair
	fresh := func() *pair {
		if last != nil {
			last.rest(t, what)
		}
		last = pairOn(t, config(), sample.Knowing(24, 1, 0), sample.Knowing(24, 0, 2))
		return last
	}
	sample.AllRuns(4, fresh, []func(*pair){
		func(p *pair) { p.start(t, what, 0) },
		func(p *pair) { p.start(t, what, 1) },
		func(p *pair) { p.tick(t, what, 0) },
		func(p *pair) { p.all(t, what) },
		func(p *pair) { p.submit(t, what, 0, sample.Write(3, 2, nil)) },
		func(p *pair) { p.crash(t, what, 1, 0) },
	})
	last.rest(t, what)
}

// step: what a word of no pattern chooses: a request, mostly one that may be, a delivery in any order, a packet that is lost or comes twice, a tick, a crash, a start, or a fuse.
func (p *pair) step(t *testing.T, what string, w uint64, sectors int) string {
	t.Helper()
	who := int(w >> 8 & 1)
	at := int(w>>56) % max(len(p.rows[who]), 1)
	switch w % 32 {
	case 0, 1, 2, 3, 4, 5, 6, 7:
		s := sample.ChosenSpan(w>>4, sectors)
		r := []api.Request{sample.Read(s.Off, s.Len), sample.Write(s.Off, s.Len, nil), sample.Write(s.Off, s.Len, nil), sample.Flush()}[w>>50%4]
		_, err := p.submit(t, what, who, r)
		return fmt.Sprint("submit ", r.Kind, err)
	case 8, 9, 10, 11, 12, 13, 14, 15, 16, 17, 18, 19, 20, 21:
		p.deliver(t, what, who, at*int(w>>52&1))
	case 22:
		if at < len(p.rows[who]) {
			p.rows[who] = slices.Delete(p.rows[who], at, at+1)
			return "lost"
		}
	case 23, 24:
		if at < len(p.rows[who]) {
			p.rows[who] = append(p.rows[who], p.rows[who][at])
			return "twice"
		}
	case 25, 26, 27:
		p.tick(t, what, who)
		return fmt.Sprint("tick ", p.halves[who].n.Status())
	case 28, 29:
		p.start(t, what, who)
		return fmt.Sprint("start ", p.halves[who].n.Status())
	case 30:
		if w>>50%4 == 0 {
			p.crash(t, what, who, w>>20)
			return "crash"
		}
	case 31:
		p.halves[who].fuse(int(w >> 40 % 40))
	}
	return "else"
}

// fell: a node whose disk broke is stopped, and its disk crashes; what it had sent already is on its way still.
func (p *pair) fell(t *testing.T, what string, w uint64) int {
	t.Helper()
	n := 0
	for who, h := range p.halves {
		if h.d.Broken() {
			h.is(t, what, api.Down)
			p.crash(t, what, who, w)
			n++
		}
	}
	return n
}

// Steps without a pattern, of areas and settings of several sizes: each call is held against the chapter's words; what is read, what is known, and what stands there at rest is what may be.
func TestP32_7LongRuns(t *testing.T) {
	met := map[string]int{}
	for _, c := range []api.Config{
		{Sectors: 8, Hot: 3, Table: 2, Window: 1, Patience: 2},
		{Sectors: 16, Hot: 3, Table: 4, Window: 4, Patience: 3},
		{Sectors: 40, Hot: 5, Table: 16, Window: 64, Patience: 6},
	} {
		p := pairOn(t, c, sample.Knowing(c.Sectors+8, 0, 0), sample.Knowing(c.Sectors+8, 0, 0))
		for i, w := range sample.Words()[130:] {
			what := fmt.Sprintf("of %d sectors, step %d", c.Sectors, i)
			met[p.step(t, what, w, c.Sectors)]++
			met["fell"] += p.fell(t, what, w>>3)
			if w>>30%60 == 0 {
				p.rest(t, what)
			}
			if w>>30%20 == 1 {
				p.all(t, what)
			}
		}
		p.rest(t, "the end")
		if p.ended < 100 {
			t.Errorf("%+v: %d ended", c, p.ended)
		}
	}
	for _, what := range []string{
		"submit 0 ok", "submit 1 ok", "submit 2 ok", "submit 0 busy", "submit 1 busy", "submit 2 busy", "submit 0 down", "submit 1 down", "submit 0 invalid", "submit 1 invalid",
		"lost", "twice", "crash", "fell", "tick 0", "tick 1", "tick 2", "tick 3", "tick 4", "tick 5", "start 1", "start 4",
	} {
		if met[what] == 0 {
			t.Errorf("%q is not met: %v", what, met)
		}
	}
}

// Many runs of few steps each, with a disk that breaks at some operation, and crashes, whatever it spares: all comes to rest.
func TestP32_7DisksThatBreak(t *testing.T) {
	words := sample.Words()[130:]
	fell := 0
	for i := range 300 {
		p := pairOf(t)
		p.halves[i%2].fuse(i / 2 % 30)
		for j := range 40 {
			w := words[(41*i+j)%len(words)]
			what := fmt.Sprintf("run %d, step %d", i, j)
			if w%32 < 30 {
				p.step(t, what, w, 16)
			}
			fell += p.fell(t, what, w>>3)
		}
		p.rest(t, fmt.Sprintf("run %d", i))
	}
	if fell < 100 {
		t.Errorf("%d fell", fell)
	}
}

// told: what a word of no pattern has the far one tell: messages of all kinds, mostly such as are for a node of that state, and some bytes that are none.
func (h *half) toldBy(w uint64) []byte {
	e := int(w >> 8 % 5)
	if left := sample.Members(h.n.Left()); len(left) > 0 && w>>60 < 12 {
		e = left[w>>16%uint64(len(left))]
	}
	ticket := int(h.n.Boot())<<24 + 1 + int(w>>40%8)
	if list := h.n.Flying(); len(list) > 0 && w>>60 < 12 {
		ticket = list[w>>16%uint64(len(list))]
	}
	kind := []int{1, 1, 1, 2, 2, 2, 3, 3, 3, 4, 5, 5, 6, 6, 7, 7, 8, 8, 9}[w>>20%19]
	switch kind {
	case 1:
		return pack.Bytes(sample.Greet(w>>30%32*(w>>37&1), w>>36&1 == 1))
	case 2:
		return pack.Bytes(sample.Data(1+int(w>>30%100), int(w>>40%17), sample.Pattern(int(w>>50%99), 1+int(w>>8%8))))
	case 3, 4, 5:
		return pack.Bytes(sample.Answer(kind, ticket))
	case 6:
		return pack.Bytes(sample.Ext(e, sample.Pattern(int(w>>50%99), 4)))
	case 7:
		return pack.Bytes(sample.Have(e))
	case 8:
		return pack.Bytes(end())
	}
	return sample.HighestFirst(w, 8)
}

// alone: a step of one node, whose other half tells whatever there is to tell.
func (h *half) alone(t *testing.T, what string, w uint64, f **far) string {
	t.Helper()
	switch w % 32 {
	case 0, 1, 2, 3, 4, 5, 6, 7, 8:
		s := sample.ChosenSpan(w>>4, 16)
		r := []api.Request{sample.Read(s.Off, s.Len), sample.Write(s.Off, s.Len, sample.Pattern(int(w>>40%99), min(max(s.Len, 0), 20))), sample.Write(s.Off, s.Len, nil), sample.Flush()}[w>>50%4]
		if r.Kind == api.Write && len(r.Data) == 0 && s.Len > 0 && s.Len < 9 {
			r.Data = sample.Bytes(16 * s.Len)
		}
		_, err := h.submits(t, what, r)
		return fmt.Sprint("submit ", err)
	case 9, 10, 11, 12, 13, 14, 15, 16, 17, 18, 19, 20, 21, 22:
		was := h.n.Status()
		for _, b := range (*f).s.Send(h.toldBy(w)) {
			h.takes(t, what, b)
		}
		(*f).takes(t, what, h.mails(t, what))
		return fmt.Sprint("told ", was, h.n.Status())
	case 23, 24, 25:
		h.ticks(t, what)
	case 26:
		for _, b := range (*f).s.Tick() {
			h.takes(t, what, b)
		}
	case 27:
		if w>>50%4 == 0 {
			*f = farOf(t, (*f).s.My()+1+uint32(w>>52%2))
		}
		for _, b := range (*f).s.Tick() {
			h.takes(t, what, b)
		}
		(*f).takes(t, what, h.mails(t, what))
		return fmt.Sprint("met ", h.n.Status())
	case 28:
		// A Msg of the far one's boot that its session did not send: none of the next ones that it sends is taken, until it has another boot.
		if w>>44%8 != 0 {
			return "else"
		}
		h.takes(t, what, wire.Bytes(api.Packet{From: (*f).s.My() + uint32(w>>50%3) - 1, To: uint32(w >> 52 % 4), Kind: wire.Msg, Seq: 1 + int(w>>54%3), Ack: int(w >> 57 % 4), Body: h.toldBy(w)}))
	case 29:
		if w>>50%6 == 0 {
			h.fuse(int(w >> 8 % 60))
		}
	case 30:
		if w>>50%8 == 0 {
			h.stops(t, what)
		}
		return "stop"
	case 31:
		if h.d.Broken() && w>>50%4 != 0 {
			h.crash(w >> 8)
		}
		return fmt.Sprint("start ", h.starts(t, what))
	}
	return "else"
}

// One node, and whatever the other one may tell, be it such as a node tells or not: each call is held against the chapter's words, whether Poll and Mail are asked behind each, or now and then.
func TestP32_4LongRunsOfOne(t *testing.T) {
	met := map[string]int{}
	for who := range 2 {
		for _, size := range []int{24, 32} {
			h, f := halfWith(t, config(), who, sample.Knowing(size, 0, 0)), farOf(t, 7)
			words := sample.Words()[130:]
			words = slices.Concat(words, sample.Mixed(words), sample.Inward(words), sample.Falling(sample.Mixed(words)), sample.Mixed(sample.Mixed(words)))
			for i, w := range words {
				what := fmt.Sprintf("node %d, of %d sectors, step %d", who, size, i)
				met[h.alone(t, what, w, &f)]++
				if w>>44%3 != 0 {
					continue
				}
				h.polls(t, what)
				f.takes(t, what, h.mails(t, what))
			}
		}
	}
	for _, what := range []string{
		"submit ok", "submit busy", "submit invalid", "submit down", "told 0 0", "told 1 1", "told 1 2", "told 1 3", "told 2 2", "told 2 4", "told 3 3", "told 3 4", "told 4 4", "told 5 4", "told 4 0", "told 3 0", "met 0", "met 1", "met 4", "start ok", "start state", "start down",
	} {
		if met[what] == 0 {
			t.Errorf("%q is not met: %v", what, met)
		}
	}
}
