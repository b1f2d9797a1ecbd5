package session_test

import (
	"fmt"
	"testing"

	"twain/api"
	"twain/sample"
	"twain/session"
)

// way is a pair of boots, as that node's one sends to the other.
type way struct {
	who      int
	from, to uint32
}

// link is two nodes, with all that one of them ever told the other. The net takes nothing away: what never comes is lost, what comes twice is doubled, and what comes late is delayed.
type link struct {
	nodes     [2]*session.Session
	window    int
	starts    uint32
	told      [2][][]byte
	sent, got map[way][]string
	bodies    int
}

func linked(t *testing.T, window int) *link {
	t.Helper()
	l := &link{window: window, sent: map[way][]string{}, got: map[way][]string{}}
	l.start(t, 0)
	l.start(t, 1)
	return l
}

// start: a node is started anew. Now and then its boot is the other's number, or the one below it: boots of two nodes hang on nothing of each other's.
func (l *link) start(t *testing.T, who int) {
	t.Helper()
	boot := l.starts/2 + 1
	if old := l.nodes[who]; old != nil {
		boot = max(boot, old.My()+1)
	}
	l.starts++
	l.nodes[who] = made(t, boot, l.window, 3)
}

// send: a body that was never sent ahead is sent, if there is one to send it to.
func (l *link) send(who int) {
	l.bodies++
	body := fmt.Sprintf("%d", l.bodies)
	s := l.nodes[who]
	if s.Peer() != 0 {
		w := way{who, s.My(), s.Peer()}
		l.sent[w] = append(l.sent[w], body)
	}
	l.told[who] = append(l.told[who], s.Send([]byte(body))...)
}

func (l *link) tick(who int) { l.told[who] = append(l.told[who], l.nodes[who].Tick()...) }

// comes: the packet that this node told as the at'th comes to the other one. What P22.4 says is asked of what came by it: it is the next one of what was sent by that pair of boots.
func (l *link) comes(t *testing.T, who, at int) session.Got {
	t.Helper()
	if at < 0 || at >= len(l.told[who]) {
		return session.Got{}
	}
	s := l.nodes[1-who]
	got, told := s.Take(l.told[who][at])
	l.told[1-who] = append(l.told[1-who], told...)
	if !got.Has {
		return got
	}
	w := way{who, s.Peer(), s.My()}
	l.got[w] = append(l.got[w], string(got.Body))
	n := len(l.got[w])
	if n > len(l.sent[w]) || l.sent[w][n-1] != string(got.Body) {
		t.Fatalf("from boot %d to boot %d were sent %v, and came %v", w.from, w.to, l.sent[w], l.got[w])
	}
	return got
}

// rounds: so many rounds without faults: a tick of each, and all that is told behind it comes, in order.
func (l *link) rounds(t *testing.T, many int) {
	t.Helper()
	for range many {
		at := [2]int{len(l.told[0]), len(l.told[1])}
		l.tick(0)
		l.tick(1)
		for at[0] < len(l.told[0]) || at[1] < len(l.told[1]) {
			for who := range 2 {
				if at[who] < len(l.told[who]) {
					l.comes(t, who, at[who])
					at[who]++
				}
			}
		}
	}
}

// settles: behind a few rounds without faults the nodes have each other's boot, and all came that was sent by that pair.
func (l *link) settles(t *testing.T) {
	t.Helper()
	l.rounds(t, 4)
	a, b := l.nodes[0], l.nodes[1]
	if a.Peer() != b.My() || b.Peer() != a.My() || a.Len() != 0 || b.Len() != 0 || !a.Alive() || !b.Alive() {
		t.Fatalf("boots %d and %d: Peers %d and %d, Len %d and %d, Alive %v and %v", a.My(), b.My(), a.Peer(), b.Peer(), a.Len(), b.Len(), a.Alive(), b.Alive())
	}
	for _, w := range []way{{0, a.My(), b.My()}, {1, b.My(), a.My()}} {
		if len(l.got[w]) != len(l.sent[w]) {
			t.Fatalf("from boot %d to boot %d were sent %v, and came %v", w.from, w.to, l.sent[w], l.got[w])
		}
	}
}

// All short runs of sends, ticks and starts, and of packets that come: the last one that was told, those ahead of it, and the first one, each as often as the run has it.
func TestP22_4AllShortNets(t *testing.T) {
	var steps []func(*link)
	for who := range 2 {
		steps = append(steps,
			func(l *link) { l.send(who) },
			func(l *link) { l.tick(who) },
			func(l *link) { l.start(t, who) },
			func(l *link) { l.comes(t, who, len(l.told[who])-1) },
			func(l *link) { l.comes(t, who, len(l.told[who])-2) },
			func(l *link) { l.comes(t, who, 0) },
		)
	}
	for length := range 6 {
		sample.AllRuns(length, func() *link { return linked(t, 1) }, steps)
		sample.AllRuns(length, func() *link {
			l := linked(t, 2)
			l.rounds(t, 1)
			l.send(0)
			l.send(0)
			l.send(1)
			return l
		}, steps)
	}
}

// All orders in which few packets can come, each once or not at all, or twice; then all comes.
func TestP22_4AllOrders(t *testing.T) {
	for window := 1; window <= 5; window++ {
		for _, order := range sample.Orders(5) {
			for times := range 3 {
				l := linked(t, window)
				l.rounds(t, 1)
				first := len(l.told[0])
				for range 5 {
					l.send(0)
				}
				for i, place := range order {
					for range (times + i) % 3 {
						l.comes(t, 0, first+place)
					}
				}
				l.settles(t)
			}
		}
	}
}

// Each fate of each of the first packets: it is lost, comes now, comes twice, or comes a round later; with a start anew of either one, or none, behind each round; then all comes.
func TestP22_4EachFate(t *testing.T) {
	const packets = 5
	fates := 1
	for range packets {
		fates *= 4
	}
	for startAt := range 4 {
		for who := range 2 {
			for fate := range fates {
				l := linked(t, 2)
				l.rounds(t, 1)
				l.fated(t, fate, startAt, who)
				l.settles(t)
			}
		}
	}
}

// fated: three rounds, each with sends of both; the fates of the first packets stand in a number, two bits each; all others come. Behind the round startAt that node is started anew.
func (l *link) fated(t *testing.T, fate, startAt, who int) {
	t.Helper()
	at := [2]int{len(l.told[0]), len(l.told[1])}
	for round := range 3 {
		for side := range 2 {
			l.send(side)
			l.send(side)
			l.tick(side)
		}
		end := [2]int{len(l.told[0]), len(l.told[1])}
		var later [][2]int
		for side := range 2 {
			for ; at[side] < end[side]; at[side]++ {
				switch fate % 4 {
				case 0:
					l.comes(t, side, at[side])
				case 1: // it is lost
				case 2:
					l.comes(t, side, at[side])
					l.comes(t, side, at[side])
				case 3:
					later = append(later, [2]int{side, at[side]})
				}
				fate /= 4
			}
		}
		if round == startAt {
			l.start(t, who)
		}
		for _, late := range later {
			l.comes(t, late[0], late[1])
		}
	}
}

// dice is a row of numbers of no pattern, the same one for each seed.
type dice uint64

func (d *dice) below(n int) int {
	x := uint64(*d)
	x ^= x << 13
	x ^= x >> 7
	x ^= x << 17
	*d = dice(x)
	return int(x >> 20 % uint64(n))
}

// drawn: a run of no pattern over a net that is good, or bad, to a degree: how often, out of ten, what comes is the next one that was told. It answers how many came that were not taken, and how many starts there were.
func (l *link) drawn(t *testing.T, d *dice, good, starts, steps int) (none, anew int) {
	t.Helper()
	var next [2]int
	for range steps {
		who := d.below(2)
		switch choice := d.below(20); {
		case choice < 4:
			l.send(who)
		case choice < 5:
			l.tick(who)
		case choice == 19 && d.below(20) < starts:
			l.start(t, who)
			anew++
		default:
			at := d.below(len(l.told[who]) + 1)
			if d.below(10) < good {
				at = next[who]
				next[who] = min(next[who]+1, len(l.told[who]))
			} else if d.below(2) == 0 {
				at = next[who] - d.below(6)
			}
			if !l.comes(t, who, at).Has {
				none++
			}
		}
	}
	return none, anew
}

// came: how many bodies came in all.
func (l *link) came() int {
	n := 0
	for _, list := range l.got {
		n += len(list)
	}
	return n
}

func TestP22_4DrawnNets(t *testing.T) {
	came, none, anew, pairs := 0, 0, 0, 0
	for seed := range 400 {
		d := dice(seed)*0x9e3779b97f4a7c15 + 1
		l := linked(t, []int{1, 2, 3, 5, 16, api.MaxWindow}[seed%6])
		failed, starts := l.drawn(t, &d, 1+seed/6%9, seed/54%4, 600)
		l.settles(t)
		came += l.came()
		none += failed
		anew += starts
		pairs += len(l.got)
	}
	if came < 20_000 || none < 50_000 || anew < 500 || pairs < 1000 {
		t.Errorf("%d came, by %d pairs of boots, %d packets had none, and there were %d starts anew", came, pairs, none, anew)
	}
}

// Without a start anew all that was sent, however bad the net, comes in the end, and by one pair alone.
func TestP22_4AllOfItComes(t *testing.T) {
	for seed := range 100 {
		d := dice(seed)*0xd1342543de82ef95 + 1
		l := linked(t, 1+seed%8)
		l.rounds(t, 1)
		l.drawn(t, &d, seed%10, 0, 600)
		l.settles(t)
		if l.came() != l.bodies || l.bodies < 50 {
			t.Fatalf("seed %d: %d came of %d", seed, l.came(), l.bodies)
		}
	}
}
