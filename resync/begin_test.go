package resync_test

import (
	"bytes"
	"fmt"
	"math"
	"testing"

	"twain/actlog"
	"twain/api"
	"twain/dirty"
	"twain/disk"
	"twain/meta"
	"twain/pack"
	"twain/resync"
	"twain/sample"
)

// flags: what a node can have been.
func flags() []bool { return []bool{false, true} }

// masks: pairs of sets of none, one, several and all extents, with none, some and all in common.
func masks() [][2]uint64 {
	return [][2]uint64{{0, 0}, {1, 0}, {0, 1}, {1, 1}, {1, 2}, {5, 2}, {6, 3}, {7, 7}, {0, 1 << 63}, {1 << 63, 1<<63 | 1}, {1<<31 | 1<<32, 3}, {0, all}, {all, 5}, {all - 1, 1}, {all, all}}
}

// sizes: of disks without a data area, with a part of an extent, with one up to all 64 of them, with a part behind the last one, and with more than all extents have.
func sizes() []int { return []int{8, 9, 11, 12, 13, 15, 16, 20, 24, 27, 263, 264, 267, api.MaxDisk} }

// known: what stands in a disk's log, and in its bitmap.
type known struct{ hot, dirty uint64 }

// knowns: of a disk that knows nothing, of one that knows just that, in either place, and of some that know other things.
func knowns(mask uint64) []known {
	return []known{{0, 0}, {mask, 0}, {0, mask}, {mask, mask}, {2, 8}, {all, all}, {0, all}}
}

// costs: how many operations a Retire needs: two for each place that is to be another one.
func (k known) costs(mask uint64) int {
	n := 0
	if k.dirty != mask {
		n += 2
	}
	if k.hot != 0 {
		n += 2
	}
	return n
}

// Both Masks are empty: the source tells End at once, and it is Over; the target tells nothing, and is Over when it is told.
func TestP30_1Example(t *testing.T) {
	d := sample.Disk(16)
	g := api.Message{Kind: pack.Greet}
	r, told, err := resync.Begin(d, 0, 8, g, g)
	if err != api.OK || len(told) != 1 || !pack.Same(told[0], api.Message{Kind: pack.End}) || !r.Source() || !r.Over() || r.Left() != 0 || d.Ops() != 0 {
		t.Errorf("the source: %v, %v, Ops %d", sample.ShownAll(told), err, d.Ops())
	}
	r, told, err = resync.Begin(d, 1, 8, g, g)
	if err != api.OK || len(told) != 0 || r.Source() || r.Over() || r.Left() != 0 || d.Ops() != 0 {
		t.Errorf("the target: %v, %v, Ops %d", sample.ShownAll(told), err, d.Ops())
	}
	if told, err = r.Take(api.Message{Kind: pack.End}); err != api.OK || len(told) != 0 || !r.Over() {
		t.Errorf("the target, of an End: %v, %v, Over %v", sample.ShownAll(told), err, r.Over())
	}
}

// Who was Connected alone gives, else node 0: of each pair that meet just one tells the extents.
func TestP30_1WhoGives(t *testing.T) {
	for _, c := range []struct {
		mine, theirs bool
		source       [2]bool
	}{{false, false, [2]bool{true, false}}, {true, true, [2]bool{true, false}}, {true, false, [2]bool{true, true}}, {false, true, [2]bool{false, false}}} {
		for who := range 2 {
			for _, mask := range []uint64{0, 3} {
				n, told, err := begins(t, "who gives", sample.Knowing(16, 0, 0), who, 8, sample.Greet(mask, c.mine), sample.Greet(0, c.theirs))
				if err != api.OK || n.r.Source() != c.source[who] || n.r.Source() != (len(told) > 0) || n.r.Over() != (mask == 0 && c.source[who]) {
					t.Errorf("node %d, %v, %v: %v, Source %v, Over %v", who, c.mine, c.theirs, sample.ShownAll(told), n.r.Source(), n.r.Over())
				}
			}
		}
	}
}

// opens: a Begin that must be done: are the log and the bitmap as they must be, was no other thing done, and does the source tell each extent with its bytes, and the target nothing?
func opens(t *testing.T, what string, d *disk.Disk, who int, mine, theirs api.Message, union uint64, costs int) {
	t.Helper()
	was := d.Copy()
	n, told, err := begins(t, what, d, who, d.Size()-8, mine, theirs)
	if err != api.OK {
		t.Fatalf("%s: %v", what, err)
	}
	if actlog.Get(d) != 0 || dirty.Get(d) != union || d.Ops() != was.Ops()+costs || len(d.Cached()) != 0 {
		t.Errorf("%s: the log %#x, the bitmap %#x, want 0, %#x; %d operations, want %d", what, actlog.Get(d), dirty.Get(d), union, d.Ops()-was.Ops(), costs)
	}
	for at := 8; at < d.Size(); at++ {
		if d.Durable(at) != was.Durable(at) {
			t.Errorf("%s: sector %d became another one", what, at)
		}
	}
	if n.r.Left() != union {
		t.Errorf("%s: Left %#x, want %#x", what, n.r.Left(), union)
	}
	list := sample.Members(union)
	switch {
	case !n.r.Source():
		list = nil
	case union == 0:
		if len(told) != 1 || !sample.AlikeMessages(told[0], end()) || !n.r.Over() {
			t.Errorf("%s: of no extent: %v, Over %v", what, sample.ShownAll(told), n.r.Over())
		}
		return
	}
	if len(told) != len(list) || n.r.Over() {
		t.Fatalf("%s: %d messages for %v, Over %v", what, len(told), list, n.r.Over())
	}
	for i, e := range list {
		if m := told[i]; !sample.AlikeMessages(m, sample.Ext(e, sample.ExtentBytes(was, e))) || !pack.Good(m) {
			t.Errorf("%s: message %d is %s, want the Ext of %d", what, i, sample.Shown(m), e)
		}
	}
}

// Both nodes, whatever they were, with Masks of all sorts, on disks of all sizes, whatever those know.
func TestP30_1Begin(t *testing.T) {
	for _, size := range sizes() {
		for _, pair := range masks() {
			union := sample.Union(pair[0], pair[1], size-8)
			for _, k := range knowns(union) {
				start := sample.Knowing(size, k.hot, k.dirty)
				for who := range 2 {
					for _, mine := range flags() {
						for _, theirs := range flags() {
							what := fmt.Sprintf("node %d of %d sectors, that knows %+v, was %v, and the other %v", who, size, k, mine, theirs)
							opens(t, what, start.Copy(), who, sample.Greet(pair[0], mine), sample.Greet(pair[1], theirs), union, k.costs(union))
						}
					}
				}
			}
		}
	}
}

// What is cached is given as it is read.
func TestP30_1BeginGivesWhatIsCached(t *testing.T) {
	d := sample.Knowing(16, 0, 3)
	b := sample.Bytes(64)
	for i := range 4 {
		d.Write(12+i, api.Sector(b[16*i:]))
	}
	_, told, _ := begins(t, "cached", d, 0, 8, sample.Greet(3, true), sample.Greet(0, true))
	if len(told) != 2 || !bytes.Equal(told[1].Data, b) || len(d.Cached()) != 4 {
		t.Errorf("%v, Cached %v, want the Ext of 1 with %v", sample.ShownAll(told), d.Cached(), b)
	}
}

// noGreets: messages of each other Kind, and of none, and Greets that have what a Greet has not.
func noGreets() []api.Message {
	list := []api.Message{{}}
	for _, m := range sample.Messages() {
		if m.Kind != pack.Greet && (m.Kind != pack.Data || m.Id < 3 && len(m.Data) == 16) {
			list = append(list, m)
		}
	}
	but := func(set func(m *api.Message)) {
		for _, m := range []api.Message{sample.Greet(0, false), sample.Greet(3, true)} {
			set(&m)
			list = append(list, m)
		}
	}
	for _, kind := range append(sample.MessageKinds(), sample.NoMessageKinds()...) {
		if kind != pack.Greet {
			but(func(m *api.Message) { m.Kind = kind })
		}
	}
	for _, id := range append(append(sample.Ids(), sample.Ends()...), -1) {
		but(func(m *api.Message) { m.Id = id })
		but(func(m *api.Message) { m.Off = id })
	}
	for _, size := range []int{1, 15, 16, 64, 128} {
		but(func(m *api.Message) { m.Data = make([]byte, size) })
	}
	return list
}

// In either's place, and in both, at either node, and whatever the disk is.
func TestP30_1NoGreet(t *testing.T) {
	breaks := sample.Knowing(16, 1, 2)
	breaks.Fuse(0)
	good := sample.Greet(3, true)
	for what, d := range map[string]*disk.Disk{"a disk that works": sample.Knowing(16, 1, 2), "no operation left": breaks, "broken": sample.Broken(sample.Knowing(16, 1, 2)), "a small one": sample.Disk(1), "none": nil} {
		for _, bad := range noGreets() {
			for who := range 2 {
				beginStays(t, what, d, who, 8, bad, good, api.ErrArg)
				beginStays(t, what, d, who, 8, good, bad, api.ErrArg)
			}
			beginStays(t, what, d, 2, 8, bad, bad, api.ErrArg)
		}
	}
	if breaks.Broken() {
		t.Errorf("what was refused broke the disk")
	}
}

// A Greet whose Data are empty, and not nil, may be.
func TestP30_1GreetsOfNoData(t *testing.T) {
	mine, theirs := sample.Greet(1, false), sample.Greet(2, false)
	mine.Data, theirs.Data = []byte{}, make([]byte, 0, 40)
	if _, told, err := begins(t, "empty Data", sample.Knowing(16, 1, 2), 0, 8, mine, theirs); err != api.OK || len(told) != 2 {
		t.Errorf("%v, %v", sample.ShownAll(told), err)
	}
}

func TestP30_1NoNode(t *testing.T) {
	for _, who := range sample.NoNodes() {
		for _, was := range flags() {
			for _, d := range []*disk.Disk{sample.Knowing(16, 1, 2), sample.Broken(sample.Knowing(16, 1, 2)), nil} {
				beginStays(t, "no node", d, who, 8, sample.Greet(3, was), sample.Greet(1, !was), api.ErrArg)
			}
		}
	}
}

// A data area of no extent has nothing to copy, whatever the Masks say.
func TestP30_1NoSectors(t *testing.T) {
	list := append(sample.NoNodes(), 0, 1, 2, 3, -4, -8, -256)
	for _, sectors := range list {
		if sectors > 3 {
			continue
		}
		d := sample.Knowing(16, 1, 2)
		n, told, err := begins(t, "no sectors", d, 0, sectors, sample.Greet(all, false), sample.Greet(all, false))
		if err != api.OK || len(told) != 1 || told[0].Kind != pack.End || !n.r.Over() || meta.Mine(meta.Look(d)) != 0 {
			t.Errorf("the source, of %d sectors: %v, %v, Mine %#x", sectors, sample.ShownAll(told), err, meta.Mine(meta.Look(d)))
		}
		d = sample.Knowing(16, 1, 2)
		n, told, err = begins(t, "no sectors", d, 1, sectors, sample.Greet(all, false), sample.Greet(all, false))
		if err != api.OK || len(told) != 0 || n.r.Over() || n.r.Left() != 0 || meta.Mine(meta.Look(d)) != 0 {
			t.Errorf("the target, of %d sectors: %v, %v, Mine %#x", sectors, sample.ShownAll(told), err, meta.Mine(meta.Look(d)))
		}
	}
}

// An extent of which the sectors tell only a part is not copied, even if the disk has all of it; nor is what lies behind them.
func TestP30_1FewerSectors(t *testing.T) {
	for sectors := 4; sectors <= 256; sectors++ {
		for who := range 2 {
			d := sample.Knowing(264, all, 0)
			n, told, err := begins(t, "fewer sectors", d, who, sectors, sample.Greet(all, false), sample.Greet(1, false))
			want := sample.Union(all, 1, sectors)
			if err != api.OK || n.r.Left() != want || dirty.Get(d) != want || len(told) != (1-who)*(sectors/4) {
				t.Errorf("node %d, of %d sectors: %d messages, %v, Left %#x", who, sectors, len(told), err, n.r.Left())
			}
		}
	}
}

// The target takes note of extents that its disk has not; the source can't give them: the error is told, and what the Retire did stays.
func TestP30_1MoreSectorsThanTheDiskHas(t *testing.T) {
	for _, sectors := range []int{20, 24, 256, 257, 1 << 20, 1 << 62, math.MaxInt - 1, math.MaxInt} {
		for _, mask := range []uint64{4, 7, 1<<63 | 1, all} {
			union := sample.Union(mask, 0, sectors)
			for who := range 2 {
				for _, size := range []int{16, 17, 19} {
					d := sample.Knowing(size, 1, 2)
					n, told, err := begins(t, "more sectors", d, who, sectors, sample.Greet(mask, false), sample.Greet(0, false))
					fails := who == 0 && union > 3
					if (n == nil) != fails || (err == api.ErrRange) != fails || fails && told != nil || actlog.Get(d) != 0 || dirty.Get(d) != union {
						t.Errorf("node %d, %d sectors, the Mask %#x: %v, %v, the log %#x, the bitmap %#x", who, sectors, mask, sample.ShownAll(told), err, actlog.Get(d), dirty.Get(d))
					}
				}
			}
		}
	}
}

// Even if nothing is to be changed.
func TestP30_1ABrokenDisk(t *testing.T) {
	for _, size := range []int{1, 8, 12, 24, 264} {
		for _, k := range knowns(3) {
			for _, mask := range []uint64{0, 1, 3, all} {
				for who := range 2 {
					d := sample.Broken(sample.Knowing(size, k.hot, k.dirty))
					beginStays(t, "broken", d, who, size-8, sample.Greet(mask, false), sample.Greet(0, false), api.ErrDown)
					d.Fuse(9)
					beginStays(t, "broken, with a fuse", d, who, size-8, sample.Greet(mask, false), sample.Greet(0, false), api.ErrDown)
				}
			}
		}
	}
}

// A Retire that ends at each of its operations, and a crash: an error, no Resync, and all that was known is known, if the Mask has it; a Begin behind it is done. With as many operations as the Retire needs it is done: to give is none.
func TestP30_1TheFuseEndsWithinTheRetire(t *testing.T) {
	for _, k := range append(knowns(3), known{1, 2}, known{4, 0}) {
		mask := k.hot | k.dirty
		for ops := range k.costs(sample.Union(mask, 8, 16)) + 1 {
			for _, spares := range []uint64{0, 1, all} {
				for who := range 2 {
					what := fmt.Sprintf("node %d, that knows %+v, with %d operations", who, k, ops)
					d := sample.Knowing(24, k.hot, k.dirty)
					d.Fuse(ops)
					n, told, err := begins(t, what, d, who, 16, sample.Greet(mask, false), sample.Greet(8, false))
					if ops == k.costs(sample.Union(mask, 8, 16)) {
						if err != api.OK || d.Broken() {
							t.Errorf("%s: %v, Broken %v", what, err, d.Broken())
						}
						continue
					}
					if n != nil || told != nil || err != api.ErrDown || !d.Broken() {
						t.Errorf("%s: %v, %v, Broken %v", what, sample.ShownAll(told), err, d.Broken())
					}
					d.Crash(spares)
					if mine := meta.Mine(meta.Look(d)); mine&mask&15 != mask&15 {
						t.Errorf("%s, and a crash that spares %#x: Mine is %#x, and was %#x", what, spares, mine, mask)
					}
					if _, _, err := begins(t, what, d, who, 16, sample.Greet(mask, false), sample.Greet(8, false)); err != api.OK || meta.Look(d) != (meta.Meta{Dirty: sample.Union(mask, 8, 16)}) {
						t.Errorf("%s, and once more: %v, %+v", what, err, meta.Look(d))
					}
				}
			}
		}
	}
}

// Rings that have no number left: the Retire's error. The bitmap comes first: where it fails the log is as it was, and where the log fails the bitmap has been put.
func TestP30_1BehindTheLastRecord(t *testing.T) {
	for who := range 2 {
		d := sample.Knowing(16, 1, 0)
		sample.RingLay(d, 6, 2, greatest, 2)
		beginStays(t, "the bitmap's last record", d, who, 8, sample.Greet(3, false), sample.Greet(0, false), api.ErrRange)
		if n, _, err := begins(t, "the same bitmap", d, who, 8, sample.Greet(2, false), sample.Greet(0, false)); n == nil || err != api.OK || actlog.Get(d) != 0 {
			t.Errorf("node %d: %v, the log %#x", who, err, actlog.Get(d))
		}
		d = sample.Knowing(16, 0, 2)
		sample.RingLay(d, 2, 4, greatest, 1)
		if n, told, err := begins(t, "the log's last record", d, who, 8, sample.Greet(3, false), sample.Greet(0, false)); n != nil || told != nil || err != api.ErrRange || dirty.Get(d) != 3 || actlog.Get(d) != 1 {
			t.Errorf("node %d: %v, %v, the bitmap %#x, the log %#x", who, sample.ShownAll(told), err, dirty.Get(d), actlog.Get(d))
		}
	}
}

// A disk that has no room for the bitmap can't take note of an extent; it needs none for the empty set.
func TestP30_1DisksWithoutABitmap(t *testing.T) {
	for size := 1; size < 8; size++ {
		for who := range 2 {
			beginStays(t, "no bitmap", sample.Filled(size), who, 4, sample.Greet(1, false), sample.Greet(0, false), api.ErrArg)
			beginStays(t, "no bitmap, and broken", sample.Broken(sample.Filled(size)), who, 4, sample.Greet(1, false), sample.Greet(0, false), api.ErrDown)
			if n, _, err := begins(t, "no extent", sample.Filled(size), who, 4, sample.Greet(2, false), sample.Greet(0, false)); n == nil || err != api.OK {
				t.Errorf("node %d of %d sectors: %v", who, size, err)
			}
		}
	}
}

// Of all that may be wrong the first thing is told: the arguments, the disk that no call made or is broken, the rings' last records, and the extent that is not there.
func TestP30_1ErrorsInOrder(t *testing.T) {
	good, bad := sample.Greet(7, false), sample.Have(1)
	works, broken := sample.Knowing(16, 1, 2), sample.Broken(sample.Knowing(16, 1, 2))
	last := sample.Knowing(16, 1, 0)
	sample.RingLay(last, 6, 2, greatest, 2)
	for _, c := range []struct {
		d            *disk.Disk
		who          int
		mine, theirs api.Message
		want         api.Errno
	}{
		{nil, 0, bad, good, api.ErrArg}, {nil, 0, good, bad, api.ErrArg}, {nil, 2, good, good, api.ErrArg}, {nil, 2, bad, bad, api.ErrArg},
		{broken, 0, bad, good, api.ErrArg}, {broken, -1, good, good, api.ErrArg}, {last, 0, good, bad, api.ErrArg}, {works, 1, good, bad, api.ErrArg},
		{nil, 0, good, good, api.ErrMade}, {nil, 1, good, good, api.ErrMade}, {broken, 0, good, good, api.ErrDown}, {last, 0, good, good, api.ErrRange}, {last, 1, good, good, api.ErrRange},
	} {
		beginStays(t, "in order", c.d, c.who, 12, c.mine, c.theirs, c.want)
	}
}
