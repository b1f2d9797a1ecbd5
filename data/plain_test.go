package data_test

import (
	"bytes"
	"fmt"
	"math"
	"testing"

	"twain/api"
	"twain/data"
	"twain/disk"
	"twain/sample"
)

const all = math.MaxUint64

// noSpans: no disk has such a row of sectors: none at all, a number below 0, or one that is too great, be it by what wraps.
func noSpans() []api.Span {
	const most = 1 << 30
	list := []api.Span{{}}
	for _, n := range []int{0, 1, 3, 4, 16, 1016, most} {
		list = append(list, api.Span{Off: n})
	}
	for _, n := range []int{math.MinInt, math.MinInt + 1, math.MinInt32, -1 << 60, -1024, -16, -9, -8, -4, -2, -1} {
		list = append(list, api.Span{Off: n}, api.Span{Off: n, Len: 1}, api.Span{Off: n, Len: 9}, api.Span{Off: 0, Len: n}, api.Span{Off: 4, Len: n}, api.Span{Off: 1024, Len: n}, api.Span{Off: n, Len: n})
		if n > math.MinInt {
			list = append(list, api.Span{Off: n, Len: -n}, api.Span{Off: -n, Len: n})
		}
	}
	for _, n := range []int{1017, 1024, most - 1, most, most + 1, math.MaxInt32, 1 << 32, 1<<32 + 1, 1 << 59, 1 << 60, 1<<60 + 1, 1 << 61, 1 << 62, math.MaxInt - 8, math.MaxInt - 7, math.MaxInt - 1, math.MaxInt} {
		list = append(list, api.Span{Off: n, Len: 1}, api.Span{Off: 0, Len: n}, api.Span{Off: 1, Len: n}, api.Span{Off: n, Len: n}, api.Span{Off: n, Len: -1}, api.Span{Off: -1, Len: n})
	}
	return list
}

// write: what a Write does to a disk that has the sectors, by the chapter's words: sector by sector, from the first one on, up to the disk's first error.
func write(d *disk.Disk, s api.Span, b []byte) api.Errno {
	for i := range s.Len {
		if err := d.Write(8+s.Off+i, api.Sector(b[16*i:16*i+16])); err != api.OK {
			return err
		}
	}
	return api.OK
}

// read: the bytes that a disk that works has in the sectors, by the chapter's words.
func read(d *disk.Disk, s api.Span) []byte {
	var b []byte
	for i := range s.Len {
		sector, _ := d.Read(8 + s.Off + i)
		b = append(b, sector[:]...)
	}
	return b
}

// whole: the span of the whole area of a disk of that size.
func whole(size int) api.Span { return api.Span{Len: size - 8} }

// extent: the span of the four sectors of extent e.
func extent(e int) api.Span { return api.Span{Off: e + e + e + e, Len: 4} }

// few: bytes as they are told in a test's words.
func few(b []byte) string {
	if len(b) > 80 {
		return fmt.Sprintf("%v .. (%d bytes)", b[:80], len(b))
	}
	return fmt.Sprint(b)
}

// asks: does the call answer that, and is the disk as it was?
func asks(t *testing.T, what string, d *disk.Disk, call func() ([]byte, api.Errno), want []byte, wantE api.Errno) {
	t.Helper()
	was := d.Copy()
	if got, err := call(); !bytes.Equal(got, want) || err != wantE {
		t.Errorf("%s: %s, %v, want %s, %v", what, few(got), err, few(want), wantE)
	}
	if !sample.Alike(d, was) {
		t.Errorf("%s changed the disk: Broken %v, Cached %v, Ops %d, want %v, %v, %d", what, d.Broken(), d.Cached(), d.Ops(), was.Broken(), was.Cached(), was.Ops())
	}
}

// does: does the call do to the disk just what a Write of b to s does by the chapter's words, with its error?
func does(t *testing.T, what string, d *disk.Disk, call func() api.Errno, s api.Span, b []byte) {
	t.Helper()
	want := d.Copy()
	wantE := write(want, s, b)
	if err := call(); err != wantE {
		t.Errorf("%s: %v, want %v", what, err, wantE)
	}
	if !sample.Alike(d, want) {
		t.Errorf("%s: Broken %v, Cached %v, Ops %d, want %v, %v, %d", what, d.Broken(), d.Cached(), d.Ops(), want.Broken(), want.Cached(), want.Ops())
	}
}

// reads: does Read tell those bytes?
func reads(t *testing.T, what string, d *disk.Disk, s api.Span, want []byte) {
	t.Helper()
	what = fmt.Sprintf("%s: Read(%v)", what, s)
	asks(t, what, d, func() ([]byte, api.Errno) { return data.Read(d, s) }, want, api.OK)
}

// readFails: is that Read's error?
func readFails(t *testing.T, what string, d *disk.Disk, s api.Span, want api.Errno) {
	t.Helper()
	what = fmt.Sprintf("%s: Read(%v)", what, s)
	asks(t, what, d, func() ([]byte, api.Errno) { return data.Read(d, s) }, nil, want)
}

// gets: does Extent tell those bytes?
func gets(t *testing.T, what string, d *disk.Disk, e int, want []byte) {
	t.Helper()
	what = fmt.Sprintf("%s: Extent(%d)", what, e)
	asks(t, what, d, func() ([]byte, api.Errno) { return data.Extent(d, e) }, want, api.OK)
}

// getFails: is that Extent's error?
func getFails(t *testing.T, what string, d *disk.Disk, e int, want api.Errno) {
	t.Helper()
	what = fmt.Sprintf("%s: Extent(%d)", what, e)
	asks(t, what, d, func() ([]byte, api.Errno) { return data.Extent(d, e) }, nil, want)
}

// shows: does Image tell those bytes?
func shows(t *testing.T, what string, d *disk.Disk, want []byte) {
	t.Helper()
	asks(t, what+": Image", d, func() ([]byte, api.Errno) { return data.Image(d), api.OK }, want, api.OK)
}

// showsNothing: is Image nil?
func showsNothing(t *testing.T, what string, d *disk.Disk) {
	t.Helper()
	shows(t, what, d, nil)
	if b := data.Image(d); b != nil {
		t.Errorf("%s: Image: %v, want nil", what, b)
	}
}

// writes: is b written, as far as the disk can do it?
func writes(t *testing.T, what string, d *disk.Disk, s api.Span, b []byte) {
	t.Helper()
	what = fmt.Sprintf("%s: Write(%v)", what, s)
	does(t, what, d, func() api.Errno { return data.Write(d, s, b) }, s, b)
}

// sets: has the extent the bytes of b, as far as the disk can do it?
func sets(t *testing.T, what string, d *disk.Disk, e int, b []byte) {
	t.Helper()
	what = fmt.Sprintf("%s: SetExtent(%d)", what, e)
	does(t, what, d, func() api.Errno { return data.SetExtent(d, e, b) }, extent(e), b)
}

// writeStays: does Write answer that, and is the disk as it was?
func writeStays(t *testing.T, what string, d *disk.Disk, s api.Span, b []byte, want api.Errno) {
	t.Helper()
	what = fmt.Sprintf("%s: Write(%v) of %d bytes", what, s, len(b))
	asks(t, what, d, func() ([]byte, api.Errno) { return nil, data.Write(d, s, b) }, nil, want)
}

// setStays: does SetExtent answer that, and is the disk as it was?
func setStays(t *testing.T, what string, d *disk.Disk, e int, b []byte, want api.Errno) {
	t.Helper()
	what = fmt.Sprintf("%s: SetExtent(%d) of %d bytes", what, e, len(b))
	asks(t, what, d, func() ([]byte, api.Errno) { return nil, data.SetExtent(d, e, b) }, nil, want)
}
