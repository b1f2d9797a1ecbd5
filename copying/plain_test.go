package copying_test

import (
	"fmt"
	"math"
	"testing"

	"twain/api"
	"twain/copying"
	"twain/disk"
	"twain/sample"
)

const (
	all      = math.MaxUint64
	greatest = math.MaxUint32
)

// isExt: is it an Ext, and Good, by chapter 17's words, with the limits' numbers written out?
func isExt(m api.Message) bool {
	return m.Kind == 6 && m.Id == 0 && m.Mask == 0 && !m.Was && m.Off >= 0 && m.Off <= 63 && len(m.Data) == 64
}

// given: Give, by the chapter's words.
func given(d *disk.Disk, e int) (api.Message, api.Errno) {
	switch {
	case !d.Made():
		return api.Message{}, api.ErrMade
	case !sample.HasExtent(d, e):
		return api.Message{}, api.ErrRange
	case d.Broken():
		return api.Message{}, api.ErrDown
	}
	return sample.Ext(e, sample.ExtentBytes(d, e)), api.OK
}

// taken: Put, by the chapter's words.
func taken(d *disk.Disk, m api.Message) (api.Message, api.Errno) {
	switch {
	case !isExt(m):
		return api.Message{}, api.ErrArg
	case !d.Made():
		return api.Message{}, api.ErrMade
	case !sample.HasExtent(d, m.Off):
		return api.Message{}, api.ErrRange
	}
	for i := range 4 {
		if err := d.Write(8+4*m.Off+i, api.Sector(m.Data[16*i:])); err != api.OK {
			return api.Message{}, err
		}
	}
	if err := d.Flush(); err != api.OK {
		return api.Message{}, err
	}
	if _, err := cleared(d, m.Off); err != api.OK {
		return api.Message{}, err
	}
	return sample.Have(m.Off), api.OK
}

// told: Told, by the chapter's words.
func told(d *disk.Disk, e int) (uint64, api.Errno) {
	if e < 0 || e > 63 {
		return 0, api.ErrArg
	}
	return cleared(d, e)
}

// cleared: dirty's Clear, by the words of chapters 7 and 11.
func cleared(d *disk.Disk, e int) (uint64, api.Errno) {
	switch {
	case !d.Made():
		return 0, api.ErrMade
	case d.Broken():
		return 0, api.ErrDown
	}
	mask := sample.RingWord(d, 6, 2)
	left := sample.Without(mask, e)
	if left == mask {
		return left, api.OK
	}
	if n, _ := sample.RingLatest(d, 6, 2); n == greatest {
		return 0, api.ErrRange
	}
	if err := sample.RingTurn(d, 6, 2, left); err != api.OK {
		return 0, err
	}
	return left, api.OK
}

// having: a disk of that size with bytes in each sector, and that bitmap.
func having(size int, mask uint64) *disk.Disk {
	d := sample.Filled(size)
	sample.RingLay(d, 6, 2, 5, mask)
	return d
}

// leaves: is the disk as the other one? What was done to a copy by the chapter's words shows what the call was to do.
func leaves(t *testing.T, what string, d, want *disk.Disk) {
	t.Helper()
	if !sample.Alike(d, want) {
		t.Errorf("%s: the disk is another one: Broken %v, Cached %v, Ops %d, want %v, %v, %d", what, d.Broken(), d.Cached(), d.Ops(), want.Broken(), want.Cached(), want.Ops())
	}
}

// gives: is what Give tells as the chapter's words have it, and is the disk as it was?
func gives(t *testing.T, what string, d *disk.Disk, e int) (api.Message, api.Errno) {
	t.Helper()
	what = fmt.Sprintf("%s: Give(%d)", what, e)
	was := d.Copy()
	want, wantE := given(d, e)
	got, err := copying.Give(d, e)
	if err != wantE || !sample.AlikeMessages(got, want) {
		t.Errorf("%s: %s, %v, want %s, %v", what, sample.Shown(got), err, sample.Shown(want), wantE)
	}
	leaves(t, what, d, was)
	return got, err
}

// puts: is what Put tells, and does, as the chapter's words have it?
func puts(t *testing.T, what string, d *disk.Disk, m api.Message) (api.Message, api.Errno) {
	t.Helper()
	what = fmt.Sprintf("%s: Put(%s)", what, sample.Shown(m))
	like := d.Copy()
	want, wantE := taken(like, m)
	got, err := copying.Put(d, m)
	if err != wantE || !sample.AlikeMessages(got, want) {
		t.Errorf("%s: %s, %v, want %s, %v", what, sample.Shown(got), err, sample.Shown(want), wantE)
	}
	leaves(t, what, d, like)
	return got, err
}

// tells: is what Told tells, and does, as the chapter's words have it?
func tells(t *testing.T, what string, d *disk.Disk, e int) (uint64, api.Errno) {
	t.Helper()
	what = fmt.Sprintf("%s: Told(%d)", what, e)
	like := d.Copy()
	want, wantE := told(like, e)
	got, err := copying.Told(d, e)
	if err != wantE || got != want {
		t.Errorf("%s: %#x, %v, want %#x, %v", what, got, err, want, wantE)
	}
	leaves(t, what, d, like)
	return got, err
}

// giveStays: is that Give's error, or OK, and the disk as it was?
func giveStays(t *testing.T, what string, d *disk.Disk, e int, want api.Errno) {
	t.Helper()
	if _, err := gives(t, what, d, e); err != want {
		t.Errorf("%s: Give(%d): %v, want %v", what, e, err, want)
	}
}

// putStays: is that Put's error, and the disk as it was?
func putStays(t *testing.T, what string, d *disk.Disk, m api.Message, want api.Errno) {
	t.Helper()
	was := d.Copy()
	if _, err := puts(t, what, d, m); err != want {
		t.Errorf("%s: Put(%s): %v, want %v", what, sample.Shown(m), err, want)
	}
	leaves(t, what, d, was)
}

// toldStays: does Told answer that, and is the disk as it was?
func toldStays(t *testing.T, what string, d *disk.Disk, e int, mask uint64, want api.Errno) {
	t.Helper()
	was := d.Copy()
	if got, err := tells(t, what, d, e); got != mask || err != want {
		t.Errorf("%s: Told(%d): %#x, %v, want %#x, %v", what, e, got, err, mask, want)
	}
	leaves(t, what, d, was)
}
