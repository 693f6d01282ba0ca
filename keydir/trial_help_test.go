package keydir_test

import (
	"fmt"
	"math/rand/v2"
	"testing"

	"keydir/api"
	"keydir/keydir"
)

// trial is a directory, and a call that changes it, of which something is to go wrong.
type trial struct {
	name  string
	parts []part
	call  func(d *api.Disk) error
}

func merging(victims ...int) func(d *api.Disk) error {
	return func(d *api.Disk) error { return keydir.Merge(d, victims) }
}

func trials() []trial {
	// Each segment is needed, and the manifest's order is not that of the numbers.
	brittle := []part{{5, "a=1 b=1 b=2 x=1", "tail"}, {1, "-a c=1 c=2", ""}, {2, "-b d=1 x=2 x=3", ""}}
	// Of these nothing is left.
	hollow := []part{{1, "a=1 -a", ""}, {7, "", "tail"}}
	// Without its deletions it would tell an old value.
	deleting := []part{{4, "a=1 b=1", ""}, {2, "-a", ""}, {9, "-b c=1 c=2", ""}}
	return []trial{
		{"Merge of one", brittle, merging(1)},
		{"Merge of the last one", brittle, merging(2)},
		{"Merge of two", brittle, merging(5, 2)},
		{"Merge of all", brittle, merging(2, 1, 5)},
		{"Clean", brittle, keydir.Clean},
		{"Merge of an empty map's segment", hollow, merging(1)},
		{"Merge of an empty map", hollow, merging(7, 1)},
		{"Clean of an empty map", hollow, keydir.Clean},
		{"Merge of deletions", deleting, merging(2, 9)},
		{"Merge of what was deleted", deleting, merging(4)},
		{"Clean of nothing", nil, keydir.Clean},
	}
}

// disk makes the trial's directory, which is safe, with files beside it that are in the way of a merge.
func (x trial) disk(t *testing.T) *api.Disk {
	t.Helper()
	d := diskOf(t, x.parts...)
	top := 0
	for _, p := range x.parts {
		top = max(top, p.id)
	}
	for _, name := range []string{segmentName(top + 1), "manifest.next", "other", hintName(5)} {
		put(t, d, name, []byte("in the way"))
	}
	return d
}

// wantPairs asks for the map that was there before (P11).
func wantPairs(t *testing.T, d *api.Disk, want, why string) {
	t.Helper()
	if got := pairsOf(t, open(t, d)); got != want {
		t.Fatalf("P11: %s: the map is %q, and was %q", why, got, want)
	}
}

// wantCleaned makes a Clean of which nothing fails, and asks for all that it promises (P10).
func wantCleaned(t *testing.T, d *api.Disk, why string) {
	t.Helper()
	want := snapshotOf(t, d).needed()
	mustClean(t, d)
	wantFiles(t, d, want, why)
	d.Crash(0, 0)
	wantFiles(t, d, want, why+", and a crash")
}

// wantUsable asks for the map that was there before, and that a Merge does all that it promises when nothing fails any more: of any of the segments that are listed now (P11).
func wantUsable(t *testing.T, rnd *rand.Rand, d *api.Disk, pairs, why string) {
	t.Helper()
	wantPairs(t, d, pairs, why)
	wantCleaned(t, d.Copy(), why)
	was := snapshotOf(t, d)
	if len(was.manifest.IDs) == 0 {
		wantCleaned(t, d, why)
	} else {
		victims := randomVictims(rnd, was.manifest.IDs)
		mustMerge(t, d, victims...)
		wantMerged(t, d, was, victims)
	}
	if t.Failed() {
		t.Fatalf("P11: %s", why)
	}
}

// metFailures makes a call on a disk of which so many operations fail, after so many. It tells whether the call met any of them, and asks that it answers so.
func metFailures(t *testing.T, d *api.Disk, call func(d *api.Disk) error, after, times int, why string) bool {
	t.Helper()
	d.Fail(after, times)
	err := call(d)
	left := 0
	for range after + times {
		if _, e := d.Size("manifest"); errno(e) == api.ErrDisk {
			left++
		}
	}
	d.Fail(0, 0)
	want := api.OK
	if left < times {
		want = api.ErrDisk
	}
	if errno(err) != want {
		t.Fatalf("P11: %s: %d of %d failures were met, and the answer is %v", why, times-left, times, err)
	}
	return left < times
}

// used tells how many bytes all files of a disk have.
func used(t *testing.T, d *api.Disk) int {
	t.Helper()
	n := 0
	for _, b := range files(t, d) {
		n += len(b)
	}
	return n
}

// where tells the moment of a trial.
func (x trial) where(numbers ...any) string { return x.name + " at " + fmt.Sprint(numbers...) }
