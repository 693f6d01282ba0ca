package keydir_test

import (
	"math"
	"math/rand/v2"
	"testing"

	"keydir/api"
	"keydir/keydir"
)

// change is a call that changes a directory.
type change struct {
	name string
	call func(d *api.Disk) error
}

func changes() []change {
	merging := func(victims ...int) func(d *api.Disk) error {
		return func(d *api.Disk) error { return keydir.Merge(d, victims) }
	}
	return []change{
		{"Merge of one", merging(1)},
		{"Merge of two", merging(5, 2)},
		{"Merge of all", merging(2, 1, 5)},
		{"Clean", keydir.Clean},
	}
}

// brittle is a directory that is safe, and of which each segment is needed, with files beside it that are in the way of a merge.
func brittle(t *testing.T) *api.Disk {
	t.Helper()
	d := diskOf(t, part{5, "a=1 b=1 b=2 x=1", "tail"}, part{1, "-a c=1 c=2", ""}, part{2, "-b d=1 x=2 x=3", ""})
	for _, name := range []string{segmentName(6), "manifest.next", "other", hintName(5)} {
		put(t, d, name, []byte("in the way"))
	}
	return d
}

const brittlePairs = "c=2 d=1 x=3"

// wantUsable asks for the map that was there, and that a Merge of all that is listed then does its work.
func wantUsable(t *testing.T, d *api.Disk, why string) {
	t.Helper()
	was := snapshotOf(t, d)
	if was.pairs != brittlePairs {
		t.Fatalf("P11: %s: the map is %q, want %q", why, was.pairs, brittlePairs)
	}
	mustMerge(t, d, was.manifest.IDs...)
	wantMerged(t, d, was, was.manifest.IDs)
	if t.Failed() {
		t.Fatalf("P11: %s", why)
	}
}

// Each operation of the disk is let fail in its turn; the call answers that, till it has no more of them.
func TestP11OperationsThatFail(t *testing.T) {
	for _, c := range changes() {
		for _, times := range []int{1, 2, 3, 7, math.MaxInt} {
			after := 0
			for ; ; after++ {
				d := brittle(t)
				d.Fail(after, times)
				err := c.call(d)
				d.Fail(0, 0)
				wantUsable(t, d, c.name)
				if err == nil {
					break
				}
				if errno(err) != api.ErrDisk {
					t.Fatalf("P11: %s at a disk that fails after %d operations: %v", c.name, after, err)
				}
			}
			wantNoMoreFailures(t, c, after)
		}
	}
}

// wantNoMoreFailures asks whether the call has just so many operations: one that comes later, and whose failure it hides, would be found out here.
func wantNoMoreFailures(t *testing.T, c change, operations int) {
	t.Helper()
	d := brittle(t)
	d.Fail(operations, 1)
	if err := c.call(d); err != nil {
		t.Fatalf("P11: %s: %v", c.name, err)
	}
	if _, err := d.Size("manifest"); errno(err) != api.ErrDisk {
		t.Errorf("P11: %s answered nil though an operation failed", c.name)
	}
}

// A crash comes at each moment within the call, and leaves any part of what is not safe.
func TestP11CrashesWithin(t *testing.T) {
	for _, c := range changes() {
		for after, done := 0, false; !done; after++ {
			for dir := range uint(12) {
				for _, tail := range []uint{0, 1, 17, 18, 19, 40, 1000} {
					d := brittle(t)
					d.Fail(after, math.MaxInt)
					err := c.call(d)
					done = err == nil
					if err != nil && errno(err) != api.ErrDisk {
						t.Fatalf("P11: %s: %v", c.name, err)
					}
					d.Crash(dir, tail)
					wantUsable(t, d, c.name+", with a crash in it")
				}
			}
		}
	}
}

// Some operation fails, the call is made again, and then comes the crash: at each pair of moments.
func TestP11CrashesBehindASecondCall(t *testing.T) {
	rnd := rand.New(rand.NewPCG(11, 12))
	for range 4000 {
		d := brittle(t)
		for range 1 + rnd.IntN(3) {
			d.Fail(rnd.IntN(30), 1+rnd.IntN(3))
			if rnd.IntN(3) == 0 {
				keydir.Clean(d)
			} else {
				ids := listedIDs(t, d)
				keydir.Merge(d, randomVictims(rnd, ids))
			}
		}
		d.Crash(uint(rnd.IntN(20)), uint(rnd.IntN(60)))
		wantUsable(t, d, "several calls, of which some failed")
	}
}

// listedIDs tells what the manifest lists now, whatever fails.
func listedIDs(t *testing.T, d *api.Disk) []int {
	t.Helper()
	for {
		if b, err := d.ReadAt("manifest", 0, math.MaxInt); err == nil {
			m, err := keydir.ReadManifest(b)
			if err != nil {
				t.Fatal(err)
			}
			return m.IDs
		}
	}
}

// tight makes brittle's directory, without what is in the way, on a disk that has so much room left.
func tight(t *testing.T, left int) *api.Disk {
	t.Helper()
	d := brittle(t)
	mustClean(t, d)
	needed := files(t, d)
	room := left
	for _, b := range needed {
		room += len(b)
	}
	d = api.NewDisk(room)
	for name, b := range needed {
		put(t, d, name, []byte(b))
	}
	return d
}

func TestP11WantOfRoom(t *testing.T) {
	for _, c := range changes() {
		for left, refused := 0, true; refused; left++ {
			d := tight(t, left)
			err := c.call(d)
			refused = err != nil
			if left == 0 && refused != (c.name != "Clean") || refused && errno(err) != api.ErrRoom {
				t.Fatalf("P11: %s with room for %d bytes: %v", c.name, left, err)
			}
			if got := pairsOf(t, open(t, d)); got != brittlePairs {
				t.Fatalf("P11: %s with room for %d bytes: the map is %q", c.name, left, got)
			}
			if left%2 == 0 {
				d.Crash(uint(left), uint(left))
			}
			// What a merge that was refused left behind is in the way of nothing.
			mustClean(t, d)
			wantFiles(t, d, files(t, tightAgain(t, left, c, refused)), c.name+" that was refused, and Clean")
			if left > 1000 {
				t.Fatalf("P11: %s: more room than all segments have is not enough", c.name)
			}
		}
	}
}

// tightAgain is the directory that a call leaves which was refused, or was done.
func tightAgain(t *testing.T, left int, c change, refused bool) *api.Disk {
	t.Helper()
	d := tight(t, left)
	if !refused && c.call(d) != nil {
		t.Fatal("P11: it was done, and is not done again")
	}
	return d
}

// Files that belong to nothing do not take away the room that a merge needs.
func TestP8OtherFilesTakeNoRoom(t *testing.T) {
	d := api.NewDisk(18 + 18 + 2*18 + 30)
	put(t, d, segmentName(1), rawOfAll(recordsOf("a=1 a=2")))
	put(t, d, "manifest", rawManifest(1, 1, 1))
	put(t, d, "other", make([]byte, 18+18+30-18))
	was := snapshotOf(t, d)
	mustMerge(t, d, 1)
	wantMerged(t, d, was, []int{1})
}
