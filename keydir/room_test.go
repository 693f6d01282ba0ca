package keydir_test

import (
	"math/rand/v2"
	"testing"

	"keydir/api"
)

// ballast is a hint that takes room, till the disk's owner removes it.
var ballast = hintName(77)

// tight makes the trial's directory, without what is in the way, on a disk that has so much room left; and more of it, when the ballast is gone.
func (x trial) tight(t *testing.T, left int) *api.Disk {
	t.Helper()
	roomy := x.disk(t)
	mustClean(t, roomy)
	put(t, roomy, ballast, make([]byte, 1000))
	d := api.NewDisk(used(t, roomy) + left)
	for name, b := range files(t, roomy) {
		put(t, d, name, []byte(b))
	}
	return d
}

func dropBallast(t *testing.T, d *api.Disk) {
	t.Helper()
	if d.Remove(ballast) != nil || d.SyncDir() != nil {
		t.Fatal("the disk fails")
	}
}

// There is room for no byte, for one, and so on, till the call is not refused any more: so each place where bytes are written is met.
func TestP11WantOfRoom(t *testing.T) {
	rnd := rand.New(rand.NewPCG(11, 5))
	for _, x := range trials() {
		for left, refused := 0, true; refused; left++ {
			for crash := range 4 {
				d := x.tight(t, left)
				pairs := pairsOf(t, open(t, d))
				refused = wasRefused(t, d, x, left)
				wantPairs(t, d, pairs, x.where(left))
				if crash > 0 {
					d.Crash(uint(crash-1), uint(rnd.IntN(60)))
					wantPairs(t, d, pairs, x.where(left, crash))
				}
				dropBallast(t, d)
				wantUsable(t, rnd, d, pairs, x.where(left, crash))
			}
			if left > 1000 {
				t.Fatalf("P11: %s: more room than all segments have is not enough", x.name)
			}
		}
	}
}

// wasRefused makes the trial's call, and again and again if it was refused: what was left behind does not pile up, and does not help.
func wasRefused(t *testing.T, d *api.Disk, x trial, left int) bool {
	t.Helper()
	for again := range 3 {
		n := errno(x.call(d))
		if again == 0 && n == api.OK {
			return false
		}
		if n != api.ErrRoom {
			t.Fatalf("P11: %s: error %d", x.where(left, again), n)
		}
	}
	return true
}

// With no room at all Clean is not refused, and Merge is, for it writes a manifest at least.
func TestP11NoRoom(t *testing.T) {
	for _, x := range trials() {
		d := x.tight(t, 0)
		want := api.ErrRoom
		if x.name[:5] == "Clean" {
			want = api.OK
		}
		if n := errno(x.call(d)); n != want {
			t.Errorf("P11: %s without room: error %d, want %d", x.name, n, want)
		}
	}
}

// A smaller Merge has the room that a greater one did not have, also behind it.
func TestP11ASmallerMergeHasRoom(t *testing.T) {
	d := api.NewDisk(4*18 + 22 + 18 + 22)
	put(t, d, segmentName(1), rawOfAll(recordsOf("a=1")))
	put(t, d, segmentName(2), rawOfAll(recordsOf("b=1 c=1 d=1")))
	put(t, d, "manifest", rawManifest(1, 2, 1, 2))
	for range 3 {
		if n := errno(merging(2)(d)); n != api.ErrRoom {
			t.Fatalf("P11: Merge of three records with room for one: error %d", n)
		}
	}
	was := snapshotOf(t, d)
	mustMerge(t, d, 1)
	wantMerged(t, d, was, []int{1})
}

// A disk that is full, and fails: either is told.
func TestP11FailuresAndWantOfRoom(t *testing.T) {
	rnd := rand.New(rand.NewPCG(11, 6))
	for _, x := range trials() {
		for after := range 30 {
			for _, left := range []int{0, 20, 60} {
				d := x.tight(t, left)
				pairs := pairsOf(t, open(t, d))
				d.Fail(after, endless)
				err := x.call(d)
				d.Fail(0, 0)
				if n := errno(err); n != api.OK && n != api.ErrDisk && n != api.ErrRoom {
					t.Fatalf("P11: %s: %v", x.where(after, left), err)
				}
				dropBallast(t, d)
				wantUsable(t, rnd, d, pairs, x.where(after, left))
			}
		}
	}
}

// Files that belong to nothing do not take away the room that a merge needs.
func TestP8OtherFilesTakeNoRoom(t *testing.T) {
	d := api.NewDisk(18 + 18 + 2*18 + 30)
	put(t, d, segmentName(1), rawOfAll(recordsOf("a=1 a=2")))
	put(t, d, "manifest", rawManifest(1, 1, 1))
	put(t, d, "other", make([]byte, 18+18+30-18))
	was := snapshotOf(t, d)
	mustMerge(t, d, 1)
	wantMerged(t, d, was, []int{1})
}
