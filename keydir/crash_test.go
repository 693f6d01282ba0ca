package keydir_test

import (
	"math"
	"math/rand/v2"
	"slices"
	"strconv"
	"testing"

	"keydir/api"
	"keydir/keydir"
)

// A crash comes at each moment within a call, and behind it, and leaves any part of what is not safe.
func TestP11Crashes(t *testing.T) {
	rnd := rand.New(rand.NewPCG(11, 3))
	for _, x := range trials() {
		for after, done := 0, false; !done; after++ {
			for dir := range uint(12) {
				for _, tail := range []uint{0, 1, 17, 19, 40, 1000} {
					d := x.disk(t)
					pairs := pairsOf(t, open(t, d))
					d.Fail(after, math.MaxInt)
					err := x.call(d)
					done = err == nil
					if !done && errno(err) != api.ErrDisk {
						t.Fatalf("P11: %s: %v", x.where(after), err)
					}
					d.Crash(dir, tail)
					wantUsable(t, rnd, d, pairs, x.where(after, dir, tail)+" with a crash")
				}
			}
		}
	}
}

// A crash comes, the directory is merged or cleaned again, and there comes a crash too.
func TestP11CrashesBehindCrashes(t *testing.T) {
	rnd := rand.New(rand.NewPCG(11, 4))
	for _, x := range trials() {
		for range 500 {
			d := x.disk(t)
			pairs := pairsOf(t, open(t, d))
			crashWithin(t, rnd, d, x.call, x.name)
			call := keydir.Clean
			if ids := snapshotOf(t, d).manifest.IDs; len(ids) > 0 && rnd.IntN(3) > 0 {
				call = merging(randomVictims(rnd, ids)...)
			}
			wantPairs(t, d, pairs, x.name+" with a crash")
			crashWithin(t, rnd, d, call, x.name+" with a crash, and a call behind it")
			wantUsable(t, rnd, d, pairs, x.name+" with two crashes")
		}
	}
}

// crashWithin lets a crash come at any moment within a call.
func crashWithin(t *testing.T, rnd *rand.Rand, d *api.Disk, call func(d *api.Disk) error, why string) {
	t.Helper()
	d.Fail(rnd.IntN(40), math.MaxInt)
	if n := errno(call(d)); n != api.OK && n != api.ErrDisk {
		t.Fatalf("P11: %s: error %d", why, n)
	}
	d.Crash(uint(rnd.IntN(20)), uint(rnd.IntN(60)))
}

// A manifest cannot list more; here the moments are taken at random, for there are so many of them.
func TestP11CrashesOfTheMostSegments(t *testing.T) {
	rnd := rand.New(rand.NewPCG(11, 7))
	var parts []part
	for i := range api.MaxSegments {
		n := strconv.Itoa(i)
		parts = append(parts, part{i + 1, "a=" + n + " k" + n + "=1 -k" + strconv.Itoa(i/2), ""})
	}
	for range 60 {
		d := diskOf(t, parts...)
		pairs := pairsOf(t, open(t, d))
		victims := randomVictims(rnd, numbers(1, api.MaxSegments))
		d.Fail(rnd.IntN(5*api.MaxSegments), math.MaxInt)
		if n := errno(keydir.Merge(d, victims)); n != api.OK && n != api.ErrDisk {
			t.Fatalf("P11: Merge(%v): error %d", victims, n)
		}
		d.Crash(uint(rnd.IntN(100)), uint(rnd.IntN(3000)))
		wantUsable(t, rnd, d, pairs, "the most segments")
	}
}

// The last number is taken by a Merge with a crash in it only if it is listed then.
func TestP11CrashesAtTheLastNumber(t *testing.T) {
	rnd := rand.New(rand.NewPCG(11, 8))
	x := trial{"Merge", []part{{api.MaxID - 1, "a=1 a=2", ""}, {4, "b=1", ""}}, merging(4)}
	for after, done := 0, false; !done; after++ {
		for dir := range uint(8) {
			d := x.disk(t)
			pairs := pairsOf(t, open(t, d))
			d.Fail(after, math.MaxInt)
			done = x.call(d) == nil
			d.Crash(dir, 1)
			if slices.Contains(snapshotOf(t, d).manifest.IDs, api.MaxID) {
				wantPairs(t, d, pairs, x.where(after, dir))
				wantMergeError(t, d, []int{api.MaxID}, api.ErrIDs, "", "no number is left")
				continue
			}
			wantUsable(t, rnd, d, pairs, x.where(after, dir))
		}
	}
}
