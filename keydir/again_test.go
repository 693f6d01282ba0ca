package keydir_test

import (
	"math/rand/v2"
	"slices"
	"strings"
	"testing"

	"keydir/api"
	"keydir/keydir"
)

// history is one directory to which things happen again and again.
type history struct {
	t     *testing.T
	rnd   *rand.Rand
	disk  *api.Disk
	room  int
	story []string
}

// TestP11AgainAndAgain lets calls fail, be refused, crash and be done, each over what all those ahead left behind.
func TestP11AgainAndAgain(t *testing.T) {
	for seed := range uint64(60) {
		rnd := rand.New(rand.NewPCG(11, 100+seed))
		h := history{t: t, rnd: rnd, room: 20000}
		h.disk = api.NewDisk(h.room)
		for name, b := range files(t, diskOf(t, randomParts(rnd)...)) {
			put(t, h.disk, name, []byte(b))
		}
		for range 40 {
			h.grow()
			h.happen()
			if t.Failed() {
				t.Fatalf("P11: that was: %s", strings.Join(h.story, ", "))
			}
		}
		wantUsable(t, rnd, h.disk, pairsOf(t, open(t, h.disk)), strings.Join(h.story, ", "))
	}
}

func (h *history) tell(what string) string {
	h.story = append(h.story, what)
	return strings.Join(h.story, ", ")
}

// happen makes a call to which something happens, and asks for the map that was there before.
func (h *history) happen() {
	h.t.Helper()
	was := snapshotOf(h.t, h.disk)
	name, call, victims := "Clean", keydir.Clean, []int(nil)
	if len(was.manifest.IDs) > 0 && h.rnd.IntN(4) > 0 {
		victims = randomVictims(h.rnd, was.manifest.IDs)
		name, call = "Merge", merging(victims...)
	}
	switch h.rnd.IntN(5) {
	case 0:
		h.fail(call, h.tell(name+" with failures"))
	case 1:
		crashWithin(h.t, h.rnd, h.disk, call, h.tell(name+" with a crash"))
	case 2:
		h.refuse(call, h.tell(name+" without room"))
	case 3:
		h.tell(name + ", and a crash")
		if err := call(h.disk); err != nil {
			h.t.Fatalf("P11: %v", err)
		}
		h.disk.Crash(uint(h.rnd.IntN(20)), uint(h.rnd.IntN(60)))
	case 4:
		h.done(was, victims, h.tell(name))
	}
	wantPairs(h.t, h.disk, was.pairs, strings.Join(h.story, ", "))
	wantUsable(h.t, h.rnd, h.disk.Copy(), was.pairs, strings.Join(h.story, ", "))
}

func (h *history) fail(call func(d *api.Disk) error, why string) {
	h.t.Helper()
	metFailures(h.t, h.disk, call, h.rnd.IntN(50), 1+h.rnd.IntN(4), why)
	if h.rnd.IntN(2) == 0 {
		h.disk.Crash(uint(h.rnd.IntN(20)), uint(h.rnd.IntN(60)))
	}
}

// refuse leaves so little room to a call that it may be refused.
func (h *history) refuse(call func(d *api.Disk) error, why string) {
	h.t.Helper()
	left := h.rnd.IntN(200)
	put(h.t, h.disk, ballast, make([]byte, h.room-used(h.t, h.disk)-left))
	if n := errno(call(h.disk)); n != api.OK && n != api.ErrRoom {
		h.t.Fatalf("P11: %s: error %d", why, n)
	}
	dropBallast(h.t, h.disk)
}

// done makes a call of which nothing fails, and asks for all that it promises.
func (h *history) done(was snapshot, victims []int, why string) {
	h.t.Helper()
	if len(victims) == 0 {
		wantCleaned(h.t, h.disk, why)
		return
	}
	mustMerge(h.t, h.disk, victims...)
	wantMerged(h.t, h.disk, was, victims)
}

// grow lets the owner add a segment now and then, so that there is something to merge. Names are safe then; else the next call finds them as the last one left them.
func (h *history) grow() {
	h.t.Helper()
	m := snapshotOf(h.t, h.disk).manifest
	if len(m.IDs) > 8 || h.rnd.IntN(2) == 0 {
		return
	}
	p := randomParts(h.rnd)[0]
	id := 1
	if len(m.IDs) > 0 {
		id += slices.Max(m.IDs)
	}
	m.IDs = slices.Insert(m.IDs, h.rnd.IntN(len(m.IDs)+1), id)
	put(h.t, h.disk, segmentName(id), append(rawOfAll(recordsOf(p.records)), p.tail...))
	put(h.t, h.disk, "manifest", rawOfManifest(m))
	h.tell("a new segment")
}
