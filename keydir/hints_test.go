package keydir_test

import (
	"strings"
	"testing"

	"keydir/api"
)

// hintsOf are bytes that a hint might have: none, some, such as other files have.
func hintsOf() []string {
	return []string{
		"", "x", "\x00", strings.Repeat("\xff", 5000),
		string(rawOfAll(recordsOf("a=9 z=9 -b"))),
		string(rawOfAll(recordsOf("a=1 b=2"))),
		string(rawManifest(9, 1, 2)),
		string(rawManifest(7, 0)),
	}
}

func TestP12NothingHangsOnHints(t *testing.T) {
	parts := []part{{1, "a=1 b=2", "tail"}, {3, "-a c=3 c=4", ""}, {2, "", ""}}
	want := answers(t, open(t, diskOf(t, parts...)))
	for _, b := range hintsOf() {
		for _, ids := range [][]int{{1}, {3}, {2}, {1, 2, 3}, {4, api.MaxID, 0}} {
			d := diskOf(t, parts...)
			for _, id := range ids {
				put(t, d, hintName(id), []byte(b))
			}
			s := open(t, d)
			if got := answers(t, s); got != want {
				t.Errorf("P12: with hints of %d bytes at %v: %s, want %s", len(b), ids, got, want)
			}
			for _, id := range ids {
				put(t, d, hintName(id), []byte("changed"))
			}
			if got := answers(t, s); got != want {
				t.Errorf("P12: with changed hints: %s, want %s", got, want)
			}
			for _, id := range ids {
				if d.Remove(hintName(id)) != nil {
					t.Fatal("the disk fails")
				}
			}
			if got := answers(t, s); got != want {
				t.Errorf("P12: without the hints that were there: %s, want %s", got, want)
			}
			if got := answers(t, open(t, d)); got != want {
				t.Errorf("P12: opened without the hints that were there: %s, want %s", got, want)
			}
		}
	}
}

// The hint of the segment's own records does not stand in for them.
func TestP12HintsStandInForNothing(t *testing.T) {
	for _, b := range hintsOf() {
		d := diskOf(t, part{1, "a=1 b=2", ""}, part{2, "", ""})
		put(t, d, hintName(1), []byte(b))
		s := open(t, d)
		d.Flip(segmentName(1), 8*18+40)
		if got := pairsOf(t, open(t, d)); got != "a=1" {
			t.Errorf("P12: a spoilt segment with a hint: %q", got)
		}
		wantGetError(t, s, "b", api.ErrRecord, segmentName(1), "a spoilt record with a hint")
		if d.Remove(segmentName(1)) != nil {
			t.Fatal("the disk fails")
		}
		wantOpenError(t, d, api.ErrSegment, segmentName(1), "a missing segment with a hint")
		put(t, d, "manifest", []byte("none"))
		wantOpenError(t, d, api.ErrManifest, "", "a spoilt manifest with a hint")
		if d.Remove("manifest") != nil {
			t.Fatal("the disk fails")
		}
		wantOpenError(t, d, api.ErrNothing, "", "no manifest, but a hint")
	}
}
