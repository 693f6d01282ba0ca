package keydir_test

import (
	"maps"
	"slices"
	"testing"

	"keydir/api"
	"keydir/keydir"
)

func mustClean(t *testing.T, d *api.Disk) {
	t.Helper()
	if err := keydir.Clean(d); err != nil {
		t.Fatalf("P10: Clean: %v", err)
	}
}

// wantFiles asks for just these files.
func wantFiles(t *testing.T, d *api.Disk, want map[string]string, why string) {
	t.Helper()
	if left := files(t, d); !maps.Equal(left, want) {
		t.Errorf("P10: %s: there is %q, want %q", why, left, want)
	}
}

func wantCleanError(t *testing.T, d *api.Disk, want api.Errno, why string) {
	t.Helper()
	before := files(t, d)
	if n, at := api.Tell(keydir.Clean(d)); n != want || at != "" {
		t.Errorf("P10: %s: Clean = error %d at %q, want %d", why, n, at, want)
	}
	wantSameFiles(t, d, before, "P10: "+why)
}

func TestP10Clean(t *testing.T) {
	for _, parts := range [][]part{nil, {{1, "", ""}}, {{5, "a=1 a=2", "tail"}, {1, "-b", ""}, {api.MaxID, "b=1", ""}}} {
		d := diskOf(t, parts...)
		put(t, d, hintName(0), []byte("x"))
		put(t, d, hintName(api.MaxID), nil)
		want := files(t, d)
		told := answers(t, open(t, d))
		for _, name := range append(strays(5), segmentName(2), segmentName(api.MaxID-1)) {
			put(t, d, name, rawOfAll(recordsOf("a=9")))
		}
		for range 2 {
			mustClean(t, d)
			wantFiles(t, d, want, "behind Clean")
			d.Crash(0, 0)
			wantFiles(t, d, want, "behind a crash")
		}
		if got := answers(t, open(t, d)); got != told {
			t.Errorf("P10: the directory tells %s, and told %s", got, told)
		}
	}
}

func TestP10Refusals(t *testing.T) {
	wantCleanError(t, api.NewDisk(0), api.ErrNothing, "an empty disk")
	d := diskOf(t, part{1, "a=1", ""})
	for _, name := range append(strays(1), hintName(1)) {
		put(t, d, name, []byte("a stray"))
	}
	for _, b := range []string{"", "none", string(rawManifest(7, 1, 0)), string(rawManifest(7, 2, 1, 1)), string(rawManifest(7, 1, 1)) + "x"} {
		put(t, d, "manifest", []byte(b))
		wantCleanError(t, d, api.ErrManifest, "a manifest that is none")
	}
	if d.Remove("manifest") != nil {
		t.Fatal("the disk fails")
	}
	wantCleanError(t, d, api.ErrNothing, "no manifest")
}

func TestP10RefusalsMakeNothingSafe(t *testing.T) {
	for _, x := range []struct {
		name string
		want api.Errno
	}{{"other", api.ErrNothing}, {"manifest", api.ErrManifest}} {
		d := api.NewDisk(plenty)
		if d.Create(x.name) != nil {
			t.Fatal("the disk fails")
		}
		wantCleanError(t, d, x.want, "a directory that is not safe")
		d.Crash(0, 0)
		wantFiles(t, d, nil, "a refusal made something safe")
	}
}

// A missing segment is no error of Clean's.
func TestP10MissingSegments(t *testing.T) {
	for mask := range 8 {
		d := diskOf(t, part{5, "a=1", ""}, part{2, "b=1", ""}, part{9, "c=1", ""})
		for i, id := range []int{5, 2, 9} {
			if mask>>i&1 == 1 && d.Remove(segmentName(id)) != nil {
				t.Fatal("the disk fails")
			}
		}
		want := files(t, d)
		put(t, d, "other", []byte("x"))
		mustClean(t, d)
		wantFiles(t, d, want, "with a segment that is missing")
		d.Crash(0, 0)
		wantFiles(t, d, want, "with a segment that is missing, behind a crash")
	}
}

// Nothing of the directory was safe, neither what stays nor what is taken away.
func TestP10MakesAllOfItSafe(t *testing.T) {
	d := api.NewDisk(plenty)
	put(t, d, "gone", []byte("x"))
	put(t, d, segmentName(8), []byte("x"))
	if d.Remove("gone") != nil {
		t.Fatal("the disk fails")
	}
	want := map[string]string{segmentName(1): string(rawOfAll(recordsOf("a=1"))), segmentName(3): "", "manifest": string(rawManifest(5, 2, 3, 1))}
	for name, b := range want {
		if d.Create(name) != nil || d.Append(name, []byte(b)) != nil {
			t.Fatal("the disk fails")
		}
	}
	if d.Create("other") != nil {
		t.Fatal("the disk fails")
	}
	mustClean(t, d)
	wantFiles(t, d, want, "behind Clean")
	d.Crash(0, 0)
	wantFiles(t, d, want, "behind a crash")
}

// There is nothing to remove, but what was removed ahead of the call must not come back.
func TestP10WhatWasRemovedStaysAway(t *testing.T) {
	d := diskOf(t, part{1, "a=1", ""})
	want := files(t, d)
	put(t, d, "other", []byte("x"))
	if d.Remove("other") != nil {
		t.Fatal("the disk fails")
	}
	mustClean(t, d)
	d.Crash(0, 0)
	wantFiles(t, d, want, "behind a crash")
}

func TestP12CleanDoesNotHangOnHints(t *testing.T) {
	for _, b := range hintsOf() {
		d := diskOf(t, part{1, "a=1", ""}, part{2, "a=2", ""})
		want := files(t, d)
		for _, id := range []int{0, 1, 2, 3, api.MaxID} {
			put(t, d, hintName(id), []byte(b))
			want[hintName(id)] = b
		}
		put(t, d, "other", []byte(b))
		mustClean(t, d)
		wantFiles(t, d, want, "with hints")
		if got := pairsOf(t, open(t, d)); got != "a=2" {
			t.Errorf("P12: with hints the map is %q", got)
		}
	}
	d := api.NewDisk(plenty)
	put(t, d, hintName(1), rawManifest(7, 0))
	if err := keydir.Clean(d); errno(err) != api.ErrNothing || !slices.Equal(d.List(), []string{hintName(1)}) {
		t.Errorf("P12: a hint stands in for a manifest: %v", err)
	}
}
