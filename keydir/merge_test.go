package keydir_test

import (
	"math"
	"math/rand/v2"
	"slices"
	"strconv"
	"strings"
	"testing"

	"keydir/api"
	"keydir/keydir"
)

// strays are names of files that belong to nothing, where number top is the greatest that is listed.
func strays(top int) []string {
	return []string{
		"", "other", "manifest.next", "manifest.tmp", "manifest.new", "Manifest", "manifest ",
		segmentName(top + 1), segmentName(top + 2), "data-000000", "data-1", "data-0000001", "data-00000x",
		"hint-1", "hint-0000001", "hint-00000x", "hint-x00000", "hint--00001", "hint-+00001", "Hint-000001", "xhint-000001", "hint-٠٠٠", "hint-", "hint",
	}
}

func TestP8Examples(t *testing.T) {
	two := []part{{1, "a=1", ""}, {2, "-a b=1", ""}}
	three := []part{{3, "a=1 b=1", ""}, {5, "b=2 c=2", ""}, {4, "c=3 d=3", ""}}
	for _, x := range []struct {
		parts   []part
		victims []int
		fresh   string
	}{
		{two, []int{2}, "-a b=1"},
		{two, []int{1}, ""},
		{two, []int{1, 2}, "b=1"},
		{two, []int{2, 1}, "b=1"},
		{three, []int{3, 4}, "a=1 c=3 d=3"},
		{three, []int{4, 3}, "a=1 c=3 d=3"},
		{three, []int{3}, "a=1"},
		{three, []int{5}, "b=2"},
		{three, []int{4}, "c=3 d=3"},
		{three, []int{3, 5}, "a=1 b=2"},
		{three, []int{5, 3, 4}, "a=1 b=2 c=3 d=3"},
	} {
		d := diskOf(t, x.parts...)
		was := snapshotOf(t, d)
		mustMerge(t, d, x.victims...)
		if got := short(wantMerged(t, d, was, x.victims)); got != x.fresh {
			t.Errorf("P8: %v of %v: the new segments have %q, want %q", x.victims, x.parts, got, x.fresh)
		}
	}
}

func TestP8WhatIsWrittenAnew(t *testing.T) {
	for _, x := range []struct {
		parts   []part
		victims []int
		fresh   string
	}{
		{[]part{{1, "", ""}}, []int{1}, ""},
		{[]part{{1, "", "bytes that are no record"}}, []int{1}, ""},
		{[]part{{1, "a=1", "tail"}}, []int{1}, "a=1"},
		{[]part{{1, "a=1 a=1 a=1", ""}}, []int{1}, "a=1"},
		{[]part{{1, "a=1 a=", ""}}, []int{1}, "a="},
		{[]part{{1, "a=1 -a", ""}}, []int{1}, ""},
		{[]part{{1, "-a a=1", ""}}, []int{1}, "a=1"},
		// A deletion behind one of a segment that stays, and one with nothing but later records of its key.
		{[]part{{1, "a=1", ""}, {2, "b=1", ""}, {3, "-a", ""}}, []int{3}, "-a"},
		{[]part{{1, "a=1", ""}, {2, "b=1", ""}, {3, "-a", ""}}, []int{1, 3}, ""},
		{[]part{{1, "a=1", ""}, {2, "a=2", ""}, {3, "-a", ""}}, []int{1, 3}, "-a"},
		{[]part{{1, "-a", ""}, {2, "a=2", ""}}, []int{1}, ""},
		{[]part{{1, "-a", ""}, {2, "a=2 -a", ""}}, []int{1}, ""},
		{[]part{{1, "a=1 -a b=2", ""}, {2, "c=1", ""}}, []int{1}, "b=2"},
		{[]part{{1, "a=1", ""}, {2, "-a", ""}, {3, "a=3", ""}}, []int{2}, ""},
		{[]part{{1, "a=1", ""}, {2, "-a", ""}, {3, "a=3", ""}}, []int{2, 3}, "a=3"},
		{[]part{{1, "a=1", ""}, {2, "-a", ""}, {3, "-a", ""}}, []int{2, 3}, "-a"},
		// What the tail of a file hides does not count.
		{[]part{{1, "a=1", "x" + string(rawOfAll(recordsOf("a=2 b=2")))}, {2, "-a", ""}}, []int{1, 2}, ""},
		{[]part{{1, "", "x" + string(rawOfAll(recordsOf("a=2")))}, {2, "-a", ""}}, []int{2}, ""},
		// The manifest's order counts, not the numbers'.
		{[]part{{9, "a=1", ""}, {2, "a=2", ""}, {5, "a=3", ""}}, []int{2, 9}, ""},
		{[]part{{9, "a=1", ""}, {2, "a=2", ""}, {5, "b=3", ""}}, []int{9, 2}, "a=2"},
		{[]part{{9, "a=1 c=1", ""}, {2, "a=2", ""}, {5, "b=3", ""}, {1, "c=2", ""}}, []int{9, 1, 5}, "b=3 c=2"},
	} {
		d := diskOf(t, x.parts...)
		was := snapshotOf(t, d)
		mustMerge(t, d, x.victims...)
		if got := short(wantMerged(t, d, was, x.victims)); got != x.fresh {
			t.Errorf("P8: %v of %v: the new segments have %q, want %q", x.victims, x.parts, got, x.fresh)
		}
	}
}

// randomVictims chooses some of a directory's segments, in any order.
func randomVictims(rnd *rand.Rand, ids []int) []int {
	var victims []int
	for _, i := range rnd.Perm(len(ids))[:1+rnd.IntN(len(ids))] {
		victims = append(victims, ids[i])
	}
	return victims
}

func TestP8AnyDirectory(t *testing.T) {
	rnd := rand.New(rand.NewPCG(8, 9))
	for range 1500 {
		parts := randomParts(rnd)
		d := diskOf(t, parts...)
		names := strays(len(parts))
		for range rnd.IntN(4) {
			put(t, d, names[rnd.IntN(len(names))], []byte("stray"))
		}
		put(t, d, hintName(rnd.IntN(9)), []byte("hint"))
		for range 3 {
			was := snapshotOf(t, d)
			if len(was.manifest.IDs) == 0 {
				break
			}
			victims := randomVictims(rnd, was.manifest.IDs)
			mustMerge(t, d, victims...)
			wantMerged(t, d, was, victims)
		}
	}
}

// Nothing of the directory was safe: what Merge answers nil of is safe all the same.
func TestP8MakesAllOfItSafe(t *testing.T) {
	build := func() *api.Disk {
		d := api.NewDisk(plenty)
		for name, b := range map[string][]byte{
			segmentName(1): rawOfAll(recordsOf("a=1 b=1")),
			segmentName(3): rawOfAll(recordsOf("b=2 -a c=1 c=2")),
			segmentName(2): rawOfAll(recordsOf("d=1")),
			"other":        []byte("x"),
			"manifest":     rawManifest(5, 3, 1, 3, 2),
		} {
			if d.Create(name) != nil || d.Append(name, b) != nil {
				t.Fatal("the disk fails")
			}
		}
		return d
	}
	for _, victims := range [][]int{{1}, {3}, {2}, {1, 3}, {3, 2}, {1, 2}, {1, 2, 3}} {
		d := build()
		was := snapshotOf(t, d)
		mustMerge(t, d, victims...)
		wantMerged(t, d, was, victims)
	}
}

// A name that was taken away, but not yet for good, does not come back either.
func TestP8WhatWasRemovedStaysAway(t *testing.T) {
	d := diskOf(t, part{1, "a=1 a=2", ""}, part{2, "b=1", ""})
	put(t, d, "other", []byte("x"))
	if d.Remove("other") != nil {
		t.Fatal("the disk fails")
	}
	was := snapshotOf(t, d)
	mustMerge(t, d, 1)
	wantMerged(t, d, was, []int{1})
}

func TestP8OtherFilesAreRemoved(t *testing.T) {
	for _, victims := range [][]int{{1}, {4}, {1, 4}} {
		d := diskOf(t, part{1, "a=1 a=2", ""}, part{4, "b=1 -b", ""})
		for _, name := range strays(4) {
			put(t, d, name, []byte("a stray"))
		}
		was := snapshotOf(t, d)
		mustMerge(t, d, victims...)
		wantMerged(t, d, was, victims)
	}
}

func TestP8TheGenerationWrapsRound(t *testing.T) {
	d := diskOf(t, part{1, "a=1 a=2", ""}, part{2, "b=1", ""})
	put(t, d, "manifest", rawManifest(math.MaxUint64, 2, 1, 2))
	was := snapshotOf(t, d)
	mustMerge(t, d, 1)
	wantMerged(t, d, was, []int{1})
	if got := snapshotOf(t, d).manifest.Generation; got != 0 {
		t.Errorf("P8: behind the greatest Generation comes %d", got)
	}
}

func TestP8TheLastNumber(t *testing.T) {
	d := diskOf(t, part{api.MaxID - 1, "a=1", ""}, part{1, "b=1", ""}, part{7, "c=1 -a", ""})
	was := snapshotOf(t, d)
	mustMerge(t, d, 1, 7)
	wantMerged(t, d, was, []int{1, 7})
	if ids := snapshotOf(t, d).manifest.IDs; !slices.Equal(ids, []int{api.MaxID - 1, api.MaxID}) {
		t.Errorf("P8: the segments are %v", ids)
	}
	wantMergeError(t, d, []int{api.MaxID}, api.ErrIDs, "", "no number is left")
	wantMergeError(t, d, []int{api.MaxID - 1, api.MaxID}, api.ErrIDs, "", "no number is left")
}

func TestP8NoNumberIsLeft(t *testing.T) {
	for _, x := range []struct {
		parts   []part
		victims []int
	}{
		{[]part{{api.MaxID, "a=1 a=2", ""}}, []int{api.MaxID}},
		{[]part{{api.MaxID, "a=1", ""}, {3, "b=1", ""}}, []int{3}},
		{[]part{{3, "b=1", ""}, {api.MaxID, "", ""}}, []int{3, api.MaxID}},
		{[]part{{3, "b=1", ""}, {api.MaxID, "-b", ""}}, []int{api.MaxID}},
	} {
		d := diskOf(t, x.parts...)
		put(t, d, "other", []byte("x"))
		wantMergeError(t, d, x.victims, api.ErrIDs, "", "no number is left")
	}
}

// Where nothing is left to be written, no number is wanted.
func TestP8NoNumberIsWanted(t *testing.T) {
	for _, x := range []struct {
		parts   []part
		victims []int
	}{
		{[]part{{api.MaxID, "a=1 -a", ""}}, []int{api.MaxID}},
		{[]part{{api.MaxID, "a=1", ""}, {3, "a=2", ""}}, []int{api.MaxID}},
		{[]part{{3, "-b", ""}, {api.MaxID, "b=1", ""}}, []int{3}},
	} {
		d := diskOf(t, x.parts...)
		was := snapshotOf(t, d)
		mustMerge(t, d, x.victims...)
		wantMerged(t, d, was, x.victims)
	}
}

// A file with the greatest number that the manifest does not list takes no number away.
func TestP8OnlyListedNumbersCount(t *testing.T) {
	d := diskOf(t, part{1, "a=1 a=2", ""})
	put(t, d, segmentName(api.MaxID), rawOfAll(recordsOf("a=9")))
	was := snapshotOf(t, d)
	mustMerge(t, d, 1)
	wantMerged(t, d, was, []int{1})
}

func TestP8TheMostSegments(t *testing.T) {
	for _, n := range []int{1, 2, 30, api.MaxSegments} {
		var parts []part
		for i := range api.MaxSegments {
			parts = append(parts, part{i + 1, "a=" + strconv.Itoa(i) + " k" + strconv.Itoa(i) + "=1 -k" + strconv.Itoa(i/2), ""})
		}
		d := diskOf(t, parts...)
		was := snapshotOf(t, d)
		victims := rand.New(rand.NewPCG(1, 2)).Perm(api.MaxSegments)[:n]
		for i := range victims {
			victims[i]++
		}
		mustMerge(t, d, victims...)
		wantMerged(t, d, was, victims)
	}
}

func TestP8Refusals(t *testing.T) {
	wantMergeError(t, api.NewDisk(plenty), nil, api.ErrNothing, "", "an empty disk")
	d := diskOf(t, part{5, "a=1 a=2", ""}, part{2, "b=1 -a", ""}, part{7, "", "x"})
	for _, name := range append(strays(7), hintName(1)) {
		put(t, d, name, []byte("a stray"))
	}
	for _, victims := range [][]int{nil, {}, {3}, {8}, {0}, {-1}, {-5}, {math.MaxInt}, {math.MinInt}, {5 + 1<<32}, {5, 5}, {5, 2, 5}, {2, 7, 5, 7}, {5, 2, 7, 9}, {9, 5}, {api.MaxID + 1}, make([]int, 5000), slices.Repeat([]int{5}, 5000)} {
		wantMergeError(t, d, victims, api.ErrVictims, "", "victims that are none")
	}
	if d.Remove(segmentName(2)) != nil {
		t.Fatal("the disk fails")
	}
	for _, victims := range [][]int{nil, {5}, {2}, {9}, {5, 5}} {
		wantMergeError(t, d, victims, api.ErrSegment, segmentName(2), "a segment is missing")
	}
	put(t, d, "manifest", []byte("none"))
	for _, victims := range [][]int{nil, {5}, {9}} {
		wantMergeError(t, d, victims, api.ErrManifest, "", "a manifest that is none")
	}
	if d.Remove("manifest") != nil {
		t.Fatal("the disk fails")
	}
	for _, victims := range [][]int{nil, {5}, {9}} {
		wantMergeError(t, d, victims, api.ErrNothing, "", "no manifest")
	}
	wantMergeError(t, diskOf(t), nil, api.ErrVictims, "", "a directory without segments")
	wantMergeError(t, diskOf(t), []int{1}, api.ErrVictims, "", "a directory without segments")
	wantMergeError(t, diskOf(t, part{api.MaxID, "a=1", ""}), []int{api.MaxID, 1}, api.ErrVictims, "", "victims that are none, and no number is left")
}

// What is not safe is not made safe by a refusal: a crash behind it must take the same away.
func TestP8RefusalsMakeNothingSafe(t *testing.T) {
	for _, x := range []struct {
		victims []int
		want    api.Errno
	}{{nil, api.ErrVictims}, {[]int{3}, api.ErrVictims}, {[]int{api.MaxID}, api.ErrIDs}} {
		build := func() *api.Disk {
			d := diskOf(t, part{api.MaxID, "a=1", ""})
			if d.Create("other") != nil || d.Append(segmentName(api.MaxID), rawOfAll(recordsOf("d=4"))) != nil {
				t.Fatal("the disk fails")
			}
			return d
		}
		d, untouched := build(), build()
		wantMergeError(t, d, x.victims, x.want, "", "a directory that is not safe")
		d.Crash(0, 0)
		untouched.Crash(0, 0)
		wantSameFiles(t, d, files(t, untouched), "P8: a refusal made something safe")
	}
}

func TestP2MergeLeavesItsVictims(t *testing.T) {
	whole := []int{1, 99, 4, 2, 99, 99}
	for _, errs := range []bool{false, true} {
		d := diskOf(t, part{2, "a=1", ""}, part{9, "b=1", ""}, part{4, "a=2", ""})
		victims := whole[2:4:6]
		if errs {
			victims = whole[1:3:6]
		}
		if err := keydir.Merge(d, victims); (err != nil) != errs {
			t.Errorf("P8: Merge(%v): %v", victims, err)
		}
		if !slices.Equal(whole, []int{1, 99, 4, 2, 99, 99}) {
			t.Errorf("P2: Merge wrote into its victims: %v", whole)
		}
	}
}

// A store that was opened ahead of a Merge tells what it can: its records, where they still are.
func TestP8AStoreFromBefore(t *testing.T) {
	d := diskOf(t, part{1, "a=1", ""}, part{2, "b=1 b=2", ""})
	s := open(t, d)
	mustMerge(t, d, 2)
	wantGet(t, s, "a", "1", true)
	wantGetError(t, s, "b", api.ErrRecord, segmentName(2), "a segment that was merged")
}

func TestP8AnyBytes(t *testing.T) {
	d := diskOf(t, part{1, "", ""}, part{2, "", ""})
	l := append(goodRecords(), api.Record{Key: "\x00", Value: "\x00\xff"}, api.Record{Seq: math.MaxUint64, Key: strings.Repeat("\xff", api.MaxKey), Value: strings.Repeat("\xff", api.MaxValue)})
	put(t, d, segmentName(1), append(rawOfAll(l[:len(l)/2]), strings.Repeat("\x00", 16)...))
	put(t, d, segmentName(2), rawOfAll(l[len(l)/2:]))
	for range 3 {
		was := snapshotOf(t, d)
		mustMerge(t, d, was.manifest.IDs...)
		wantMerged(t, d, was, was.manifest.IDs)
	}
}

// segmentBytes are the bytes of all segments, one behind the other.
func segmentBytes(s snapshot) string {
	var b strings.Builder
	for _, id := range s.manifest.IDs {
		b.WriteString(s.files[segmentName(id)])
	}
	return b.String()
}

func TestP9MergingAllAgain(t *testing.T) {
	rnd := rand.New(rand.NewPCG(9, 10))
	for range 300 {
		d := diskOf(t, randomParts(rnd)...)
		if rnd.IntN(2) == 0 {
			first := snapshotOf(t, d)
			mustMerge(t, d, first.manifest.IDs[:1+rnd.IntN(len(first.manifest.IDs))]...)
		}
		ids := snapshotOf(t, d).manifest.IDs
		if len(ids) == 0 {
			continue
		}
		mustMerge(t, d, ids...)
		once := snapshotOf(t, d)
		if len(once.manifest.IDs) == 0 {
			wantMergeError(t, d, nil, api.ErrVictims, "", "nothing is left to be merged")
			continue
		}
		again := slices.Clone(once.manifest.IDs)
		rnd.Shuffle(len(again), func(i, j int) { again[i], again[j] = again[j], again[i] })
		mustMerge(t, d, again...)
		if a, b := segmentBytes(once), segmentBytes(snapshotOf(t, d)); a != b {
			t.Fatalf("P9: %q, and again %q", a, b)
		}
	}
}

func TestP12MergeDoesNotHangOnHints(t *testing.T) {
	parts := []part{{1, "a=1 b=2", "tail"}, {3, "-a c=3 c=4", ""}, {2, "", ""}}
	for _, victims := range [][]int{{1}, {3}, {1, 2, 3}, {2, 2}} {
		plainly := diskOf(t, parts...)
		want := keydir.Merge(plainly, victims)
		for _, b := range hintsOf() {
			d := diskOf(t, parts...)
			for _, id := range []int{0, 1, 2, 3, 4, api.MaxID} {
				put(t, d, hintName(id), []byte(b))
			}
			if got := keydir.Merge(d, victims); errno(got) != errno(want) {
				t.Errorf("P12: Merge(%v): %v with hints, %v without", victims, got, want)
			}
			was, is := snapshotOf(t, plainly), snapshotOf(t, d)
			for name := range is.files {
				if hintNames.MatchString(name) {
					delete(is.files, name)
				}
			}
			wantSameFiles(t, plainly, is.files, "P12: Merge without hints")
			if was.pairs != is.pairs {
				t.Errorf("P12: the map is %q with hints, %q without", is.pairs, was.pairs)
			}
		}
	}
}
