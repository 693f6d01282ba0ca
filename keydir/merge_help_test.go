package keydir_test

import (
	"fmt"
	"maps"
	"regexp"
	"slices"
	"strings"
	"testing"

	"keydir/api"
	"keydir/keydir"
)

var hintNames = regexp.MustCompile(`^hint-[0-9]{6}$`)

// snapshot is a directory as it was at some moment.
type snapshot struct {
	manifest api.Manifest
	files    map[string]string
	pairs    string
}

func snapshotOf(t *testing.T, d *api.Disk) snapshot {
	t.Helper()
	s := snapshot{files: files(t, d), pairs: pairsOf(t, open(t, d))}
	var err error
	if s.manifest, err = keydir.ReadManifest([]byte(s.files["manifest"])); err != nil {
		t.Fatal(err)
	}
	return s
}

// records are those of a listed segment, and how many bytes they have.
func (s snapshot) records(id int) ([]api.Record, int) {
	b := []byte(s.files[segmentName(id)])
	var l []api.Record
	at := 0
	for {
		r, n, err := keydir.Decode(b[at:])
		if err != nil {
			return l, at
		}
		l = append(l, r)
		at += n
	}
}

func (s snapshot) has(id int, key string) bool {
	l, _ := s.records(id)
	return slices.ContainsFunc(l, func(r api.Record) bool { return r.Key == key })
}

// others are the listed segments that are none of these.
func (s snapshot) others(victims []int) []int {
	return slices.DeleteFunc(slices.Clone(s.manifest.IDs), func(id int) bool { return slices.Contains(victims, id) })
}

// needed are the files that the manifest tells of, and hints.
func (s snapshot) needed() map[string]string {
	m := maps.Clone(s.files)
	maps.DeleteFunc(m, func(name, _ string) bool {
		listed := slices.ContainsFunc(s.manifest.IDs, func(id int) bool { return name == segmentName(id) })
		return name != "manifest" && !listed && !hintNames.MatchString(name)
	})
	return m
}

// short tells records in the short form, sorted.
func short(l []api.Record) string {
	var out []string
	for _, r := range l {
		if r.Delete {
			out = append(out, "-"+r.Key)
		} else {
			out = append(out, r.Key+"="+r.Value)
		}
	}
	slices.Sort(out)
	return strings.Join(out, " ")
}

// expected are the records that new segments must have: those by which the map has its values, and deletions where a segment that stays has a record of the key ahead of them.
func expected(was snapshot, victims []int) []api.Record {
	last := map[string]api.Record{}
	in := map[string]int{}
	for _, id := range was.manifest.IDs {
		l, _ := was.records(id)
		for _, r := range l {
			last[r.Key], in[r.Key] = r, id
		}
	}
	var l []api.Record
	for key, r := range last {
		stays := func(id int) bool { return was.has(id, key) }
		if slices.Contains(victims, in[key]) && (!r.Delete || slices.ContainsFunc(was.others(victims), stays)) {
			l = append(l, r)
		}
	}
	return l
}

// wantMerged holds a directory against what it was ahead of a Merge that answered nil (P8), and answers the records of its new segments.
func wantMerged(t *testing.T, d *api.Disk, was snapshot, victims []int) []api.Record {
	t.Helper()
	is := snapshotOf(t, d)
	why := fmt.Sprintf("P8: %v of %v", victims, was.manifest.IDs)
	if is.pairs != was.pairs {
		t.Errorf("%s: the map is %q, and was %q", why, is.pairs, was.pairs)
	}
	if is.manifest.Generation != was.manifest.Generation+1 {
		t.Errorf("%s: the Generation is %d, and was %d", why, is.manifest.Generation, was.manifest.Generation)
	}
	fresh := wantSameOthers(t, was, is, victims, why)
	if needed := is.needed(); !maps.Equal(is.files, needed) {
		t.Errorf("%s: there is %q, and no more is needed than %q", why, is.files, needed)
	}
	l := wantOnlyRecords(t, was, is, victims, fresh, why)
	wantNoMoreThanNeeded(t, was, victims, l, why)
	d.Crash(0, 0)
	maps.DeleteFunc(is.files, func(name, _ string) bool { return hintNames.MatchString(name) })
	left := files(t, d)
	maps.DeleteFunc(left, func(name, _ string) bool { return hintNames.MatchString(name) })
	if !maps.Equal(left, is.files) {
		t.Errorf("%s: behind a crash there is %q, and was %q", why, left, is.files)
	}
	return l
}

// wantSameOthers asks for all segments that were no victims, and answers the numbers of the new ones.
func wantSameOthers(t *testing.T, was, is snapshot, victims []int, why string) []int {
	t.Helper()
	others := was.others(victims)
	fresh := is.others(others)
	if kept := is.others(fresh); !slices.Equal(kept, others) {
		t.Errorf("%s: the others are %v, and were %v", why, kept, others)
	}
	for _, id := range others {
		if name := segmentName(id); is.files[name] != was.files[name] {
			t.Errorf("%s: the bytes of %s are others", why, name)
		}
	}
	for _, id := range fresh {
		if id <= slices.Max(was.manifest.IDs) {
			t.Errorf("%s: a new segment has the number %d", why, id)
		}
	}
	return fresh
}

// wantOnlyRecords asks that new segments are made of records, and answers these.
func wantOnlyRecords(t *testing.T, was, is snapshot, victims, fresh []int, why string) []api.Record {
	t.Helper()
	var all []api.Record
	newBytes, oldBytes := 0, 0
	for _, id := range fresh {
		l, n := is.records(id)
		if n != len(is.files[segmentName(id)]) {
			t.Errorf("%s: a new segment has %d bytes, of which %d are records", why, len(is.files[segmentName(id)]), n)
		}
		newBytes += n
		all = append(all, l...)
	}
	for _, id := range victims {
		oldBytes += len(was.files[segmentName(id)])
	}
	if newBytes > oldBytes {
		t.Errorf("%s: the new segments have %d bytes, the victims' files had %d", why, newBytes, oldBytes)
	}
	return all
}

// wantNoMoreThanNeeded asks that a key is there once, and that a deletion has something to delete.
func wantNoMoreThanNeeded(t *testing.T, was snapshot, victims []int, l []api.Record, why string) {
	t.Helper()
	seen := map[string]bool{}
	for _, r := range l {
		if seen[r.Key] {
			t.Errorf("%s: the key %q is there twice", why, r.Key)
		}
		seen[r.Key] = true
	}
	if got, want := short(l), short(expected(was, victims)); got != want {
		t.Errorf("%s: the new segments have %q, want %q", why, got, want)
	}
	for _, r := range l {
		if !slices.Contains(expected(was, victims), r) {
			t.Errorf("%s: %+v was not there before", why, r)
		}
	}
}

func wantMergeError(t *testing.T, d *api.Disk, victims []int, want api.Errno, name, why string) {
	t.Helper()
	before := files(t, d)
	n, at := api.Tell(keydir.Merge(d, victims))
	if n != want || at != name {
		t.Errorf("P8: %s: Merge(%v) = error %d at %q, want %d at %q", why, victims, n, at, want, name)
	}
	wantSameFiles(t, d, before, "P8: "+why)
}

func mustMerge(t *testing.T, d *api.Disk, victims ...int) {
	t.Helper()
	if err := keydir.Merge(d, victims); err != nil {
		t.Fatalf("P8: Merge(%v): %v", victims, err)
	}
}
