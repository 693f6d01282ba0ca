package keydir_test

import (
	"math/rand/v2"
	"slices"
	"strconv"
	"strings"
	"testing"

	"keydir/api"
	"keydir/keydir"
)

func wantOpenError(t *testing.T, d *api.Disk, want api.Errno, name, why string) {
	t.Helper()
	s, err := keydir.Open(d)
	n, at := api.Tell(err)
	if s != nil || n != want || at != name {
		t.Errorf("P5: Open of %s: %v, %v, want error %d alone, at %q", why, s, err, want, name)
	}
}

func TestP5TheMap(t *testing.T) {
	for _, x := range []struct {
		parts []part
		want  string
	}{
		{nil, ""},
		{[]part{{1, "", ""}}, ""},
		{[]part{{1, "", ""}, {2, "", ""}}, ""},
		{[]part{{1, "a=1 b=2", ""}, {2, "-a c=", ""}}, "b=2 c="},
		{[]part{{2, "a=1", ""}, {1, "a=2", ""}}, "a=2"},
		{[]part{{1, "a=2", ""}, {2, "a=1", ""}}, "a=1"},
		{[]part{{4, "a=1 b=22 a=3", ""}, {2, "-b c=1", "x"}, {7, "", ""}, {9, "a=333", ""}}, "a=333 c=1"},
		{[]part{{1, "a=1 -a a=2", ""}}, "a=2"},
		{[]part{{1, "a=1 -a", ""}}, ""},
		{[]part{{1, "-a", ""}}, ""},
		{[]part{{1, "-a a=1", ""}}, "a=1"},
		{[]part{{3, "a=1", ""}, {2, "-a", ""}, {1, "a=2", ""}}, "a=2"},
		{[]part{{1, "a=2", ""}, {2, "-a", ""}, {3, "", ""}}, ""},
		{[]part{{2, "a=1 -a", ""}, {9, "a=1 -a", ""}, {5, "a=3", ""}, {1, "-b", ""}}, "a=3"},
		{[]part{{1, "a=1 a=1 a=1", ""}}, "a=1"},
		{[]part{{1, "a=1 a=", ""}}, "a="},
		{[]part{{1, "", "all of these bytes are no record"}, {2, "a=1", ""}}, "a=1"},
		{[]part{{1, "a=1", "\x00"}, {api.MaxID, "b=2", strings.Repeat("\x00", 99)}}, "a=1 b=2"},
		{[]part{{1, "b=1 ab=2 a=3 B=4 aa=5 é=6 z=7", ""}}, "B=4 a=3 aa=5 ab=2 b=1 z=7 é=6"},
	} {
		if got := pairsOf(t, open(t, diskOf(t, x.parts...))); got != x.want {
			t.Errorf("P5: the map of %+v: %q, want %q", x.parts, got, x.want)
		}
	}
}

func TestP5SeqDoesNotMatter(t *testing.T) {
	for _, records := range []string{"1:a=1 2:a=2", "2:a=1 1:a=2", "5:a=1 5:a=2", "18446744073709551615:a=1 0:a=2", "9:-a 1:a=2", "7:a=1 8:-a 6:a=2"} {
		if got := pairsOf(t, open(t, diskOf(t, part{1, records, ""}))); got != "a=2" {
			t.Errorf("P5: the map of %q: %q", records, got)
		}
	}
}

func TestP5OnlyListedSegmentsCount(t *testing.T) {
	d := diskOf(t, part{10, "a=1", ""}, part{1, "b=1", ""})
	for _, name := range []string{"data-000002", "data-10", "data-1", "data-0000010", "DATA-000010", "data-000010 ", "hint-000010", "manifest2", ""} {
		put(t, d, name, rawOfAll(recordsOf("a=9 -b z=9")))
	}
	if got := pairsOf(t, open(t, d)); got != "a=1 b=1" {
		t.Errorf("P5: other files count: %q", got)
	}
}

func TestP5TheMostSegments(t *testing.T) {
	var parts []part
	for i := range api.MaxSegments {
		parts = append(parts, part{api.MaxID - 7*i, "a=" + strconv.Itoa(i) + " k" + strconv.Itoa(i) + "=1", ""})
	}
	s := open(t, diskOf(t, parts...))
	if v, ok, err := s.Get("a"); v != strconv.Itoa(api.MaxSegments-1) || !ok || err != nil {
		t.Errorf("P5: the last of %d segments does not count: %q, %v, %v", api.MaxSegments, v, ok, err)
	}
	if n := len(s.Keys()); n != api.MaxSegments+1 {
		t.Errorf("P5: %d keys of %d segments", n, api.MaxSegments)
	}
}

// A record that is cut off, or has a turned bit, and all behind it, is nothing; even if what follows would be a record.
func TestP5RecordsEndWhereNoneFollows(t *testing.T) {
	b := rawOfAll(recordsOf("a=1 b=22 c=333 d=4"))
	ends := []int{18, 37, 57, 75}
	told := func(n int) string {
		whole := 0
		for _, end := range ends {
			if end <= n {
				whole++
			}
		}
		return strings.Join(strings.Fields("a=1 b=22 c=333 d=4")[:whole], " ")
	}
	d := diskOf(t, part{1, "", ""})
	for n := range len(b) + 1 {
		put(t, d, segmentName(1), b[:n])
		if got := pairsOf(t, open(t, d)); got != told(n) {
			t.Errorf("P5: the first %d bytes: %q, want %q", n, got, told(n))
		}
	}
	for bit := range 8 * len(b) {
		put(t, d, segmentName(1), b)
		d.Flip(segmentName(1), uint(bit))
		if got := pairsOf(t, open(t, d)); got != told(bit/8) {
			t.Errorf("P5: bit %d is turned: %q, want %q", bit, got, told(bit/8))
		}
	}
}

func TestP5Nothing(t *testing.T) {
	wantOpenError(t, api.NewDisk(0), api.ErrNothing, "", "an empty disk")
	d := diskOf(t, part{1, "a=1", ""})
	if d.Rename("manifest", "Manifest") != nil {
		t.Fatal("the disk fails")
	}
	wantOpenError(t, d, api.ErrNothing, "", "a directory without manifest")
}

func TestP5NoManifest(t *testing.T) {
	good := rawOfManifest(api.Manifest{Generation: 7, IDs: []int{1}})
	for _, b := range [][]byte{nil, {}, {0}, good[:len(good)-1], append(slices.Clone(good), 0), make([]byte, 14), rawManifest(7, 2, 1, 1), rawManifest(7, 1, 0), rawManifest(7, 1, api.MaxID+1), []byte(strings.Repeat("x", 9999))} {
		d := diskOf(t, part{1, "a=1", ""})
		put(t, d, "manifest", b)
		wantOpenError(t, d, api.ErrManifest, "", "a manifest that is none")
		if d.Remove(segmentName(1)) != nil {
			t.Fatal("the disk fails")
		}
		wantOpenError(t, d, api.ErrManifest, "", "a manifest that is none, and no segments")
	}
	for bit := range 8 * len(good) {
		d := diskOf(t, part{1, "a=1", ""})
		d.Flip("manifest", uint(bit))
		wantOpenError(t, d, api.ErrManifest, "", "a manifest with a turned bit")
	}
}

func TestP5MissingSegments(t *testing.T) {
	parts := []part{{5, "a=1", ""}, {9, "b=1", ""}, {2, "", ""}, {7, "c=1", "x"}}
	for mask := 1; mask < 16; mask++ {
		d := diskOf(t, parts...)
		first := ""
		for i, p := range parts {
			if mask>>i&1 == 0 {
				continue
			}
			if first == "" {
				first = segmentName(p.id)
			}
			if d.Rename(segmentName(p.id), "x"+segmentName(p.id)) != nil {
				t.Fatal("the disk fails")
			}
		}
		wantOpenError(t, d, api.ErrSegment, first, "a directory without some segments")
	}
	d := api.NewDisk(plenty)
	put(t, d, "manifest", rawManifest(1, 2, api.MaxID, 1))
	wantOpenError(t, d, api.ErrSegment, "data-999999", "a directory without segments")
}

func TestP1OpenWhenTheDiskFails(t *testing.T) {
	parts := []part{{5, "a=1", ""}, {9, "b=1", ""}, {2, "", ""}}
	answered := 0
	for after := range 20 {
		d := diskOf(t, parts...)
		d.Fail(after, 1)
		s, err := keydir.Open(d)
		if err == nil {
			answered++
			d.Fail(0, 0)
			if got := pairsOf(t, s); got != "a=1 b=1" {
				t.Errorf("P1: Open at a disk that fails after %d operations: %q", after, got)
			}
		} else if s != nil || errno(err) != api.ErrDisk {
			t.Errorf("P1: Open at a disk that fails after %d operations: %v, %v", after, s, err)
		}
	}
	if answered == 0 || answered == 20 {
		t.Errorf("P1: Open answered %d times of 20", answered)
	}
}

// However the goroutines run, the answer is the same, and it is the one that a plain walk tells.
func TestP5P6P7AgreeWithAPlainWalk(t *testing.T) {
	rnd := rand.New(rand.NewPCG(5, 6))
	for range 300 {
		parts := randomParts(rnd)
		d := diskOf(t, parts...)
		want := walk(parts)
		for range 3 {
			s := open(t, d)
			if got := pairsOf(t, s); got != want.pairs {
				t.Fatalf("P5: the map of %+v: %q, want %q", parts, got, want.pairs)
			}
			if got := s.Stats(); !slices.Equal(got, want.stats) {
				t.Fatalf("P7: Stats of %+v: %+v, want %+v", parts, got, want.stats)
			}
		}
	}
}

func randomParts(rnd *rand.Rand) []part {
	var parts []part
	for _, id := range rnd.Perm(1 + rnd.IntN(12)) {
		var l []string
		for range rnd.IntN(9) {
			key := string(rune('a' + rnd.IntN(6)))
			seq := strconv.Itoa(rnd.IntN(9)) + ":"
			if rnd.IntN(3) == 0 {
				l = append(l, seq+"-"+key)
			} else {
				l = append(l, seq+key+"="+strings.Repeat("v", rnd.IntN(5)))
			}
		}
		parts = append(parts, part{id + 1, strings.Join(l, " "), strings.Repeat("\x01", rnd.IntN(40))})
	}
	return parts
}

// told is what parts tell: the map in the short form, and what each segment has.
type told struct {
	pairs string
	stats []api.Stat
}

// walk asks of each record by itself whether one of its key follows.
func walk(parts []part) told {
	var all []api.Record
	for _, p := range parts {
		all = append(all, recordsOf(p.records)...)
	}
	var out told
	var pairs []string
	for _, p := range parts {
		s := api.Stat{ID: p.id}
		for _, r := range recordsOf(p.records) {
			all = all[1:]
			s.Records++
			s.Bytes += 16 + len(r.Key) + len(r.Value)
			if r.Delete || slices.ContainsFunc(all, func(later api.Record) bool { return later.Key == r.Key }) {
				s.DeadRecords++
				s.DeadBytes += 16 + len(r.Key) + len(r.Value)
			} else {
				pairs = append(pairs, r.Key+"="+r.Value)
			}
		}
		out.stats = append(out.stats, s)
	}
	slices.Sort(pairs)
	out.pairs = strings.Join(pairs, " ")
	return out
}
