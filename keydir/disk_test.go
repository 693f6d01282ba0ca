package keydir_test

import (
	"fmt"
	"maps"
	"math"
	"slices"
	"strconv"
	"strings"
	"testing"

	"keydir/api"
	"keydir/keydir"
	"keydir/plain"
)

const plenty = 1 << 30

// part is a segment: its number, its records in the document's short form, and the bytes behind them.
type part struct {
	id      int
	records string
	tail    string
}

// recordsOf reads the short form: key=value or -key, with blanks between; a number and a colon ahead of one is its Seq.
func recordsOf(s string) []api.Record {
	var l []api.Record
	for _, w := range strings.Fields(s) {
		var r api.Record
		if n, rest, ok := strings.Cut(w, ":"); ok {
			r.Seq, _ = strconv.ParseUint(n, 10, 64)
			w = rest
		}
		if key, ok := strings.CutPrefix(w, "-"); ok {
			r.Key, r.Delete = key, true
		} else {
			r.Key, r.Value, _ = strings.Cut(w, "=")
		}
		l = append(l, r)
	}
	return l
}

func rawOfAll(l []api.Record) []byte {
	var b []byte
	for _, r := range l {
		b = append(b, rawOf(r)...)
	}
	return b
}

func segmentName(id int) string { return fmt.Sprintf("data-%06d", id) }

func hintName(id int) string { return fmt.Sprintf("hint-%06d", id) }

// put makes a file, or makes it anew, and makes it safe.
func put(t *testing.T, d *api.Disk, name string, b []byte) {
	t.Helper()
	if slices.Contains(d.List(), name) && d.Remove(name) != nil {
		t.Fatal("the disk fails")
	}
	if d.Create(name) != nil || d.Append(name, b) != nil || d.Sync(name) != nil || d.SyncDir() != nil {
		t.Fatal("the disk fails")
	}
}

// diskOf makes a directory of segments, all of them listed, in this order.
func diskOf(t *testing.T, parts ...part) *api.Disk {
	t.Helper()
	d := api.NewDisk(plenty)
	var ids []int
	for _, p := range parts {
		ids = append(ids, p.id)
		put(t, d, segmentName(p.id), append(rawOfAll(recordsOf(p.records)), p.tail...))
	}
	put(t, d, "manifest", rawOfManifest(api.Manifest{Generation: 7, IDs: ids}))
	return d
}

func open(t *testing.T, d *api.Disk) *keydir.Store {
	t.Helper()
	s, err := keydir.Open(d)
	if s == nil || err != nil {
		t.Fatalf("P5: Open: %v, %v", s, err)
	}
	return s
}

// pairsOf tells the map in the short form, and holds All, Keys and Get against each other.
func pairsOf(t *testing.T, s *keydir.Store) string {
	t.Helper()
	var keys, pairs []string
	for _, p := range plain.Collect(s, -1) {
		keys = append(keys, p.Key)
		pairs = append(pairs, p.Key+"="+p.Value)
		if v, ok, err := s.Get(p.Key); v != p.Value || !ok || err != nil {
			t.Errorf("P6: Get(%q) = %q, %v, %v, but All tells %q", p.Key, v, ok, err, p.Value)
		}
	}
	if got := s.Keys(); !slices.Equal(got, keys) {
		t.Errorf("P6: Keys: %q, but All tells %q", got, keys)
	}
	return strings.Join(pairs, " ")
}

// answers tells all that a store answers, as a text.
func answers(t *testing.T, s *keydir.Store) string {
	t.Helper()
	out := pairsOf(t, s) + fmt.Sprintf("; %+v", s.Stats())
	for _, x := range [][2]int{{0, 99}, {50, 99}, {101, 1}, {101, 2}} {
		out += fmt.Sprint("; ", s.Victims(x[0], x[1]))
	}
	return out
}

// files tells all that a disk has, by name.
func files(t *testing.T, d *api.Disk) map[string]string {
	t.Helper()
	m := map[string]string{}
	for _, name := range d.List() {
		b, err := d.ReadAt(name, 0, math.MaxInt)
		if err != nil {
			t.Fatal(err)
		}
		m[name] = string(b)
	}
	return m
}

func wantSameFiles(t *testing.T, d *api.Disk, before map[string]string, why string) {
	t.Helper()
	if after := files(t, d); !maps.Equal(after, before) {
		t.Errorf("%s: the disk has %q, and had %q", why, after, before)
	}
}
