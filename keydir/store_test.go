package keydir_test

import (
	"hash/crc32"
	"slices"
	"strings"
	"testing"

	"keydir/api"
	"keydir/keydir"
	"keydir/plain"
)

func wantGet(t *testing.T, s *keydir.Store, key, value string, has bool) {
	t.Helper()
	if v, ok, err := s.Get(key); v != value || ok != has || err != nil {
		t.Errorf("P6: Get(%q) = %q, %v, %v, want %q, %v", key, v, ok, err, value, has)
	}
}

func wantGetError(t *testing.T, s *keydir.Store, key string, want api.Errno, name, why string) {
	t.Helper()
	v, ok, err := s.Get(key)
	n, at := api.Tell(err)
	if v != "" || ok || n != want || at != name {
		t.Errorf("P6: %s: Get(%q) = %q, %v, %v, want error %d alone, at %q", why, key, v, ok, err, want, name)
	}
}

func TestP6Get(t *testing.T) {
	s := open(t, diskOf(t, part{1, "a=1 b=2 gone=1", ""}, part{2, "-gone empty= a=333 never=1 -never", ""}))
	wantGet(t, s, "a", "333", true)
	wantGet(t, s, "b", "2", true)
	wantGet(t, s, "empty", "", true)
	for _, key := range []string{"gone", "never", "", "A", "aa", "a\x00", "\xff\xfe", "a=333", strings.Repeat("k", api.MaxKey), strings.Repeat("k", api.MaxKey+1), strings.Repeat("k", 1<<20)} {
		wantGet(t, s, key, "", false)
	}
}

func TestP6AnyBytes(t *testing.T) {
	d := diskOf(t, part{1, "", ""})
	want := map[string]string{}
	var b []byte
	for _, r := range goodRecords() {
		b = append(b, rawOf(r)...)
		if want[r.Key] = r.Value; r.Delete {
			delete(want, r.Key)
		}
	}
	for _, r := range []api.Record{{Key: "\x00", Value: "\x00\xff"}, {Key: "\xff", Value: strings.Repeat("\xff", api.MaxValue)}, {Key: strings.Repeat("\x00", api.MaxKey)}} {
		b = append(b, rawOf(r)...)
		want[r.Key] = r.Value
	}
	put(t, d, segmentName(1), b)
	s := open(t, d)
	var keys []string
	for key, value := range want {
		wantGet(t, s, key, value, true)
		keys = append(keys, key)
	}
	slices.Sort(keys)
	if got := s.Keys(); !slices.Equal(got, keys) {
		t.Errorf("P6: Keys: %q, want %q", got, keys)
	}
}

func TestP6KeysAreSortedByTheirBytes(t *testing.T) {
	s := open(t, diskOf(t, part{2, "z=1 é=2 aa=3 \xff=4", ""}, part{1, "a=5 Z=6 ab=7 \x01=8 0=9 10=9 9=9", ""}))
	want := []string{"\x01", "0", "10", "9", "Z", "a", "aa", "ab", "z", "é", "\xff"}
	if got := s.Keys(); !slices.Equal(got, want) {
		t.Errorf("P6: Keys: %q, want %q", got, want)
	}
	pairsOf(t, s)
}

func TestP6ARecordThatIsSpoilt(t *testing.T) {
	parts := []part{{1, "a=1", ""}, {3, "b=22 c=333 b=44", "x"}}
	// 19 and 20 bytes of b=22 and c=333 stand ahead of b=44, which has 19.
	for bit := 8 * 39; bit < 8*58; bit++ {
		d := diskOf(t, parts...)
		s := open(t, d)
		d.Flip(segmentName(3), uint(bit))
		wantGetError(t, s, "b", api.ErrRecord, segmentName(3), "a turned bit")
		wantGet(t, s, "a", "1", true)
		wantGet(t, s, "c", "333", true)
		wantGet(t, s, "x", "", false)
		if got := s.Keys(); !slices.Equal(got, []string{"a", "b", "c"}) {
			t.Errorf("P6: Keys: %q", got)
		}
		d.Flip(segmentName(3), uint(bit))
		wantGet(t, s, "b", "44", true)
	}
}

// Other records of the segment, and what stands behind them, are not the one that is asked for.
func TestP6OtherBytesMayChange(t *testing.T) {
	d := diskOf(t, part{1, "a=1 b=2 c=3", "tail"})
	s := open(t, d)
	for bit := range 8 * (3*18 + 4) {
		if bit/8/18 == 1 {
			continue
		}
		d.Flip(segmentName(1), uint(bit))
		wantGet(t, s, "b", "2", true)
		d.Flip(segmentName(1), uint(bit))
	}
	put(t, d, segmentName(1), rawOfAll(recordsOf("a=1 b=2 c=3 b=9 -b")))
	wantGet(t, s, "b", "2", true)
	put(t, d, segmentName(1), rawOfAll(recordsOf("a=1 b=2")))
	wantGet(t, s, "b", "2", true)
	put(t, d, "manifest", nil)
	wantGet(t, s, "b", "2", true)
}

func TestP6ARecordThatIsNotThere(t *testing.T) {
	d := diskOf(t, part{1, "a=1", ""}, part{2, "5:b=2 c=3", ""})
	whole := rawOfAll(recordsOf("5:b=2"))
	s := open(t, d)
	for n := range whole {
		put(t, d, segmentName(2), whole[:n])
		wantGetError(t, s, "b", api.ErrRecord, segmentName(2), "a file that is cut")
		wantGetError(t, s, "c", api.ErrRecord, segmentName(2), "a file that is cut")
	}
	for _, other := range []string{"5:b=3", "5:c=2", "6:b=2", "0:b=2", "5:-bb", "5:b=", "5:-b", "5:b=22", "5:-b 5:b=2", "5:z=1 5:b=2"} {
		put(t, d, segmentName(2), rawOfAll(recordsOf(other)))
		wantGetError(t, s, "b", api.ErrRecord, segmentName(2), "another record: "+other)
	}
	if d.Remove(segmentName(2)) != nil {
		t.Fatal("the disk fails")
	}
	wantGetError(t, s, "b", api.ErrRecord, segmentName(2), "a file that is gone")
	wantGet(t, s, "a", "1", true)
	wantGet(t, s, "x", "", false)
	put(t, d, segmentName(2), whole)
	wantGet(t, s, "b", "2", true)
}

// Two records may have the same length and the same sum: turning the bits of the polynomial about, in their order, leaves the sum as it is.
func TestP6AnotherRecordWithTheSameSum(t *testing.T) {
	was := api.Record{Key: "k", Value: "twelve bytes"}
	value := []byte(was.Value)
	pattern := uint64(crc32.IEEE)<<1 | 1
	for i := range 5 {
		value[3+i] ^= byte(pattern >> (8 * i))
	}
	other := api.Record{Key: "k", Value: string(value)}
	if a, b := rawOf(was), rawOf(other); !slices.Equal(a[:4], b[:4]) || slices.Equal(a, b) {
		t.Fatalf("%x and %x are not what this test is about", a, b)
	}
	d := diskOf(t, part{1, "", ""})
	put(t, d, segmentName(1), rawOf(was))
	s := open(t, d)
	put(t, d, segmentName(1), rawOf(other))
	wantGetError(t, s, "k", api.ErrRecord, segmentName(1), "another record with the same sum")
}

func TestP6AllEndsWhereAValueCannotBeRead(t *testing.T) {
	records := "b=2 e=5 a=1 d=4 c=3"
	places := map[string]uint{"b": 0, "e": 1, "a": 2, "d": 3, "c": 4}
	want := []api.Pair{{Key: "a", Value: "1"}, {Key: "b", Value: "2"}, {Key: "c", Value: "3"}, {Key: "d", Value: "4"}, {Key: "e", Value: "5"}}
	for i, p := range want {
		d := diskOf(t, part{1, records, ""})
		s := open(t, d)
		if got := plain.Collect(s, -1); !slices.Equal(got, want) {
			t.Errorf("P6: All: %q, want %q", got, want)
		}
		d.Flip(segmentName(1), 8*18*places[p.Key]+77)
		if got := plain.Collect(s, -1); !slices.Equal(got, want[:i]) {
			t.Errorf("P6: All, of which %s is spoilt: %q, want %q", p.Key, got, want[:i])
		}
	}
	d := diskOf(t, part{1, records, ""})
	s := open(t, d)
	for after := range want {
		d.Fail(after, 1)
		if got := plain.Collect(s, -1); !slices.Equal(got, want[:after]) {
			t.Errorf("P6: All, of which reading fails after %d: %q", after, got)
		}
	}
	if got := plain.Collect(s, -1); !slices.Equal(got, want) {
		t.Errorf("P6: All, when the disk is well again: %q", got)
	}
}

func TestP6AllEndsWhenYieldAnswersFalse(t *testing.T) {
	s := open(t, diskOf(t, part{1, "c=3 a=1 d=4 b=2", ""}))
	all := s.All()
	for n := 1; n <= 5; n++ {
		var got []string
		all(func(key, value string) bool {
			got = append(got, key+"="+value)
			return len(got) < n
		})
		if want := strings.Fields("a=1 b=2 c=3 d=4")[:min(n, 4)]; !slices.Equal(got, want) {
			t.Errorf("P6: All, ended at %d: %q, want %q", n, got, want)
		}
	}
}

func TestP6AllWithinAll(t *testing.T) {
	s := open(t, diskOf(t, part{1, "b=2 a=1", ""}))
	var got []string
	for a := range s.All() {
		for b, v := range s.All() {
			got = append(got, a+b+v)
		}
		wantGet(t, s, a, map[string]string{"a": "1", "b": "2"}[a], true)
	}
	if want := []string{"aa1", "ab2", "ba1", "bb2"}; !slices.Equal(got, want) {
		t.Errorf("P6: All within All: %q, want %q", got, want)
	}
}

func TestP1GetWhenTheDiskFails(t *testing.T) {
	d := diskOf(t, part{4, "a=1", ""})
	s := open(t, d)
	d.Fail(0, 1)
	wantGetError(t, s, "a", api.ErrDisk, segmentName(4), "a disk that fails")
	wantGet(t, s, "a", "1", true)
	d.Fail(0, 1)
	wantGet(t, s, "x", "", false)
}

// What is not safe must not be made safe either: a crash behind the calls must take it back.
func TestP2ReadingChangesNothing(t *testing.T) {
	unsafe := func() *api.Disk {
		d := diskOf(t, part{1, "a=1 b=2", "x"}, part{2, "-a c=3", ""})
		if d.Create("data-000009") != nil || d.Append("data-000009", []byte("lost")) != nil ||
			d.Append(segmentName(2), rawOfAll(recordsOf("d=4"))) != nil || d.Create("hint-000001") != nil {
			t.Fatal("the disk fails")
		}
		return d
	}
	d := unsafe()
	before := files(t, d)
	s := open(t, d)
	wantSameFiles(t, d, before, "P2: Open")
	wantGet(t, s, "b", "2", true)
	wantSameFiles(t, d, before, "P2: Get")
	plain.Collect(s, -1)
	wantSameFiles(t, d, before, "P2: All")
	s.Keys()
	s.Stats()
	s.Victims(0, 0)
	wantSameFiles(t, d, before, "P2: Keys, Stats, Victims")
	untouched := unsafe()
	untouched.Crash(0, 0)
	d.Crash(0, 0)
	wantSameFiles(t, d, files(t, untouched), "P2: reading made something safe")

	spoilt := unsafe()
	put(t, spoilt, "manifest", []byte("none"))
	before = files(t, spoilt)
	wantOpenError(t, spoilt, api.ErrManifest, "", "a manifest that is none")
	wantSameFiles(t, spoilt, before, "P2: Open with an error")
}

func TestP2AnswersOfAStoreAreFresh(t *testing.T) {
	s := open(t, diskOf(t, part{4, "a=1 b=22 a=3", ""}, part{2, "-b c=1", ""}))
	before := answers(t, s)
	scribble(s.Keys(), "z")
	scribble(s.Stats(), api.Stat{ID: 99, Records: 99})
	scribble(s.Victims(0, 0), 99)
	if after := answers(t, s); after != before {
		t.Errorf("P2: the store hangs on what was done to its answers: %s, before %s", after, before)
	}
}

// A store tells the directory as it was opened; another one, opened later, does not change it.
func TestP5StoresAreApart(t *testing.T) {
	d := diskOf(t, part{1, "a=1", ""})
	first := open(t, d)
	put(t, d, segmentName(2), rawOfAll(recordsOf("a=2 b=2")))
	put(t, d, "manifest", rawManifest(8, 2, 1, 2))
	second := open(t, d)
	if got := pairsOf(t, first); got != "a=1" {
		t.Errorf("P5: the first store tells %q", got)
	}
	if got := pairsOf(t, second); got != "a=2 b=2" {
		t.Errorf("P5: the second store tells %q", got)
	}
}
