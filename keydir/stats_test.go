package keydir_test

import (
	"math"
	"math/big"
	"math/rand/v2"
	"slices"
	"testing"

	"keydir/api"
	"keydir/keydir"
)

func wantVictims(t *testing.T, s *keydir.Store, percent, count int, want ...int) {
	t.Helper()
	if got := s.Victims(percent, count); !slices.Equal(got, want) {
		t.Errorf("P7: Victims(%d, %d) = %v, want %v", percent, count, got, want)
	}
}

func example(t *testing.T) *keydir.Store {
	t.Helper()
	return open(t, diskOf(t, part{4, "a=1 b=22 a=3", ""}, part{2, "-b c=1", "x"}, part{7, "", ""}, part{9, "a=333", ""}))
}

func TestP7Stats(t *testing.T) {
	want := []api.Stat{
		{ID: 4, Records: 3, Bytes: 55, DeadRecords: 3, DeadBytes: 55},
		{ID: 2, Records: 2, Bytes: 35, DeadRecords: 1, DeadBytes: 17},
		{ID: 7},
		{ID: 9, Records: 1, Bytes: 20},
	}
	if got := example(t).Stats(); !slices.Equal(got, want) {
		t.Errorf("P7: Stats: %+v, want %+v", got, want)
	}
}

func TestP7StatsOfLittle(t *testing.T) {
	for _, x := range []struct {
		parts []part
		want  []api.Stat
	}{
		{nil, nil},
		{[]part{{1, "", ""}}, []api.Stat{{ID: 1}}},
		{[]part{{1, "", "bytes that are no record"}}, []api.Stat{{ID: 1}}},
		{[]part{{1, "a=1", ""}}, []api.Stat{{ID: 1, Records: 1, Bytes: 18}}},
		{[]part{{1, "a=1 a=1", ""}}, []api.Stat{{ID: 1, Records: 2, Bytes: 36, DeadRecords: 1, DeadBytes: 18}}},
		{[]part{{1, "-a", ""}}, []api.Stat{{ID: 1, Records: 1, Bytes: 17, DeadRecords: 1, DeadBytes: 17}}},
		{[]part{{1, "a=1 -a a=1", ""}}, []api.Stat{{ID: 1, Records: 3, Bytes: 53, DeadRecords: 2, DeadBytes: 35}}},
		{[]part{{1, "a=1 -a", ""}}, []api.Stat{{ID: 1, Records: 2, Bytes: 35, DeadRecords: 2, DeadBytes: 35}}},
		{[]part{{8, "a=1", ""}, {3, "-a", ""}, {5, "a=1", ""}}, []api.Stat{
			{ID: 8, Records: 1, Bytes: 18, DeadRecords: 1, DeadBytes: 18},
			{ID: 3, Records: 1, Bytes: 17, DeadRecords: 1, DeadBytes: 17},
			{ID: 5, Records: 1, Bytes: 18},
		}},
	} {
		if got := open(t, diskOf(t, x.parts...)).Stats(); !slices.Equal(got, x.want) {
			t.Errorf("P7: Stats of %+v: %+v, want %+v", x.parts, got, x.want)
		}
	}
}

func TestP7Victims(t *testing.T) {
	s := example(t)
	wantVictims(t, s, 48, 99, 4, 2)
	wantVictims(t, s, 49, 99, 4)
	wantVictims(t, s, 101, 1, 4, 2)
	wantVictims(t, s, 0, 99, 4, 2, 9)

	wantVictims(t, s, 1, 99, 4, 2)
	wantVictims(t, s, 100, 99, 4)
	wantVictims(t, s, 101, 99)
	wantVictims(t, s, -1, 99, 4, 2, 9)
	wantVictims(t, s, 101, 0, 4, 2, 9)
	wantVictims(t, s, 101, -1, 4, 2, 9)
	wantVictims(t, s, 101, 2, 4)
	wantVictims(t, s, 101, 3, 4)
	wantVictims(t, s, 101, 4)
	wantVictims(t, s, 49, 1, 4, 2)

	for _, great := range []int{math.MaxInt, math.MaxInt - 1, math.MaxInt / 2, math.MaxInt/55 + 1, 1 << 62, 1 << 32, 1 << 58, math.MaxInt32} {
		wantVictims(t, s, great, math.MaxInt)
		wantVictims(t, s, great, 99)
		wantVictims(t, s, great, 3, 4)
		wantVictims(t, s, 101, great)
		wantVictims(t, s, -great, math.MaxInt, 4, 2, 9)
		wantVictims(t, s, math.MaxInt, -great, 4, 2, 9)
	}
	wantVictims(t, s, math.MinInt, math.MaxInt, 4, 2, 9)
	wantVictims(t, s, math.MaxInt, math.MinInt, 4, 2, 9)
	wantVictims(t, s, math.MinInt, math.MinInt, 4, 2, 9)
}

// A segment without records is never chosen, whatever is asked for.
func TestP7VictimsHaveRecords(t *testing.T) {
	for _, parts := range [][]part{nil, {{1, "", ""}}, {{1, "", "bytes that are no record"}, {2, "", ""}}} {
		s := open(t, diskOf(t, parts...))
		for _, n := range []int{math.MinInt, -1, 0, 1, 100, math.MaxInt} {
			wantVictims(t, s, n, n)
			wantVictims(t, s, n, 0)
			wantVictims(t, s, 0, n)
		}
	}
}

// The words of the promise, in numbers that do not wrap round.
func chosen(s api.Stat, percent, count int) bool {
	dead := new(big.Int).Mul(big.NewInt(int64(s.DeadBytes)), big.NewInt(100))
	bound := new(big.Int).Mul(big.NewInt(int64(percent)), big.NewInt(int64(s.Bytes)))
	return s.Records > 0 && (dead.Cmp(bound) >= 0 || s.DeadRecords >= count)
}

func TestP7VictimsAgreeWithTheWords(t *testing.T) {
	rnd := rand.New(rand.NewPCG(7, 8))
	for range 200 {
		s := open(t, diskOf(t, randomParts(rnd)...))
		for range 50 {
			percent, count := rnd.IntN(110)-4, rnd.IntN(9)-1
			if rnd.IntN(4) == 0 {
				percent = int(rnd.Uint64()) >> rnd.IntN(64)
			}
			var want []int
			for _, x := range s.Stats() {
				if chosen(x, percent, count) {
					want = append(want, x.ID)
				}
			}
			wantVictims(t, s, percent, count, want...)
		}
	}
}
