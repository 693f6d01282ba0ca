package keydir_test

import (
	"math"
	"math/rand/v2"
	"testing"

	"keydir/api"
	"keydir/keydir"
)

// endless is more operations than any call here has.
const endless = 500

// Each operation of the disk fails in its turn, alone or with some behind it, till the call has no more of them.
func TestP11OperationsThatFail(t *testing.T) {
	rnd := rand.New(rand.NewPCG(11, 1))
	for _, x := range trials() {
		for _, times := range []int{1, 2, 3, 7, endless} {
			for after, met := 0, true; met; after++ {
				d := x.disk(t)
				pairs := pairsOf(t, open(t, d))
				met = metFailures(t, d, x.call, after, times, x.where(after, times))
				wantUsable(t, rnd, d, pairs, x.where(after, times))
			}
		}
	}
}

// The same call fails at each place, over what it left behind as it failed at the place ahead.
func TestP11FailuresOneBehindTheOther(t *testing.T) {
	rnd := rand.New(rand.NewPCG(11, 2))
	for _, x := range trials() {
		d := x.disk(t)
		pairs := pairsOf(t, open(t, d))
		call := func(d *api.Disk) error {
			// Behind the Rename the victims are listed no more.
			if err := x.call(d); errno(err) != api.ErrVictims {
				return err
			}
			return keydir.Clean(d)
		}
		for after, met := 0, true; met; after++ {
			met = metFailures(t, d, call, after, 1, x.where(after))
			wantPairs(t, d, pairs, x.where(after))
		}
		wantUsable(t, rnd, d, pairs, x.name)
	}
}

// A refusal that hangs on what was read is told only if it could be read; nothing is changed either way.
func TestP11RefusalsOfADiskThatFails(t *testing.T) {
	top := []part{{api.MaxID, "a=1", ""}, {3, "b=1 b=2", ""}}
	for _, x := range []struct {
		trial
		want api.Errno
	}{
		{trial{"Merge of none", top, merging()}, api.ErrVictims},
		{trial{"Merge of one twice", top, merging(3, 3)}, api.ErrVictims},
		{trial{"Merge of another one", top, merging(3, 4)}, api.ErrVictims},
		{trial{"Merge without a number", top, merging(3)}, api.ErrIDs},
	} {
		operations := 0
		for after, done := 0, false; !done; after++ {
			d := diskOf(t, x.parts...)
			put(t, d, "other", []byte("x"))
			before := files(t, d)
			if d.Create("not safe") != nil {
				t.Fatal("the disk fails")
			}
			d.Fail(after, math.MaxInt)
			err := x.call(d)
			done = errno(err) == x.want
			if !done && errno(err) != api.ErrDisk {
				t.Fatalf("P11: %s: %v", x.where(after), err)
			}
			d.Crash(0, 0)
			wantSameFiles(t, d, before, "P11: "+x.where(after))
			operations = after
		}
		if operations == 0 {
			t.Errorf("P11: %s reads nothing", x.name)
		}
	}
}
