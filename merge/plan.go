package merge

import (
	"slices"

	"keydir/api"
	"keydir/codec"
	"keydir/directory"
)

// file is a file that is to be written.
type file struct {
	name  string
	bytes []byte
}

// plan is what a merge writes, and which segments are listed behind it.
type plan struct {
	ids   []int
	files []file
}

// makePlan finds out all that a merge writes, and all that speaks against it, ahead of any change.
func makePlan(dir directory.Directory, victims []int) (plan, error) {
	old := dir.Manifest
	if !canBeMerged(victims, old.IDs) {
		return plan{}, api.ErrVictims
	}
	records := recordsThatCount(dir, victims)
	fresh := freshIDs(old.IDs, records)
	ids := replaced(old.IDs, victims, fresh)
	// A fresh number above api.MaxID is refused here.
	manifest, err := codec.EncodeManifest(api.Manifest{Generation: old.Generation + 1, IDs: ids})
	if err != nil {
		return plan{}, err
	}
	p := plan{ids: ids}
	for _, name := range directory.SegmentNames(fresh) {
		p.files = append(p.files, file{name, records})
	}
	p.files = append(p.files, file{nextManifest, manifest})
	return p, nil
}

// canBeMerged tells whether victims are some of the listed segments, each of them once.
func canBeMerged(victims, listed []int) bool {
	for i, id := range victims {
		if !slices.Contains(listed, id) || slices.Contains(victims[:i], id) {
			return false
		}
	}
	return len(victims) > 0
}

// freshIDs tells the number for a segment of these records; none, if there are none, so that numbers last longer.
func freshIDs(listed []int, records []byte) []int {
	if len(records) == 0 {
		return nil
	}
	return []int{slices.Max(listed) + 1}
}

// replaced takes the victims out of a manifest's numbers, and puts fresh ones where the last victim stood: there the records of all of them still count, for of their keys no segment behind has one.
func replaced(ids, victims, fresh []int) []int {
	var out []int
	at := 0
	for _, id := range ids {
		if slices.Contains(victims, id) {
			at = len(out)
		} else {
			out = append(out, id)
		}
	}
	return slices.Insert(out, at, fresh...)
}

// keyState is what all segments together have of a key.
type keyState struct {
	last  directory.Place // its record that counts
	stays bool            // a segment that is no victim has a record of it
}

// recordsThatCount are those of the victims' records without which the map would be another, one behind the other.
func recordsThatCount(dir directory.Directory, victims []int) []byte {
	keys := keyStates(dir, victims)
	var b []byte
	for _, s := range dir.Segments {
		if !slices.Contains(victims, s.ID) {
			continue
		}
		for _, e := range s.Entries {
			if counts(e, keys[e.Record.Key]) {
				b = append(b, s.RecordBytes(e)...)
			}
		}
	}
	return b
}

func keyStates(dir directory.Directory, victims []int) map[string]keyState {
	keys := make(map[string]keyState, dir.Records)
	for _, s := range dir.Segments {
		stays := !slices.Contains(victims, s.ID)
		for _, e := range s.Entries {
			k := keys[e.Record.Key]
			keys[e.Record.Key] = keyState{last: e.Place, stays: k.stays || stays}
		}
	}
	return keys
}

// counts tells whether a victim's record must be written anew.
func counts(e directory.Entry, k keyState) bool {
	// A segment that stays and has a record of the key stands ahead of the last one's, so a deletion is there to hide it; without such a segment it hides nothing.
	return e.Place == k.last && (!e.Record.Delete || k.stays)
}
