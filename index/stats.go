package index

import (
	"keydir/api"
	"keydir/directory"
)

// Stats tells what each segment has, and how much of it is dead.
func (x *Index) Stats(segments []directory.Segment) []api.Stat {
	stats := make([]api.Stat, len(segments))
	for i, s := range segments {
		stats[i] = x.stat(s)
	}
	return stats
}

func (x *Index) stat(s directory.Segment) api.Stat {
	out := api.Stat{ID: s.ID}
	for _, e := range s.Entries {
		out.Records++
		out.Bytes += e.Size
		if !x.Live(e.Place) {
			out.DeadRecords++
			out.DeadBytes += e.Size
		}
	}
	return out
}

// Victims chooses the segments that are worth merging: of which so many percent of the bytes are dead, or so many records.
func Victims(stats []api.Stat, percent, count int) []int {
	var ids []int
	for _, s := range stats {
		if s.Records > 0 && (deadShare(s, percent) || s.DeadRecords >= count) {
			ids = append(ids, s.ID)
		}
	}
	return ids
}

// deadShare tells whether at least so many percent of a segment's bytes are dead.
func deadShare(s api.Stat, percent int) bool {
	// Below 0 and above 101 the answer stays the same, but the product could wrap round.
	percent = min(max(percent, 0), 101)
	return s.DeadBytes*100 >= percent*s.Bytes
}
