// Package directory reads what a disk has: the manifest, and the records of the segments that it lists.
package directory

import (
	"strconv"

	"keydir/api"
)

// ManifestName is the name of the file that lists the segments.
const ManifestName = "manifest"

const segmentPrefix = "data-"

// SegmentName tells the name of the segment that has a number from 1 to api.MaxID.
func SegmentName(id int) string {
	// One digit more than the greatest number has keeps the zeros ahead of a small one.
	return segmentPrefix + strconv.Itoa(api.MaxID + 1 + id)[1:]
}
