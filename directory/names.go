// Package directory reads what a disk has: the manifest, and the records of the segments that it lists.
package directory

import (
	"strconv"
	"strings"

	"keydir/api"
)

// ManifestName is the name of the file that lists the segments.
const ManifestName = "manifest"

// A segment's or hint's name is one of these and a number of so many digits.
const (
	segmentPrefix = "data-"
	hintPrefix    = "hint-"
	numberSize    = 6
)

// SegmentName tells the name of the segment that has a number from 1 to api.MaxID.
func SegmentName(id int) string {
	// One digit more than the greatest number has keeps the zeros ahead of a small one.
	return segmentPrefix + strconv.Itoa(api.MaxID + 1 + id)[1:]
}

// SegmentNames tells the names of several segments, in their order.
func SegmentNames(ids []int) []string {
	names := make([]string, len(ids))
	for i, id := range ids {
		names[i] = SegmentName(id)
	}
	return names
}

// IsHint tells whether a file of this name is a hint.
func IsHint(name string) bool {
	number, ok := strings.CutPrefix(name, hintPrefix)
	return ok && len(number) == numberSize && strings.Trim(number, "0123456789") == ""
}
