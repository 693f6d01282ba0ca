package directory

import (
	"errors"
	"math"
	"slices"

	"keydir/api"
	"keydir/codec"
)

// Directory is the manifest, the segments in its order, and how many records they have in all.
type Directory struct {
	Manifest api.Manifest
	Segments []Segment
	Records  int
}

// Read reads the manifest, and all segments that it lists.
func Read(d *api.Disk) (Directory, error) {
	m, err := ReadManifest(d)
	if err != nil {
		return Directory{}, err
	}
	files, err := readSegments(d, m.IDs)
	if err != nil {
		return Directory{}, err
	}
	segments, records := scan(m.IDs, files)
	return Directory{Manifest: m, Segments: segments, Records: records}, nil
}

// ReadManifest reads the manifest alone.
func ReadManifest(d *api.Disk) (api.Manifest, error) {
	if !slices.Contains(d.List(), ManifestName) {
		return api.Manifest{}, api.ErrNothing
	}
	b, err := readAll(d, ManifestName)
	if err != nil {
		return api.Manifest{}, err
	}
	return codec.DecodeManifest(b)
}

// readSegments reads one file behind the other: a disk is no thing for several goroutines.
func readSegments(d *api.Disk, ids []int) ([][]byte, error) {
	if err := findSegments(d, ids); err != nil {
		return nil, err
	}
	files := make([][]byte, len(ids))
	for i, name := range SegmentNames(ids) {
		b, err := readAll(d, name)
		if err != nil {
			return nil, err
		}
		files[i] = b
	}
	return files, nil
}

// findSegments is asked ahead of all reading, so that a missing segment is told whether or not another one can be read.
func findSegments(d *api.Disk, ids []int) error {
	names := d.List()
	for _, name := range SegmentNames(ids) {
		if !slices.Contains(names, name) {
			return &api.FileError{Name: name, Err: api.ErrSegment}
		}
	}
	return nil
}

func readAll(d *api.Disk, name string) ([]byte, error) {
	return d.ReadAt(name, 0, math.MaxInt)
}

// ReadAgain reads an entry's record once more: ErrRecord, if it is not there any more as it was.
func ReadAgain(d *api.Disk, e Entry) (api.Record, error) {
	name := SegmentName(e.Place.Segment)
	b, err := d.ReadAt(name, e.Place.At, e.Size)
	if err != nil && !errors.Is(err, api.ErrMissing) {
		return api.Record{}, err
	}
	// Of a file that is gone there are no bytes, and so no record either.
	r, _, err := codec.DecodeRecord(b)
	if err != nil || r != e.Record {
		return api.Record{}, &api.FileError{Name: name, Err: api.ErrRecord}
	}
	return r, nil
}
