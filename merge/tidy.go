package merge

import (
	"slices"

	"keydir/api"
	"keydir/directory"
)

// fate is what becomes of a file.
type fate int

const (
	kept    fate = iota // the map hangs on it
	left                // a hint: nothing hangs on it, but it may stay
	removed             // it belongs to nothing
	fates               // how many there are
)

// Clean removes what belongs to nothing.
func Clean(d *api.Disk) error {
	m, err := directory.ReadManifest(d)
	if err != nil {
		return err
	}
	return tidy(d, m.IDs)()
}

// tidy is the step that leaves no files but the manifest, the segments with these numbers, which are those that it lists, and hints.
func tidy(d *api.Disk, ids []int) step {
	return func() error {
		files := sortOut(d.List(), ids)
		return inTurn(
			// What is removed may be all that a crash would have left of the map, so what tells it now is made safe ahead of that.
			toEach(d.Sync, files[kept]...),
			d.SyncDir,
			toEach(d.Remove, files[removed]...),
			d.SyncDir,
		)
	}
}

// sortOut puts names together by what becomes of their files.
func sortOut(names []string, ids []int) [fates][]string {
	listed := directory.SegmentNames(ids)
	var files [fates][]string
	for _, name := range names {
		f := fateOf(name, listed)
		files[f] = append(files[f], name)
	}
	return files
}

func fateOf(name string, listed []string) fate {
	switch {
	case name == directory.ManifestName || slices.Contains(listed, name):
		return kept
	case directory.IsHint(name):
		return left
	}
	return removed
}
