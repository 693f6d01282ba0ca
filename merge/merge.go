// Package merge writes segments anew without what is dead, and removes files that belong to nothing.
package merge

import (
	"keydir/api"
	"keydir/directory"
)

// nextManifest is where a manifest is written, so that it can take the old one's place at one stroke.
const nextManifest = directory.ManifestName + ".next"

// Merge writes the victims anew.
func Merge(d *api.Disk, victims []int) error {
	dir, err := directory.Read(d)
	if err != nil {
		return err
	}
	p, err := makePlan(dir, victims)
	if err != nil {
		return err
	}
	return inTurn(
		// A file from an earlier merge that came to no end may have a name that is needed now.
		tidy(d, dir.Manifest.IDs),
		writeAll(d, p.files),
		d.SyncDir,
		func() error { return d.Rename(nextManifest, directory.ManifestName) },
		tidy(d, p.ids),
	)
}

// writeAll is the step that makes files, with bytes that are safe.
func writeAll(d *api.Disk, files []file) step {
	return func() error {
		for _, f := range files {
			err := inTurn(
				toEach(d.Create, f.name),
				func() error { return d.Append(f.name, f.bytes) },
				toEach(d.Sync, f.name),
			)
			if err != nil {
				return err
			}
		}
		return nil
	}
}
