// Package keydir: segments of records, the map that they tell, and merging them: see DOC.md.
package keydir

import (
	"slices"

	"keydir/api"
	"keydir/codec"
	"keydir/directory"
	"keydir/index"
	"keydir/merge"
)

// Encode writes a record (P3).
func Encode(r api.Record) ([]byte, error) { return codec.EncodeRecord(r) }

// Decode reads a record at the front; how many bytes it has (P3).
func Decode(b []byte) (api.Record, int, error) { return codec.DecodeRecord(b) }

// WriteManifest writes a manifest (P4).
func WriteManifest(m api.Manifest) ([]byte, error) { return codec.EncodeManifest(m) }

// ReadManifest reads one (P4).
func ReadManifest(b []byte) (api.Manifest, error) { return codec.DecodeManifest(b) }

// Store is the map that segments tell.
type Store struct {
	disk  *api.Disk
	index *index.Index
	stats []api.Stat
}

// Open reads the segments (P5).
func Open(d *api.Disk) (*Store, error) {
	dir, err := directory.Read(d)
	if err != nil {
		return nil, err
	}
	x := index.Build(dir)
	return &Store{disk: d, index: x, stats: x.Stats(dir.Segments)}, nil
}

// Get tells a key's value (P6).
func (s *Store) Get(key string) (string, bool, error) {
	e, ok := s.index.Find(key)
	if !ok {
		return "", false, nil
	}
	r, err := directory.ReadAgain(s.disk, e)
	if err != nil {
		return "", false, err
	}
	return r.Value, true, nil
}

// Keys tells all keys (P6).
func (s *Store) Keys() []string { return s.index.Keys() }

// All goes through the pairs (P6).
func (s *Store) All() func(yield func(key, value string) bool) {
	return func(yield func(key, value string) bool) {
		for _, key := range s.Keys() {
			value, _, err := s.Get(key)
			if err != nil || !yield(key, value) {
				return
			}
		}
	}
}

// Stats tells what each segment has (P7).
func (s *Store) Stats() []api.Stat { return slices.Clone(s.stats) }

// Victims chooses segments to merge (P7).
func (s *Store) Victims(percent, count int) []int { return index.Victims(s.stats, percent, count) }

// Merge writes segments anew, without what is dead (P8, P9).
func Merge(d *api.Disk, victims []int) error { return merge.Merge(d, victims) }

// Clean removes files that belong to nothing (P10).
func Clean(d *api.Disk) error { return merge.Clean(d) }
