// Package keydir: segments of records, the map that they tell, and merging them: see DOC.md.
package keydir

import (
	"keydir/api"
	"keydir/codec"
)

// Encode writes a record (P3).
func Encode(r api.Record) ([]byte, error) { return codec.EncodeRecord(r) }

// Decode reads a record at the front; how many bytes it has (P3).
func Decode(b []byte) (api.Record, int, error) { return codec.DecodeRecord(b) }

// WriteManifest writes a manifest (P4).
func WriteManifest(m api.Manifest) ([]byte, error) { return codec.EncodeManifest(m) }

// ReadManifest reads one (P4).
func ReadManifest(b []byte) (api.Manifest, error) { return codec.DecodeManifest(b) }

// Store is the map that segments tell.
type Store struct{}

// Open reads the segments (P5).
func Open(d *api.Disk) (*Store, error) { return nil, nil }

// Get tells a key's value (P6).
func (s *Store) Get(key string) (string, bool, error) { return "", false, nil }

// Keys tells all keys (P6).
func (s *Store) Keys() []string { return nil }

// All goes through the pairs (P6).
func (s *Store) All() func(yield func(key, value string) bool) {
	return func(yield func(key, value string) bool) {}
}

// Stats tells what each segment has (P7).
func (s *Store) Stats() []api.Stat { return nil }

// Victims chooses segments to merge (P7).
func (s *Store) Victims(percent, count int) []int { return nil }

// Merge writes segments anew, without what is dead (P8, P9).
func Merge(d *api.Disk, victims []int) error { return nil }

// Clean removes files that belong to nothing (P10).
func Clean(d *api.Disk) error { return nil }
