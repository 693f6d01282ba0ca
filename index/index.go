// Package index tells the map of keys that records make, and which of them are live.
package index

import (
	"maps"
	"slices"

	"keydir/directory"
)

// Index is the map: where the record stands by which a key has its value, and that record. All records that it has none of are dead.
type Index struct {
	places map[string]directory.Place
	live   map[directory.Place]directory.Entry
}

// Build goes through the records in their order; the last one of a key counts.
func Build(d directory.Directory) *Index {
	x := &Index{
		places: make(map[string]directory.Place, d.Records),
		live:   make(map[directory.Place]directory.Entry, d.Records),
	}
	for _, s := range d.Segments {
		for _, e := range s.Entries {
			x.take(e)
		}
	}
	return x
}

// take lets a record count from here on.
func (x *Index) take(e directory.Entry) {
	key := e.Record.Key
	if old, ok := x.places[key]; ok {
		delete(x.live, old)
		delete(x.places, key)
	}
	if !e.Record.Delete {
		x.places[key] = e.Place
		x.live[e.Place] = e
	}
}

// Find tells by which record a key has its value, if it has one.
func (x *Index) Find(key string) (directory.Entry, bool) {
	place, ok := x.places[key]
	if !ok {
		return directory.Entry{}, false
	}
	return x.live[place], true
}

// Keys tells all keys that have a value, sorted by their bytes.
func (x *Index) Keys() []string {
	return slices.Sorted(maps.Keys(x.places))
}

// Live tells whether the record at a place is one by which a key has its value.
func (x *Index) Live(p directory.Place) bool {
	_, ok := x.live[p]
	return ok
}
