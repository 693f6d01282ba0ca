package directory

import (
	"iter"
	"sync"
	"sync/atomic"

	"keydir/api"
	"keydir/codec"
)

// Place is where a record stands: in which segment, and at which of its bytes.
type Place struct {
	Segment, At int
}

// Entry is a record, with the bytes that it takes.
type Entry struct {
	Place  Place
	Size   int
	Record api.Record
}

// Segment is a segment's records, one behind the other, and the bytes of its file.
type Segment struct {
	ID      int
	Entries []Entry
	bytes   []byte
}

// RecordBytes hands out the bytes of one of the segment's records. They have no spare room, so that whoever appends to them does not write over the record behind.
func (s Segment) RecordBytes(e Entry) []byte {
	end := e.Place.At + e.Size
	return s.bytes[e.Place.At:end:end]
}

// scan looks for the records of all segments at once, and tells how many there are in all. The bytes of segment ids[i] are files[i].
func scan(ids []int, files [][]byte) ([]Segment, int) {
	segments := make([]Segment, len(ids))
	var found atomic.Int64
	var workers sync.WaitGroup
	for i, id := range ids {
		workers.Add(1)
		go func() {
			defer workers.Done()
			segments[i] = scanOne(id, files[i])
			found.Add(int64(len(segments[i].Entries)))
		}()
	}
	workers.Wait()
	return segments, int(found.Load())
}

func scanOne(id int, b []byte) Segment {
	s := Segment{ID: id, bytes: b}
	for e := range entries(id, b) {
		s.Entries = append(s.Entries, e)
	}
	return s
}

// entries goes through the records with which a segment's bytes begin, up to where none follows.
func entries(id int, b []byte) iter.Seq[Entry] {
	return func(yield func(Entry) bool) {
		at := 0
		for {
			r, n, err := codec.DecodeRecord(b[at:])
			if err != nil || !yield(Entry{Place: Place{id, at}, Size: n, Record: r}) {
				return
			}
			at += n
		}
	}
}
