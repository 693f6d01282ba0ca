package codec

import (
	"bytes"
	"slices"

	"keydir/api"
)

// Where the parts of a manifest stand, behind its sum, and how many bytes a segment's number has.
const (
	generationAt = sumSize
	countAt      = generationAt + 8
	idsAt        = countAt + 2
	idSize       = 4
)

// EncodeManifest writes a manifest.
func EncodeManifest(m api.Manifest) ([]byte, error) {
	if !validIDs(m.IDs) {
		return nil, api.ErrIDs
	}
	b := make([]byte, idsAt+idSize*len(m.IDs))
	putNumber(b[generationAt:countAt], m.Generation)
	putNumber(b[countAt:idsAt], uint64(len(m.IDs)))
	for i, id := range m.IDs {
		at := idsAt + idSize*i
		putNumber(b[at:at+idSize], uint64(id))
	}
	seal(b)
	return b, nil
}

// validIDs tells whether a manifest may list these numbers.
func validIDs(ids []int) bool {
	if len(ids) > api.MaxSegments {
		return false
	}
	for i, id := range ids {
		if id < 1 || id > api.MaxID || slices.Contains(ids[:i], id) {
			return false
		}
	}
	return true
}

// DecodeManifest reads a manifest, of which b has all bytes and no more.
func DecodeManifest(b []byte) (api.Manifest, error) {
	if len(b) < idsAt || len(b) > idsAt+idSize*api.MaxSegments {
		return api.Manifest{}, api.ErrManifest
	}
	m := splitManifest(b)
	// Writing it again asks for all at once: sum, count, bounds, and a length that is just right.
	again, err := EncodeManifest(m)
	if err != nil || !bytes.Equal(b, again) {
		return api.Manifest{}, api.ErrManifest
	}
	return m, nil
}

// splitManifest takes bytes for a manifest, with as many numbers as they have room for.
func splitManifest(b []byte) api.Manifest {
	ids := make([]int, (len(b)-idsAt)/idSize)
	for i := range ids {
		at := idsAt + idSize*i
		ids[i] = int(number(b[at : at+idSize]))
	}
	return api.Manifest{Generation: number(b[generationAt:countAt]), IDs: ids}
}
