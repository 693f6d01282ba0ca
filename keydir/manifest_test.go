package keydir_test

import (
	"bytes"
	"encoding/binary"
	"math"
	"math/rand/v2"
	"slices"
	"testing"

	"keydir/api"
	"keydir/keydir"
)

// rawManifest writes a manifest by the document's words, whatever its parts are.
func rawManifest(generation uint64, count uint16, ids ...uint32) []byte {
	b := binary.BigEndian.AppendUint64(nil, generation)
	b = binary.BigEndian.AppendUint16(b, count)
	for _, id := range ids {
		b = binary.BigEndian.AppendUint32(b, id)
	}
	return sealed(b)
}

func rawOfManifest(m api.Manifest) []byte {
	var ids []uint32
	for _, id := range m.IDs {
		ids = append(ids, uint32(id))
	}
	return rawManifest(m.Generation, uint16(len(ids)), ids...)
}

// numbers tells n numbers, from first on.
func numbers(first, n int) []int {
	var l []int
	for i := range n {
		l = append(l, first+i)
	}
	return l
}

func goodManifests() []api.Manifest {
	var l []api.Manifest
	for _, generation := range []uint64{0, 3, 0x0102030405060708, math.MaxUint64} {
		for _, ids := range [][]int{
			nil, {}, {1}, {api.MaxID}, {5, 4, 3}, {api.MaxID, 1, 500}, {256, 1, 65536, 257},
			numbers(1, api.MaxSegments-1), numbers(1, api.MaxSegments), numbers(api.MaxID-api.MaxSegments+1, api.MaxSegments),
		} {
			l = append(l, api.Manifest{Generation: generation, IDs: ids})
		}
	}
	return l
}

func wantNoManifest(t *testing.T, b []byte, why string) {
	t.Helper()
	m, err := keydir.ReadManifest(b)
	if err != error(api.ErrManifest) || m.Generation != 0 || m.IDs != nil {
		t.Errorf("P4: ReadManifest of %s: %+v, %v, want ErrManifest alone: %x", why, m, err, b)
	}
}

func TestP4Examples(t *testing.T) {
	b, err := keydir.WriteManifest(api.Manifest{Generation: 3, IDs: []int{5, 4, 3}})
	if want := unhex(t, "2280056200000000000000030003000000050000000400000003"); !bytes.Equal(b, want) || err != nil {
		t.Errorf("P4: WriteManifest(3, 5 4 3) = %x, %v, want %x", b, err, want)
	}
	for _, ids := range [][]int{{4, 4}, {0}} {
		if b, err := keydir.WriteManifest(api.Manifest{IDs: ids}); b != nil || errno(err) != api.ErrIDs {
			t.Errorf("P4: WriteManifest(%v) = %x, %v, want ErrIDs", ids, b, err)
		}
	}
}

func TestP4WritesAndReads(t *testing.T) {
	for _, m := range goodManifests() {
		want := rawOfManifest(m)
		b, err := keydir.WriteManifest(m)
		if !bytes.Equal(b, want) || err != nil {
			t.Errorf("P4: WriteManifest(%+v) = %x, %v, want %x", m, b, err, want)
		}
		got, err := keydir.ReadManifest(want)
		if got.Generation != m.Generation || !slices.Equal(got.IDs, m.IDs) || err != nil {
			t.Errorf("P4: ReadManifest(%x) = %+v, %v, want %+v", want, got, err, m)
		}
	}
}

func TestP4WriteRefuses(t *testing.T) {
	twiceAtTheEnds := numbers(1, api.MaxSegments)
	twiceAtTheEnds[api.MaxSegments-1] = 1
	for _, ids := range [][]int{
		{0}, {-1}, {api.MaxID + 1}, {math.MaxInt}, {math.MinInt}, {1<<32 + 1}, {-1<<32 + 1},
		{1, 0}, {1, 2, api.MaxID + 1}, {0, 1},
		{4, 4}, {3, 4, 3}, {1, 2, 3, 4, 5, 2}, {1, 2, 2}, twiceAtTheEnds,
		numbers(1, api.MaxSegments+1), numbers(1, 1<<16), numbers(1, 1<<16+1),
	} {
		b, err := keydir.WriteManifest(api.Manifest{Generation: 7, IDs: ids})
		if b != nil || err != error(api.ErrIDs) {
			t.Errorf("P4: WriteManifest of %d numbers, %v..: %x, %v, want ErrIDs alone", len(ids), ids[:min(len(ids), 6)], b, err)
		}
	}
}

func TestP4ReadRefusesOtherLengths(t *testing.T) {
	wantNoManifest(t, nil, "nil")
	wantNoManifest(t, make([]byte, 1<<20), "many zeros")
	for _, m := range goodManifests() {
		b := rawOfManifest(m)
		for n := range b {
			wantNoManifest(t, b[:n:n], "a piece")
			wantNoManifest(t, b[:n], "a piece with the rest in its spare room")
		}
		for _, more := range [][]byte{{0}, {255}, {0, 0, 0, 9}, b} {
			wantNoManifest(t, append(slices.Clone(b), more...), "a manifest and more")
		}
	}
}

func TestP4ReadRefusesATurnedBit(t *testing.T) {
	for _, m := range goodManifests() {
		b := rawOfManifest(m)
		for bit := range 8 * len(b) {
			b[bit/8] ^= 1 << (bit % 8)
			wantNoManifest(t, b, "a turned bit")
			b[bit/8] ^= 1 << (bit % 8)
		}
	}
}

// The sum is right here: only what WriteManifest refuses, or writes otherwise, tells that these are no manifests.
func TestP4ReadRefusesWhatWriteCouldNotWrite(t *testing.T) {
	var many []uint32
	for i := range uint32(api.MaxSegments + 1) {
		many = append(many, i+1)
	}
	for _, b := range [][]byte{
		rawManifest(7, 1, 0),
		rawManifest(7, 1, api.MaxID+1),
		rawManifest(7, 1, 1<<24+1),
		rawManifest(7, 1, 1<<31+1),
		rawManifest(7, 1, math.MaxUint32),
		rawManifest(7, 2, 4, 4),
		rawManifest(7, 3, 4, 5, 4),
		rawManifest(7, 2, 1, 0),
		rawManifest(7, 61, many...),
		rawManifest(7, 60, many...),
		rawManifest(7, 0, 1),
		rawManifest(7, 1),
		rawManifest(7, 3, 1, 2),
		rawManifest(7, 1, 1, 2),
		rawManifest(7, 256+1, 1),
		rawManifest(7, math.MaxUint16, 1),
		sealed(append(rawManifest(7, 1, 1)[4:], 0)),
		sealed(append(rawManifest(7, 1, 1)[4:], 0, 0, 0)),
		sealed(rawManifest(7, 1, 1)[4:17]),
		sealed(nil),
		make([]byte, 14),
		bytes.Repeat([]byte{255}, 18),
	} {
		wantNoManifest(t, b, "a sealed wrong manifest")
	}
}

// Whatever bytes there are: what ReadManifest takes, WriteManifest writes so.
func TestP4ReadAgreesWithWrite(t *testing.T) {
	rnd := rand.New(rand.NewPCG(5, 6))
	taken := 0
	for range 20000 {
		ids := make([]uint32, rnd.IntN(8))
		for i := range ids {
			ids[i] = uint32(rnd.IntN(12))
			if rnd.IntN(4) == 0 {
				ids[i] = api.MaxID - 5 + uint32(rnd.IntN(7))
			}
		}
		b := rawManifest(rnd.Uint64(), uint16(max(len(ids)-rnd.IntN(2), 0)), ids...)
		m, err := keydir.ReadManifest(b)
		if err != nil {
			wantNoManifest(t, b, "what is refused")
			continue
		}
		taken++
		again, err := keydir.WriteManifest(m)
		if err != nil || !bytes.Equal(again, b) {
			t.Fatalf("P4: ReadManifest(%x) = %+v, but WriteManifest tells %x, %v", b, m, again, err)
		}
	}
	if taken < 1000 {
		t.Errorf("only %d of the bytes were manifests", taken)
	}
}

func TestP2WriteManifestLeavesWhatItIsHanded(t *testing.T) {
	for _, ids := range [][]int{{5, 4, 3}, {4, 5, 4}, {7, 0}, {}, numbers(1, 61)} {
		whole := slices.Repeat([]int{-7}, len(ids)+20)
		part := whole[10 : 10+copy(whole[10:], ids)]
		before := slices.Clone(whole)
		b, err := keydir.WriteManifest(api.Manifest{Generation: 3, IDs: part})
		if !slices.Equal(whole, before) {
			t.Errorf("P2: WriteManifest(%v) wrote into what it was handed", ids)
		}
		if err != nil {
			continue
		}
		want := slices.Clone(b)
		scribble(part, 9)
		if !bytes.Equal(b, want) {
			t.Errorf("P2: WriteManifest(%v) hangs on what it was handed", ids)
		}
		scribble(b, 0xee)
		if again, err := keydir.WriteManifest(api.Manifest{Generation: 3, IDs: ids}); !bytes.Equal(again, want) || err != nil {
			t.Errorf("P2: WriteManifest(%v) hangs on what was done to its last answer: %x, %v", ids, again, err)
		}
	}
}

func TestP2ReadManifestLeavesWhatItIsHanded(t *testing.T) {
	good := rawManifest(3, 3, 5, 4, 3)
	for _, b := range [][]byte{good, good[:20], append(slices.Clone(good), 0), rawManifest(7, 2, 4, 4), rawManifest(7, 0), nil} {
		part, whole := guarded(b)
		before := slices.Clone(whole)
		keydir.ReadManifest(part)
		if !bytes.Equal(whole, before) {
			t.Errorf("P2: ReadManifest(%x) wrote into what it was handed", b)
		}
	}
	part, _ := guarded(good)
	first, _ := keydir.ReadManifest(part)
	second, _ := keydir.ReadManifest(part)
	scribble(part, 0xee)
	scribble(first.IDs, 9)
	if !slices.Equal(second.IDs, []int{5, 4, 3}) || second.Generation != 3 {
		t.Errorf("P2: ReadManifest keeps what it was handed or what it answered: %+v", second)
	}
}
