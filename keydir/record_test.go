package keydir_test

import (
	"bytes"
	"encoding/binary"
	"math"
	"math/rand/v2"
	"slices"
	"strings"
	"testing"

	"keydir/api"
	"keydir/keydir"
)

// rawRecord writes a record by the document's words, whatever its parts are.
func rawRecord(seq uint64, deletes byte, keySize byte, valueSize uint16, rest string) []byte {
	b := binary.BigEndian.AppendUint64(nil, seq)
	b = append(b, deletes, keySize)
	b = binary.BigEndian.AppendUint16(b, valueSize)
	return sealed(append(b, rest...))
}

func rawOf(r api.Record) []byte {
	deletes := byte(0)
	if r.Delete {
		deletes = 1
	}
	return rawRecord(r.Seq, deletes, byte(len(r.Key)), uint16(len(r.Value)), r.Key+r.Value)
}

// goodRecords are records at all the edges that the document names.
func goodRecords() []api.Record {
	var l []api.Record
	for _, seq := range []uint64{0, 1, 7, 1 << 8, 0x0102030405060708, 1 << 63, math.MaxUint64} {
		for _, key := range []string{"a", "\x00", "\xff\xfe", "key", "ключ", strings.Repeat("k", api.MaxKey)} {
			for _, value := range []string{"", "1", "\x00", "\xff\x00\xff", strings.Repeat("v", api.MaxValue-1), strings.Repeat("v", api.MaxValue)} {
				l = append(l, api.Record{Seq: seq, Key: key, Value: value})
			}
			l = append(l, api.Record{Seq: seq, Key: key, Delete: true})
		}
	}
	return l
}

func wantNoRecord(t *testing.T, b []byte, why string) {
	t.Helper()
	r, n, err := keydir.Decode(b)
	if err != error(api.ErrRecord) || n != 0 || r != (api.Record{}) {
		t.Errorf("P3: Decode of %s: %+v, %d, %v, want ErrRecord alone: %x", why, r, n, err, b)
	}
}

func TestP3Examples(t *testing.T) {
	for _, x := range []struct {
		r    api.Record
		want string
	}{
		{api.Record{Seq: 7, Key: "a", Value: "1"}, "05865e120000000000000007000100016131"},
		{api.Record{Seq: 0, Key: "key"}, "249603f20000000000000000000300006b6579"},
		{api.Record{Seq: math.MaxUint64, Key: "k", Delete: true}, "b9b5e2abffffffffffffffff010100006b"},
	} {
		b, err := keydir.Encode(x.r)
		if !bytes.Equal(b, unhex(t, x.want)) || err != nil {
			t.Errorf("P3: Encode(%+v) = %x, %v, want %s", x.r, b, err, x.want)
		}
	}
	r, n, err := keydir.Decode(unhex(t, "05865e120000000000000007000100016131ff"))
	if r != (api.Record{Seq: 7, Key: "a", Value: "1"}) || n != 18 || err != nil {
		t.Errorf("P3: Decode of the example: %+v, %d, %v", r, n, err)
	}
}

func TestP3EncodeWritesTheRecord(t *testing.T) {
	for _, r := range goodRecords() {
		b, err := keydir.Encode(r)
		if want := rawOf(r); !bytes.Equal(b, want) || err != nil {
			t.Errorf("P3: Encode(%+v) = %x, %v, want %x", r, b, err, want)
		}
	}
}

func TestP3EncodeRefuses(t *testing.T) {
	longKey, longValue := strings.Repeat("k", api.MaxKey+1), strings.Repeat("v", api.MaxValue+1)
	for _, x := range []struct {
		r    api.Record
		want api.Errno
	}{
		{api.Record{}, api.ErrKey},
		{api.Record{Seq: 1, Value: "v"}, api.ErrKey},
		{api.Record{Key: longKey}, api.ErrKey},
		{api.Record{Key: strings.Repeat("k", 256)}, api.ErrKey},
		{api.Record{Key: strings.Repeat("k", 257), Value: "v"}, api.ErrKey},
		{api.Record{Key: strings.Repeat("ключ", 3)}, api.ErrKey},
		{api.Record{Key: "k", Value: longValue}, api.ErrValue},
		{api.Record{Key: "k", Value: strings.Repeat("v", 1<<16)}, api.ErrValue},
		{api.Record{Key: "k", Value: strings.Repeat("v", 1<<16+1)}, api.ErrValue},
		{api.Record{Key: "k", Value: "v", Delete: true}, api.ErrValue},
		{api.Record{Key: "k", Value: longValue, Delete: true}, api.ErrValue},
		{api.Record{Value: longValue}, api.ErrKey},
		{api.Record{Value: "v", Delete: true}, api.ErrKey},
		{api.Record{Key: longKey, Value: "v", Delete: true}, api.ErrKey},
	} {
		b, err := keydir.Encode(x.r)
		if b != nil || err != error(x.want) {
			t.Errorf("P3: Encode(%+v) = %x, %v, want error %d alone", x.r, b, err, x.want)
		}
	}
}

func TestP3DecodeReadsTheRecord(t *testing.T) {
	for _, r := range goodRecords() {
		b := rawOf(r)
		for _, more := range []string{"", "\x00", "\xff", string(b), strings.Repeat("more", 100)} {
			got, n, err := keydir.Decode(append(slices.Clone(b), more...))
			if got != r || n != len(b) || err != nil {
				t.Errorf("P3: Decode(%x and %d more) = %+v, %d, %v, want %+v", b, len(more), got, n, err, r)
			}
		}
	}
}

func TestP3DecodeRefusesWhatIsTooShort(t *testing.T) {
	wantNoRecord(t, nil, "nil")
	for _, r := range goodRecords() {
		b := rawOf(r)
		for n := range b {
			wantNoRecord(t, b[:n:n], "a piece")
			wantNoRecord(t, b[:n], "a piece with the rest in its spare room")
		}
	}
}

func TestP3DecodeRefusesATurnedBit(t *testing.T) {
	for _, r := range goodRecords() {
		b := append(rawOf(r), "more"...)
		for bit := range 8 * (len(b) - 4) {
			b[bit/8] ^= 1 << (bit % 8)
			wantNoRecord(t, b, "a turned bit")
			b[bit/8] ^= 1 << (bit % 8)
		}
	}
}

// The sum is right here and all the bytes are there: only what Encode refuses, or writes otherwise, tells that these are no records.
func TestP3DecodeRefusesWhatEncodeCouldNotWrite(t *testing.T) {
	for _, deletes := range []byte{0, 1, 2, 3, 128, 129, 255} {
		for _, keySize := range []byte{0, 1, 15, 16, 17, 128, 255} {
			for _, valueSize := range []uint16{0, 1, 63, 64, 65, 255, 256, 257, 320, 65535} {
				rest := strings.Repeat("x", int(keySize)+int(valueSize))
				b := rawRecord(9, deletes, keySize, valueSize, rest)
				good := deletes == 0 && valueSize <= 64 || deletes == 1 && valueSize == 0
				if !good || keySize < 1 || keySize > 16 {
					wantNoRecord(t, b, "a sealed wrong record")
					wantNoRecord(t, append(b, "more"...), "a sealed wrong record and more")
				} else if _, n, err := keydir.Decode(b); n != len(b) || err != nil {
					t.Errorf("P3: Decode(%x) = %d, %v", b, n, err)
				}
			}
		}
	}
}

// The sum is right for as many bytes as there are, but the lengths lead behind them, or end ahead of them.
func TestP3DecodeRefusesLengthsThatDoNotFit(t *testing.T) {
	for _, x := range []struct {
		keySize   byte
		valueSize uint16
		rest      string
	}{
		{1, 0, ""}, {1, 1, "k"}, {2, 0, "k"}, {16, 64, "k"}, {1, 64, "k"}, {16, 0, "fifteen bytes ."},
		{255, 0, "k"}, {1, 65535, "k"}, {255, 65535, ""}, {1, 0, "kv"}, {1, 1, "kvv"},
	} {
		wantNoRecord(t, rawRecord(7, 0, x.keySize, x.valueSize, x.rest), "lengths that do not fit")
	}
}

func TestP3DecodeRefusesOtherSums(t *testing.T) {
	b := rawRecord(7, 0, 1, 1, "k1")
	for _, front := range []string{"\x00\x00\x00\x00", "\xff\xff\xff\xff", string([]byte{b[3], b[2], b[1], b[0]}), string([]byte{^b[0], ^b[1], ^b[2], ^b[3]})} {
		wantNoRecord(t, append([]byte(front), b[4:]...), "another sum")
	}
	wantNoRecord(t, make([]byte, 16), "zeros")
	wantNoRecord(t, make([]byte, 200), "zeros")
	wantNoRecord(t, bytes.Repeat([]byte{255}, 200), "ones")
}

// Whatever bytes there are: what Decode takes, Encode writes so, and nothing else is taken.
func TestP3DecodeAgreesWithEncode(t *testing.T) {
	rnd := rand.New(rand.NewPCG(3, 4))
	taken := 0
	for range 20000 {
		rest := make([]byte, rnd.IntN(100))
		for i := range rest {
			rest[i] = byte(rnd.Uint32())
		}
		b := rawRecord(rnd.Uint64(), byte(rnd.IntN(3)), byte(rnd.IntN(19)), uint16(rnd.IntN(70)), string(rest))
		size := min(16+int(b[13])+int(b[15]), len(b))
		b = append(sealed(b[4:size]), b[size:]...)
		r, n, err := keydir.Decode(b)
		if err != nil {
			wantNoRecord(t, b, "what is refused")
			continue
		}
		taken++
		again, err := keydir.Encode(r)
		if err != nil || !bytes.Equal(again, b[:n]) {
			t.Fatalf("P3: Decode(%x) = %+v, %d, but Encode tells %x, %v", b, r, n, again, err)
		}
	}
	if taken < 1000 {
		t.Errorf("only %d of the bytes were records", taken)
	}
}

func TestP2RecordsAreFresh(t *testing.T) {
	r := api.Record{Seq: 7, Key: "a", Value: "1"}
	first, _ := keydir.Encode(r)
	want := slices.Clone(first)
	scribble(first, 0xee)
	if second, err := keydir.Encode(r); !bytes.Equal(second, want) || err != nil {
		t.Errorf("P2: Encode hangs on what was done to its last answer: %x, %v", second, err)
	}
	for _, b := range [][]byte{want, want[:17], append(slices.Clone(want), "more"...), nil} {
		part, whole := guarded(b)
		before := slices.Clone(whole)
		got, n, err := keydir.Decode(part)
		if !bytes.Equal(whole, before) {
			t.Errorf("P2: Decode(%x) wrote into what it was handed", b)
		}
		if len(b) < len(want) {
			continue
		}
		scribble(part, 0xee)
		if got != r || n != len(want) || err != nil {
			t.Errorf("P2: Decode(%x) kept what it was handed: %+v, %d, %v", b, got, n, err)
		}
	}
}
