package codec

import (
	"bytes"

	"keydir/api"
)

// Where the parts of a record stand, behind its sum.
const (
	seqAt       = sumSize
	deleteAt    = seqAt + 8
	keySizeAt   = deleteAt + 1
	valueSizeAt = keySizeAt + 1
	keyAt       = valueSizeAt + 2
)

// EncodeRecord writes a record.
func EncodeRecord(r api.Record) ([]byte, error) {
	if err := checkRecord(r); err != nil {
		return nil, err
	}
	b := make([]byte, keyAt+len(r.Key)+len(r.Value))
	putNumber(b[seqAt:deleteAt], r.Seq)
	if r.Delete {
		b[deleteAt] = 1
	}
	putNumber(b[keySizeAt:valueSizeAt], uint64(len(r.Key)))
	putNumber(b[valueSizeAt:keyAt], uint64(len(r.Value)))
	copy(b[keyAt:], r.Key)
	copy(b[keyAt+len(r.Key):], r.Value)
	seal(b)
	return b, nil
}

func checkRecord(r api.Record) error {
	if len(r.Key) < 1 || len(r.Key) > api.MaxKey {
		return api.ErrKey
	}
	if len(r.Value) > api.MaxValue || r.Delete && r.Value != "" {
		return api.ErrValue
	}
	return nil
}

// DecodeRecord reads the record at the front of b, and tells how many bytes it has.
func DecodeRecord(b []byte) (api.Record, int, error) {
	r, ok := splitRecord(b)
	if !ok {
		return api.Record{}, 0, api.ErrRecord
	}
	// Writing it again asks for all at once: sum, bounds, and bytes that tell nothing else.
	again, err := EncodeRecord(r)
	if err != nil || !bytes.HasPrefix(b, again) {
		return api.Record{}, 0, api.ErrRecord
	}
	return r, len(again), nil
}

// splitRecord takes the bytes at the front of b for a record, if they are long enough for their lengths and these are none too great to be copied.
func splitRecord(b []byte) (api.Record, bool) {
	if len(b) < keyAt {
		return api.Record{}, false
	}
	keySize := int(number(b[keySizeAt:valueSizeAt]))
	valueSize := int(number(b[valueSizeAt:keyAt]))
	if keySize > api.MaxKey || valueSize > api.MaxValue || len(b) < keyAt+keySize+valueSize {
		return api.Record{}, false
	}
	valueAt := keyAt + keySize
	return api.Record{
		Seq:    number(b[seqAt:deleteAt]),
		Key:    string(b[keyAt:valueAt]),
		Value:  string(b[valueAt : valueAt+valueSize]),
		Delete: b[deleteAt] == 1,
	}, true
}
