package keydir_test

import (
	"bytes"
	"encoding/binary"
	"encoding/hex"
	"hash/crc32"
	"testing"

	"keydir/api"
)

// sealed puts the sum of the body ahead of it: told by the library, so that the program is not held against itself.
func sealed(body []byte) []byte {
	return append(binary.BigEndian.AppendUint32(nil, crc32.ChecksumIEEE(body)), body...)
}

func unhex(t *testing.T, s string) []byte {
	t.Helper()
	b, err := hex.DecodeString(s)
	if err != nil {
		t.Fatal(err)
	}
	return b
}

func errno(e error) api.Errno {
	n, _ := api.Tell(e)
	return n
}

// guarded lays b into the midst of a longer list, so that its spare room can be looked at too.
func guarded(b []byte) (part, whole []byte) {
	whole = bytes.Repeat([]byte{0xa5}, len(b)+64)
	copy(whole[32:], b)
	return whole[32 : 32+len(b)], whole
}

// scribble writes over all of b, its spare room too.
func scribble[E any](b []E, x E) {
	b = b[:cap(b)]
	for i := range b {
		b[i] = x
	}
}
