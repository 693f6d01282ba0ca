package codec

import (
	"bytes"
	"hash/crc32"
	"testing"
)

func TestSumOfTheDocument(t *testing.T) {
	if got := sum([]byte("123456789")); got != 0xcbf43926 {
		t.Errorf("sum of 123456789: %#x", got)
	}
}

func TestSumIsCRC32(t *testing.T) {
	var b []byte
	for i := range 600 {
		if got, want := sum(b), crc32.ChecksumIEEE(b); got != want {
			t.Fatalf("sum of %d bytes: %#x, want %#x", len(b), got, want)
		}
		b = append(b, byte(i*i+7*i))
	}
}

func TestNumbersHaveTheHighestByteFirst(t *testing.T) {
	for _, x := range []struct {
		n    uint64
		want []byte
	}{
		{0, []byte{0}},
		{255, []byte{255}},
		{0x0102, []byte{1, 2}},
		{0x01020304, []byte{1, 2, 3, 4}},
		{7, []byte{0, 0, 0, 0, 0, 0, 0, 7}},
		{1<<64 - 2, []byte{255, 255, 255, 255, 255, 255, 255, 254}},
	} {
		b := make([]byte, len(x.want))
		putNumber(b, x.n)
		if !bytes.Equal(b, x.want) {
			t.Errorf("putNumber(%d) = %v, want %v", x.n, b, x.want)
		}
		if got := number(b); got != x.n {
			t.Errorf("number(%v) = %d, want %d", b, got, x.n)
		}
	}
}
