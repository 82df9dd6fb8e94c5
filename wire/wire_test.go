package wire_test

import (
	"bytes"
	"encoding/binary"
	"hash/crc32"
	"math"
	"strings"
	"testing"

	"copydesk/api"
	"copydesk/wire"
)

// edges are the numbers at which a short number gets a byte more, and their neighbours.
func edges() []uint64 {
	l := []uint64{0, 1, 2, math.MaxUint64 - 1, math.MaxUint64}
	for bits := 7; bits < 64; bits += 7 {
		x := uint64(1) << bits
		l = append(l, x-1, x, x+1)
	}
	return l
}

// numbers tells the same numbers at each run.
func numbers(seed uint64) func() uint64 {
	return func() uint64 {
		seed = seed*6364136223846793005 + 1442695040888963407
		return seed ^ seed>>29
	}
}

// P1.1

func TestNumberOfTheExamples(t *testing.T) {
	for _, x := range []struct {
		n    uint64
		want []byte
	}{
		{0, []byte{0}},
		{127, []byte{127}},
		{128, []byte{128, 1}},
		{300, []byte{172, 2}},
		{1<<63 - 1, []byte{255, 255, 255, 255, 255, 255, 255, 255, 127}},
		{1 << 63, []byte{128, 128, 128, 128, 128, 128, 128, 128, 128, 1}},
		{math.MaxUint64, []byte{255, 255, 255, 255, 255, 255, 255, 255, 255, 1}},
	} {
		if got := wire.Number(nil, x.n); !bytes.Equal(got, x.want) {
			t.Errorf("Number(%d) = %v, want %v", x.n, got, x.want)
		}
	}
}

func TestNumberAndSizeAtEachLength(t *testing.T) {
	lengths := map[int]bool{}
	for _, n := range edges() {
		want := binary.AppendUvarint([]byte("ab"), n)
		if got := wire.Number([]byte("ab"), n); !bytes.Equal(got, want) {
			t.Errorf("Number(ab, %d) = %v, want %v", n, got, want)
		}
		if got := wire.Size(n); got != len(want)-2 {
			t.Errorf("Size(%d) = %d, want %d", n, got, len(want)-2)
		}
		lengths[wire.Size(n)] = true
	}
	for size := 1; size <= 10; size++ {
		if !lengths[size] {
			t.Errorf("no number of %d bytes was tried", size)
		}
	}
}

func TestPieceAtEachLength(t *testing.T) {
	for _, n := range []int{0, 1, 127, 128, 16383, 16384, api.MaxPiece - 1, api.MaxPiece} {
		p := strings.Repeat("x", n)
		want := append(binary.AppendUvarint([]byte("ab"), uint64(n)), p...)
		got, e := wire.Piece([]byte("ab"), p)
		if e != api.OK || !bytes.Equal(got, want) {
			t.Errorf("Piece of %d bytes: %d bytes, error %d", n, len(got), e)
		}
	}
}

func TestPieceTooLong(t *testing.T) {
	for _, n := range []int{api.MaxPiece + 1, 2 * api.MaxPiece} {
		if got, e := wire.Piece([]byte("ab"), strings.Repeat("x", n)); e != api.ErrLong || len(got) != 0 {
			t.Errorf("Piece of %d bytes: %d bytes, error %d", n, len(got), e)
		}
	}
}

// What is put must be in memory of its own: neither b nor the room behind it may change, by the call or by what is done to its answer.
func TestPuttingLeavesWhatIsHandedIn(t *testing.T) {
	puts := map[string]func([]byte) []byte{
		"Number":       func(b []byte) []byte { return wire.Number(b, 300) },
		"Piece":        func(b []byte) []byte { l, _ := wire.Piece(b, "xyz"); return l },
		"Piece of 0":   func(b []byte) []byte { l, _ := wire.Piece(b, ""); return l },
		"Piece's fail": func(b []byte) []byte { l, _ := wire.Piece(b, strings.Repeat("x", api.MaxPiece+1)); return l },
	}
	for name, put := range puts {
		room := bytes.Repeat([]byte{7}, 64)
		one, two := put(room[:2]), put(room[:2])
		again := bytes.Clone(two)
		one = one[:cap(one)]
		for i := range one {
			one[i] = 9
		}
		if !bytes.Equal(room, bytes.Repeat([]byte{7}, 64)) {
			t.Error(name, "wrote into what was handed in", room)
		}
		if !bytes.Equal(two, again) {
			t.Error(name, "answered the same memory twice")
		}
	}
}

func TestSum(t *testing.T) {
	if got := wire.Sum([]byte("123456789")); got != 0xCBF43926 {
		t.Errorf("the sum of 123456789 is %X", got)
	}
	if wire.Sum(nil) != 0 || wire.Sum([]byte{}) != 0 {
		t.Error("the sum of nothing is not 0")
	}
	next := numbers(1)
	for size := range 300 {
		b := make([]byte, size)
		for i := range b {
			b[i] = byte(next())
		}
		if got, want := wire.Sum(b), crc32.ChecksumIEEE(b); got != want {
			t.Fatalf("the sum of %v is %X, want %X", b, got, want)
		}
	}
	for i := range 256 {
		if b := []byte{byte(i)}; wire.Sum(b) != crc32.ChecksumIEEE(b) {
			t.Error("the sum of the byte", i)
		}
	}
}

// P1.3

func TestSumTellsChangesWithin32Bits(t *testing.T) {
	next := numbers(2)
	b := make([]byte, 13)
	for i := range b {
		b[i] = byte(next())
	}
	sum := wire.Sum(b)
	for at := range 8 * len(b) {
		for range 200 {
			burst := uint32(next()>>16) | 1
			if other := changed(b, at, burst); wire.Sum(other) == sum {
				t.Fatalf("the sum is blind for %08X at bit %d", burst, at)
			}
		}
		for _, burst := range []uint32{1, 3, 1<<31 | 1, math.MaxUint32} {
			if other := changed(b, at, burst); wire.Sum(other) == sum {
				t.Fatalf("the sum is blind for %08X at bit %d", burst, at)
			}
		}
	}
}

// changed turns the bits of burst within a copy of b, from the bit at on, the lowest one of each byte first.
func changed(b []byte, at int, burst uint32) []byte {
	out := bytes.Clone(b)
	for i := range 32 {
		if bit := at + i; burst>>i&1 == 1 && bit < 8*len(b) {
			out[bit/8] ^= 1 << (bit % 8)
		}
	}
	return out
}
