package wire_test

import (
	"bytes"
	"strings"
	"testing"

	"copydesk/api"
	"copydesk/wire"
)

// times is the byte c so many times, and then more.
func times(c byte, n int, more ...byte) []byte {
	return append(bytes.Repeat([]byte{c}, n), more...)
}

// P1.2

func TestReaderOfTheExamples(t *testing.T) {
	if r := wire.New([]byte{128, 0}); r.Number() != 0 || r.Err() != api.ErrBad {
		t.Error("128 0 is read as a number")
	}
	if r := wire.New([]byte{130, 1, 7}); r.Number() != 130 || r.Left() != 1 || r.Err() != api.OK {
		t.Error("130 1 7 is not read as 130 and one byte more")
	}
}

func TestReaderGoesOver(t *testing.T) {
	r := wire.New([]byte{5, 2, 'a', 'b', 128, 1, 0, 3, 0, 255, 10})
	if r.Left() != 11 || r.Number() != 5 || r.Left() != 10 {
		t.Error("the first number")
	}
	if r.Piece() != "ab" || r.Left() != 7 {
		t.Error("the first piece")
	}
	if r.Number() != 128 || r.Left() != 5 {
		t.Error("the second number")
	}
	if r.Piece() != "" || r.Left() != 4 || r.Err() != api.OK {
		t.Error("the empty piece")
	}
	if r.End() != api.ErrBad {
		t.Error("the end is told ahead of it")
	}
	if r.Piece() != "\x00\xff\x0a" || r.Left() != 0 || r.Err() != api.OK || r.End() != api.OK {
		t.Error("the last piece")
	}
}

func TestReaderOfNothing(t *testing.T) {
	for _, b := range [][]byte{nil, {}} {
		r := wire.New(b)
		if r == nil || r.Left() != 0 || r.Err() != api.OK || r.End() != api.OK {
			t.Error("a reader of nothing has an error ahead of a call")
		}
		if r.Number() != 0 || r.Err() != api.ErrMore || r.End() != api.ErrMore {
			t.Error("nothing is read as a number")
		}
		if r = wire.New(b); r.Piece() != "" || r.Err() != api.ErrMore {
			t.Error("nothing is read as a piece")
		}
	}
}

func TestNumbersThatAreNone(t *testing.T) {
	for _, x := range []struct {
		b    []byte
		want api.Errno
	}{
		{[]byte{128}, api.ErrMore},
		{[]byte{255, 255}, api.ErrMore},
		{times(255, 9), api.ErrMore},
		{times(128, 9), api.ErrMore},
		{times(255, 10), api.ErrBad},
		{times(128, 10), api.ErrBad},
		{times(128, 11), api.ErrBad},
		{times(128, 10, 0), api.ErrBad},
		{times(128, 10, 1), api.ErrBad},
		{times(255, 9, 129, 0), api.ErrBad},
		{times(255, 9, 2), api.ErrBad},
		{times(255, 9, 3), api.ErrBad},
		{times(255, 9, 127), api.ErrBad},
		{times(128, 9, 2), api.ErrBad},
		{times(255, 9, 0), api.ErrBad},
		{[]byte{128, 0}, api.ErrBad},
		{[]byte{255, 0, 1}, api.ErrBad},
		{[]byte{129, 128, 0}, api.ErrBad},
	} {
		r := wire.New(x.b)
		if n := r.Number(); n != 0 || r.Err() != x.want || r.End() != x.want || r.Left() != len(x.b) {
			t.Errorf("Number of %v: %d, error %d, %d left", x.b, n, r.Err(), r.Left())
		}
		r = wire.New(x.b)
		if p := r.Piece(); p != "" || r.Err() != x.want || r.End() != x.want || r.Left() != len(x.b) {
			t.Errorf("Piece of %v: %q, error %d, %d left", x.b, p, r.Err(), r.Left())
		}
	}
}

func TestNumbersOfTenBytes(t *testing.T) {
	r := wire.New(times(255, 9, 1, 128))
	if r.Number() != 1<<64-1 || r.Left() != 1 {
		t.Error("the greatest number")
	}
	r = wire.New(times(128, 9, 1))
	if r.Number() != 1<<63 || r.End() != api.OK {
		t.Error("2^63")
	}
}

func TestPiecesThatAreNone(t *testing.T) {
	full := wire.Number(nil, api.MaxPiece)
	above := wire.Number(nil, api.MaxPiece+1)
	for _, x := range []struct {
		name string
		b    []byte
		want api.Errno
	}{
		{"a byte is missing", []byte{1}, api.ErrMore},
		{"one of three is missing", []byte{3, 'a', 'b'}, api.ErrMore},
		{"all of the longest", full, api.ErrMore},
		{"one of the longest", append(full, make([]byte, api.MaxPiece-1)...), api.ErrMore},
		{"too long, none there", above, api.ErrLong},
		{"too long, all there", append(above, make([]byte, api.MaxPiece+1)...), api.ErrLong},
		{"a length of 2^31", wire.Number(nil, 1<<31), api.ErrLong},
		{"a length of 2^63", wire.Number(nil, 1<<63), api.ErrLong},
		{"the greatest length", wire.Number(nil, 1<<64-1), api.ErrLong},
		{"a length of needless bytes", []byte{129, 0, 'a'}, api.ErrBad},
		{"a length of too many bits", times(255, 9, 2), api.ErrBad},
	} {
		r := wire.New(x.b)
		if p := r.Piece(); p != "" || r.Err() != x.want || r.End() != x.want || r.Left() != len(x.b) {
			t.Errorf("%s: %d bytes, error %d, %d left", x.name, len(p), r.Err(), r.Left())
		}
	}
}

func TestPieceOfMaxPieceIsRead(t *testing.T) {
	p := strings.Repeat("y", api.MaxPiece)
	b, _ := wire.Piece(nil, p)
	r := wire.New(b)
	if r.Piece() != p || r.End() != api.OK {
		t.Error("a piece of MaxPiece bytes is not read")
	}
}

// Behind the first wrong call stands what would be right for another one: it must not be told, nor another error.
func TestNothingBehindTheFirstError(t *testing.T) {
	for _, x := range []struct {
		name  string
		b     []byte
		wrong func(r *wire.Reader)
		want  api.Errno
	}{
		{"a piece cut short", []byte{1, 5, 'a'}, func(r *wire.Reader) { r.Piece() }, api.ErrMore},
		{"a piece too long", append([]byte{1}, wire.Number(nil, api.MaxPiece+1)...), func(r *wire.Reader) { r.Piece() }, api.ErrLong},
		{"a number that is none", []byte{1, 128, 0, 1, 'a'}, func(r *wire.Reader) { r.Number() }, api.ErrBad},
	} {
		r := wire.New(x.b)
		r.Number()
		x.wrong(r)
		left := len(x.b) - 1
		for range 3 {
			if r.Number() != 0 || r.Piece() != "" || r.Left() != left || r.Err() != x.want || r.End() != x.want {
				t.Errorf("%s: error %d, %d left", x.name, r.Err(), r.Left())
			}
		}
	}
}

func TestEndChangesNothing(t *testing.T) {
	r := wire.New([]byte{4})
	if r.End() != api.ErrBad || r.End() != api.ErrBad || r.Err() != api.OK || r.Left() != 1 {
		t.Error("End with a byte left")
	}
	if r.Number() != 4 || r.End() != api.OK {
		t.Error("what stands behind an End that was asked too early")
	}
}

func TestReadersThatNobodyMade(t *testing.T) {
	copied := *wire.New([]byte{4})
	for name, r := range map[string]*wire.Reader{"nil": nil, "new": new(wire.Reader), "literal": {}, "a copy": &copied} {
		for range 2 {
			if r.Number() != 0 || r.Piece() != "" || r.Left() != 0 || r.Err() != api.ErrNil || r.End() != api.ErrNil {
				t.Error(name, "is taken for a reader")
			}
		}
	}
}

func TestReaderHasMemoryOfItsOwn(t *testing.T) {
	b := []byte{1, 'a', 3, 128, 1}
	r := wire.New(b[:4])
	for i := range b[:4] {
		b[i] = 9
	}
	if r.Piece() != "a" || r.Number() != 3 {
		t.Error("the reader reads what was changed behind New")
	}
	if r.Number() != 0 || r.Err() != api.ErrMore {
		t.Error("the reader reads the room behind what was handed in")
	}
	if !bytes.Equal(b, []byte{9, 9, 9, 9, 1}) {
		t.Error("the reader wrote", b)
	}
}

func TestReadersDoNotShare(t *testing.T) {
	b := []byte{1, 2, 3}
	one, two := wire.New(b), wire.New(b)
	one.Number()
	one.Piece()
	if one.Err() != api.ErrMore || two.Err() != api.OK || two.Left() != 3 || two.Number() != 1 {
		t.Error("what one reader does is to be seen in another one")
	}
}

// P1.3

func TestWhatIsPutIsReadAgain(t *testing.T) {
	next := numbers(3)
	for range 200 {
		var b []byte
		var nums []uint64
		var texts []string
		for range 20 {
			n := next() >> (next() % 64)
			p := strings.Repeat(string([]byte{byte(next())}), int(next()%300))
			b = wire.Number(b, n)
			b, _ = wire.Piece(b, p)
			nums, texts = append(nums, n), append(texts, p)
		}
		r := wire.New(b)
		for i, n := range nums {
			if got := r.Number(); got != n {
				t.Fatalf("the number %d is read as %d", n, got)
			}
			if got := r.Piece(); got != texts[i] {
				t.Fatalf("the piece %q is read as %q", texts[i], got)
			}
		}
		if r.End() != api.OK {
			t.Fatal("bytes are left, or an error", r.End())
		}
	}
}

func TestEdgesAreReadAgainAndNoFirstPartOfThem(t *testing.T) {
	for _, n := range edges() {
		b := wire.Number(nil, n)
		r := wire.New(b)
		if r.Number() != n || r.End() != api.OK {
			t.Errorf("%d is not read again", n)
		}
		for i := range b {
			if r := wire.New(b[:i]); r.Number() != 0 || r.Err() != api.ErrMore {
				t.Errorf("%d of the bytes of %d are read", i, n)
			}
		}
	}
}

// Whatever bytes are read, putting what they told must make them again.
func TestNothingElseIsRead(t *testing.T) {
	for i := range 1 << 16 {
		onlyOneWay(t, []byte{byte(i), byte(i >> 8)})
		onlyOneWay(t, []byte{byte(i) | 128, byte(i>>8) | 128, byte(i >> 4)})
	}
	for last := range 256 {
		for n := range 12 {
			onlyOneWay(t, times(128, n, byte(last)))
			onlyOneWay(t, times(255, n, byte(last)))
		}
	}
}

func FuzzReader(f *testing.F) {
	for _, b := range [][]byte{nil, {0}, {128}, {128, 0}, {3, 'a', 'b', 'c', 'd'}, times(255, 9, 1), times(255, 10)} {
		f.Add(b)
	}
	f.Fuzz(onlyOneWay)
}

func onlyOneWay(t *testing.T, b []byte) {
	t.Helper()
	r := wire.New(b)
	if n := r.Number(); r.Err() == api.OK && !bytes.Equal(wire.Number(nil, n), b[:len(b)-r.Left()]) {
		t.Errorf("%v is read as the number %d", b, n)
	}
	r = wire.New(b)
	p := r.Piece()
	if r.Err() != api.OK {
		return
	}
	if again, e := wire.Piece(nil, p); e != api.OK || !bytes.Equal(again, b[:len(b)-r.Left()]) {
		t.Errorf("%v is read as the piece %q", b, p)
	}
}
