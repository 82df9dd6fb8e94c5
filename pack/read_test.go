package pack_test

import (
	"bytes"
	"encoding/binary"
	"math"
	"reflect"
	"runtime"
	"strings"
	"testing"

	"copydesk/api"
	"copydesk/pack"
)

// P15.2

// great are numbers that are a byte longer, or do not fit into an int, a byte, 32 bits.
var great = []uint64{1 << 20, 1<<20 + 1, 1 << 21, 1 << 31, 1 << 32, 1<<32 + 1, 1 << 63, math.MaxUint64}

var (
	begun    = []byte{128}    // a number whose last byte is missing
	needless = []byte{128, 0} // one with a byte too many
)

func number(x uint64) []byte {
	return binary.AppendUvarint(nil, x)
}

func TestReadOfTheExamples(t *testing.T) {
	if x, e := pack.ReadNode(join(1, "p", 0, 0, 0, 0)); e != ok || !alike(reflect.ValueOf(x), reflect.ValueOf(of("p"))) {
		t.Errorf("%s, error %d", shown(x), e)
	}
	want := api.Step{Kind: api.StepPut, From: 1, To: 3, Mid: []api.Token{shut}}
	if x, e := pack.ReadStep([]byte{1, 1, 3, 1, 2}); e != ok || !alike(reflect.ValueOf(x), reflect.ValueOf(want)) {
		t.Errorf("%s, error %d", shown(x), e)
	}
	for s, want := range map[string]api.Errno{"\x07\x00": bad, "\x01\x01\x03\x01\x02\x00": bad, "\x01\x01": more} {
		if x, e := pack.ReadStep([]byte(s)); e != want || !empty(x) {
			t.Errorf("ReadStep of %v: %s, error %d", []byte(s), shown(x), e)
		}
	}
}

func TestRead(t *testing.T) {
	for _, x := range puttings() {
		got, e := read(x.x, x.want)
		if e != ok || !alike(reflect.ValueOf(got), reflect.ValueOf(x.x)) {
			t.Errorf("%T of %s: %s, error %d", x.x, shownBytes(x.want), shown(got), e)
		}
		asRead(t, x.x, x.want)
	}
}

// fault are bytes, and the first fault in them.
type fault struct {
	b    []byte
	want api.Errno
}

func TestFaultsOfSteps(t *testing.T) {
	never := bytes.Repeat([]byte{255}, 10)
	all := []fault{
		{nil, more}, {join(0), bad}, {join(7), bad}, {join(1), more}, {join(6), more}, {[]byte{255}, more}, {[]byte{129, 0}, bad}, {never, bad}, {join(7, never), bad}, {join(1, never), bad}, {join(7, 1<<20+1), bad}, {join(0, 0, 0), bad},
		{join(1, 1<<20), more}, {join(1, 1<<20+1), long}, {join(1, 0, 1<<20), more}, {join(1, 0, 1<<20+1), long}, {join(1, 1<<20+1, never), long}, {join(1, 1<<20, 1<<20, 0), ok}, {join(1, 0, 0, 1<<16), more}, {join(1, 0, 0, 1<<16+1), long}, {join(1, 0, 0, 1<<16+1, 0), long},
		{join(1, 0, 0, 1<<20+1), long}, {join(1, 0, 0, never), bad}, {join(1, 0, 0, 1), more}, {join(1, 0, 0, 1, 0), bad}, {join(1, 0, 0, 1, 5), bad}, {join(1, 0, 0, 1, 1<<20+1), bad}, {join(1, 0, 0, 1, never), bad}, {join(1, 0, 0, 1, begun), more}, {join(1, 0, 0, 2, 2), more}, {join(1, 0, 0, 2, 2, 5), bad}, {join(1, 0, 0, 2, 5, 2), bad},
		{join(1, 0, 0, 1, 2, 0), bad}, {join(1, 0, 0, 0, 0), bad}, {join(1, 0, 0, 0, 255), bad},
		{join(1, 0, 0, 1, 4), more}, {join(1, 0, 0, 1, 4, 255, 0), ok}, {join(1, 0, 0, 1, 4, 256, 0), bad}, {join(1, 0, 0, 1, 4, 256), bad}, {join(1, 0, 0, 1, 4, 1<<20+1, 0), bad}, {join(1, 0, 0, 1, 4, 255), more}, {join(1, 0, 0, 1, 4, 0, 1<<16+1), long}, {join(1, 0, 0, 1, 4, 0, 1), more},
		{join(1, 0, 0, 1, 1), more}, {join(1, 0, 0, 1, 1, 2, "a"), more}, {join(1, 0, 0, 1, 1, 1<<20+1), long}, {join(1, 0, 0, 1, 1, 1<<20), more}, {join(1, 0, 0, 1, 1, 0, 1<<16+1), long}, {join(1, 0, 0, 1, 1, 0, 0, 1<<16+1), long}, {join(1, 0, 0, 1, 1, 0, 1<<16), more}, {join(1, 0, 0, 1, 3, 0, 0, 1, 0, 1<<16+1), long}, {join(1, 0, 0, 1, 3, 0, 0, 1, 0, 1, 1, "a"), more},
		{join(2, 0, 0, 0, 0, 1<<20, 0), ok}, {join(2, 0, 0, 0, 0, 1<<20+1, 0), long}, {join(2, 0, 0, 0, 1<<20+1, 0, 0), long}, {join(2, 0, 0, 1<<20+1, 0, 0, 0), long}, {join(2, 0, 1<<20+1, 0, 0, 0, 0), long}, {join(2, 0, 0, 0, 0, 0), more}, {join(2, 0, 0, 0, 0, 0, 0, 0), bad},
		{join(3, 0, 0, 1, "a"), more}, {join(3, 0, 0, 1, "a", 0), ok}, {join(3, 0, 0, 1, "a", 1<<16+1), long}, {join(4, 0, 0, 1<<20+1), long}, {join(4, 0, 0, 0, 1, 0, 0), ok}, {join(4, 0, 1<<20+1, 0, 0), long}, {join(4, 0, 0, 0, 0, 0), bad},
		{join(5, 0, 0, 0), ok}, {join(5, 0, 0), more}, {join(5, 0, 1<<20+1), long}, {join(5, 0, 0, 1<<20+1), long}, {join(5, 0, 0, 0, 0), bad}, {join(5, 1<<20+1, 0, 0), long}, {join(6, 0, 0, 1, 5), bad}, {join(6, 0, 0, 0), ok},
	}
	for _, x := range great {
		e := long
		if x == 1<<20 {
			e = more
		}
		all = append(all, fault{number(x), bad}, fault{join(1, number(x)), e}, fault{join(3, 0, number(x)), e}, fault{join(2, 0, 0, number(x)), e}, fault{join(2, 0, 0, 0, number(x)), e}, fault{join(2, 0, 0, 0, 0, number(x)), e},
			fault{join(1, 0, 0, number(x)), long}, fault{join(1, 0, 0, 1, number(x)), bad}, fault{join(6, 0, 0, 1, 4, number(x)), bad}, fault{join(5, 0, number(x)), e}, fault{join(3, 0, 0, 0, number(x)), long})
	}
	for _, x := range all {
		got, e := pack.ReadStep(x.b)
		if e != x.want || e != ok && !empty(got) {
			t.Errorf("ReadStep of %v: %s, error %d, want %d", x.b, shown(got), e, x.want)
		}
		asRead(t, api.Step{}, x.b)
		if got, e := pack.ReadSteps(join(2, 5, 1, 0, 0, x.b)); e != x.want || e != ok && len(got) > 0 {
			t.Errorf("ReadSteps of one and %v: %s, error %d, want %d", x.b, shown(got), e, x.want)
		}
		asRead(t, []api.Step(nil), join(2, 5, 1, 0, 0, x.b))
		asRead(t, []api.Step(nil), join(2, x.b, 5, 1, 0, 0))
	}
}

func TestFaultsOfNodes(t *testing.T) {
	never := bytes.Repeat([]byte{128}, 11)
	for _, x := range []fault{
		{nil, more}, {join(0), more}, {join(0, 0, 0, 0), more}, {join(0, 0, 0, 0, 0), ok}, {join(0, 0, 0, 0, 0, 0), bad}, {join(2, "a"), more}, {join(1<<20 + 1), long}, {join(1 << 20), more}, {never, bad}, {join(0, never), bad},
		{join(0, 1<<16+1), long}, {join(0, 1<<16), more}, {join(0, 0, 1<<16+1), long}, {join(0, 0, 0, 1<<20+1), long}, {join(0, 0, 0, 0, 1<<16+1), long}, {join(0, 0, 0, 0, 1<<16), more}, {join(0, 0, 0, 0, 1<<20+1), long}, {join(0, 1, 0, 0, 0, 0, 0), ok}, {join(0, 1, 0), more}, {join(0, 1, 1<<20+1), long}, {join(0, 1, 0, 1<<20+1), long},
		{join(0, 0, 1, 0, 1<<16+1), long}, {join(0, 0, 1, 0, 1, 0, 0, 0, 0), ok}, {join(0, 0, 0, 0, 2, 0, 0, 0, 0, 0), more}, {join(0, 0, 0, 0, 2, 0, 0, 0, 0, 0, never), bad}, {join(0, 0, 0, 0, 1, 0, 0, 0, 0, 0, 0), bad}, {join(0, 0, 0, 0, 1, 0, 1<<16+1, never), long},
	} {
		if got, e := pack.ReadNode(x.b); e != x.want || e != ok && !empty(got) {
			t.Errorf("ReadNode of %v: %s, error %d, want %d", x.b, shown(got), e, x.want)
		}
		asRead(t, api.Node{}, x.b)
	}
}

func TestFaultsOfSchemas(t *testing.T) {
	for _, x := range []fault{
		{nil, more}, {join(0), more}, {join(0, 0), ok}, {join(0, 0, 0), bad}, {join(1<<16 + 1), long}, {join(1 << 16), more}, {join(0, 1<<16+1), long}, {join(1<<20 + 1), long},
		{join(1, 0, 0, 0, 0, 0, 0, 0), ok}, {join(1, 0, 0, 0, 1, 0, 0, 0), ok}, {join(1, 0, 0, 0, 2, 0, 0, 0), bad}, {join(1, 0, 0, 0, 2), bad}, {join(1, 0, 0, 0, 1<<20+1), bad}, {join(1, 0, 0, 0, begun), more}, {join(1, 0, 0, 0, []byte{129, 0}), bad}, {join(1, 0, 0, 0), more},
		{join(1, 0, 0, 1<<16+1), long}, {join(1, 0, 0, 0, 0, 1<<16+1), long}, {join(1, 0, 0, 0, 0, 0, 1<<16+1), long}, {join(1, 0, 0, 1, 0, 0, 0, 0, 0), ok}, {join(1, 0, 0, 1, 1<<20+1), long}, {join(1, 0, 0, 0, 0, 0, 1, 1<<20+1), long}, {join(1, 0, 1<<20+1), long}, {join(1, 1<<20+1), long},
		{join(1, 0, 0, 0, 0, 1, 0, 0, 0, 0, 0), ok}, {join(1, 0, 0, 0, 0, 1, 0, 0, 1, 0, 0), ok}, {join(1, 0, 0, 0, 0, 1, 0, 0, 2, 0, 0), bad}, {join(1, 0, 0, 0, 0, 1, 0, 0, 1<<32+1), bad}, {join(1, 0, 0, 0, 0, 1, 0, 1<<20+1), long}, {join(1, 0, 0, 0, 0, 1, 1<<20+1), long}, {join(1, 0, 0, 0, 0, 1, 0, 0), more},
		{join(0, 1, 0, 0, 0), ok}, {join(0, 1, 0, 1<<16+1), long}, {join(0, 1, 0, 0, 1<<16+1), long}, {join(0, 1, 0, 1, 0, 0), ok}, {join(0, 1, 0, 1, 1<<20+1), long}, {join(0, 1, 0, 0, 1, 0, 0, 3), bad}, {join(0, 1, 0, 0, 1, 0, 0, 1), ok}, {join(0, 1, 0, 0), more}, {join(0, 1, 0, 0, 0, 0), bad},
	} {
		if got, e := pack.ReadSchema(x.b); e != x.want || e != ok && !empty(got) {
			t.Errorf("ReadSchema of %v: %s, error %d, want %d", x.b, shown(got), e, x.want)
		}
		asRead(t, api.Schema{}, x.b)
	}
	for _, x := range great {
		for _, b := range [][]byte{join(1, 0, 0, 0, number(x)), join(0, 1, 0, 0, 1, 0, 0, number(x))} {
			if got, e := pack.ReadSchema(b); e != bad || !empty(got) {
				t.Errorf("ReadSchema of %v: %s, error %d", b, shown(got), e)
			}
		}
	}
}

// What is cut off anywhere lacks bytes; what has more behind it is bad.
func TestCutOffAndMore(t *testing.T) {
	for _, x := range puttings() {
		for i := range x.want {
			if got, e := read(x.x, x.want[:i]); e != more || !empty(got) {
				t.Errorf("%T of %s: %s, error %d", x.x, shownBytes(x.want[:i]), shown(got), e)
			}
		}
		for _, behind := range [][]byte{{0}, {1}, {255}, needless, x.want, bytes.Repeat([]byte{255}, 11), bytes.Repeat([]byte{0}, 1000)} {
			if got, e := read(x.x, join(x.want, behind)); e != bad || !empty(got) {
				t.Errorf("%T of %s and %v: %s, error %d", x.x, shownBytes(x.want), behind, shown(got), e)
			}
		}
	}
}

// pieces are bytes that are put in the place of one.
func pieces() [][]byte {
	all := [][]byte{{}, {0, 0}, begun, needless, {255}, {1, 'a'}, {2, 'a'}, {1, 0}, bytes.Repeat([]byte{128}, 10), bytes.Repeat([]byte{255}, 9), join(bytes.Repeat([]byte{255}, 9), 2), number(1 << 16), number(1<<16 + 1), number(256)}
	for c := range 10 {
		all = append(all, []byte{byte(c)})
	}
	for _, x := range great {
		all = append(all, number(x))
	}
	return all
}

// At each byte of each of these others stand, the rest behind them or nothing, one such place or two.
func TestOtherBytes(t *testing.T) {
	t.Parallel()
	var seen [6]int
	for _, x := range full() {
		b, e := put(nil, x.x)
		if e != ok {
			t.Fatal(x.name, e)
		}
		for i := range b {
			for _, p := range pieces() {
				for _, other := range [][]byte{join(b[:i], p, b[i+1:]), join(b[:i], p, b[i:]), join(b[:i], p)} {
					_, e := asRead(t, x.x, other)
					seen[e]++
					if k := i + len(p) + 1 + (i*7)%5; k < len(other) {
						_, e := asRead(t, x.x, join(other[:k], pieces()[(i*11+len(p))%len(pieces())], other[k+1:]))
						seen[e]++
					}
				}
			}
		}
	}
	if seen[ok] < 1000 || seen[long] < 10000 || seen[bad] < 10000 || seen[more] < 10000 {
		t.Errorf("errors: %v", seen)
	}
}

// All short bytes of some are read as the words say.
func TestShortBytes(t *testing.T) {
	t.Parallel()
	var seen [6]int
	some := []byte{0, 1, 2, 3, 4, 5, 6, 7, 127, 128, 255}
	var all func(b []byte)
	all = func(b []byte) {
		for _, x := range things() {
			_, e := asRead(t, x, b)
			seen[e]++
		}
		if len(b) == 4 {
			return
		}
		for _, c := range some {
			all(append(b[:len(b):len(b)], c))
		}
	}
	all(nil)
	// Of few bytes longer ones, too.
	some = []byte{0, 1, 2}
	var longer func(b []byte)
	longer = func(b []byte) {
		for _, x := range things() {
			_, e := asRead(t, x, b)
			seen[e]++
		}
		if len(b) < 9 {
			for _, c := range some {
				longer(append(b[:len(b):len(b)], c))
			}
		}
	}
	longer(nil)
	if seen[ok] < 300 || seen[bad] < 10000 || seen[more] < 10000 {
		t.Errorf("errors: %v", seen)
	}
}

// nest are the bytes of nodes, so deep that one stands in the last of them.
func nest(deep int, last ...any) []byte {
	var b []byte
	for range deep - 1 {
		b = join(b, 0, 0, 0, 0, 1)
	}
	return join(b, join(last...))
}

func TestReadOfNodesThatAreTooDeep(t *testing.T) {
	plain := []any{0, 0, 0, 0, 0}
	for deep := 1; deep < 40; deep++ {
		want := ok
		if deep > 16 {
			want = long
		}
		if _, e := asRead(t, api.Node{}, nest(deep, plain...)); e != want {
			t.Errorf("%d deep: error %d", deep, e)
		}
	}
	// It is the node's beginning at which it is told, whatever stands there.
	for _, x := range []fault{
		{nest(17), long}, {nest(17, 0), long}, {nest(17, begun), long}, {nest(17, needless), long}, {nest(17, 1<<20+1), long}, {nest(17, 5, "a"), long}, {nest(17, 0, 0, 0, 0, 0, 0), long}, {nest(17, bytes.Repeat([]byte{255}, 20)), long}, {nest(18), long},
		{nest(16, 0, 0, 0, 0, 1<<16), long}, {nest(16, 0, 0, 0, 0, 1<<16+1), long}, {nest(16, 0, 0, 0, 0), more}, {nest(16, 0, 0, 0, 0, begun), more}, {nest(16, 0, 0, 0, 0, needless), bad}, {nest(16, 0, 0, 0, 0, 0, 0), bad}, {nest(16, 0, 0, 0, needless, 1), bad}, {nest(16, 0, 0, 1, 0), more}, {nest(16), more},
		{join(0, 0, 0, 0, 2, nest(15, plain...), nest(15, plain...)), ok}, {join(0, 0, 0, 0, 2, nest(15, plain...), nest(16, plain...)), long}, {join(0, 0, 0, 0, 2, nest(16, plain...), needless), long}, {join(0, 0, 0, 0, 2, nest(15, needless), nest(16, plain...)), bad}, {join(0, 0, 0, 0, 3, nest(15, plain...), nest(14, 0, 0, 0, 0, 2, plain[0], 0, 0, 0, 0, 0, 0, 0, 0, 0), nest(15, plain...)), ok},
	} {
		if got, e := pack.ReadNode(x.b); e != x.want || e != ok && !empty(got) {
			t.Errorf("ReadNode of %v: error %d, want %d", x.b, e, x.want)
		}
		asRead(t, api.Node{}, x.b)
	}
}

// Of two faults the first from the left is told, whichever they are.
func TestFirstFaultFromTheLeft(t *testing.T) {
	// Steps of the one form, each of which goes on behind its fault.
	wrongs := []fault{
		{join(0, 0, 0, 0), bad}, {join(7, 0, 0, 0), bad}, {join(1, 1<<20+1, 0, 0), long}, {join(1, 0, 1<<20+1, 0), long}, {join(1, 0, 0, 1, 9), bad}, {join(1, 0, 0, 1, 4, 256, 0), bad}, {join(1, 0, needless, 0), bad}, {join(1, 0, 0, 1<<16+1), long}, {join(3, 0, 0, 1<<20+1, 0), long}, {join(5, 0, 0, 1<<20+1), long},
	}
	for _, a := range wrongs {
		for _, b := range append(wrongs, fault{nil, more}) {
			if got, e := pack.ReadSteps(join(3, 5, 0, 0, 0, a.b, b.b)); e != a.want || len(got) > 0 {
				t.Errorf("ReadSteps of %v, %v: error %d, want %d", a.b, b.b, e, a.want)
			}
			asRead(t, []api.Step(nil), join(3, a.b, 5, 0, 0, 0, b.b))
		}
	}
}

// Bytes may tell of lists within lists that are far longer than they are: the call ends all the same, at the first fault.
func TestBytesThatPromiseMuch(t *testing.T) {
	kids := bytes.Repeat(join(0, 0, 0, 0, 1<<16), 15)
	for _, x := range []struct {
		x    any
		b    []byte
		want api.Errno
	}{
		{api.Node{}, kids, more}, {api.Node{}, join(kids, 0, 0, 0, 0, 1<<16), long}, {api.Node{}, join(kids, needless), bad}, {api.Node{}, join(kids, 0, 1<<16+1), long}, {api.Node{}, join(0, 1<<16, 1<<20), more},
		{[]api.Step(nil), join(1<<16, 1, 0, 0, 1<<16, 1, 0, 1<<16, 0), more}, {[]api.Step(nil), join(1<<16, 7), bad}, {[]api.Step(nil), join(1<<16, 1, 1<<20+1), long}, {[]api.Step(nil), join(1<<16, 1, 0, 0, 1<<16, 7), bad},
		{api.Schema{}, join(1<<16, 0, 0, 1<<16, 0), more}, {api.Schema{}, join(1<<16, 0, 0, 0, 2), bad},
	} {
		var ahead, behind runtime.MemStats
		runtime.ReadMemStats(&ahead)
		got, e := read(x.x, x.b)
		runtime.ReadMemStats(&behind)
		if e != x.want || !empty(got) {
			t.Errorf("%T of %v: error %d, want %d", x.x, x.b, e, x.want)
		}
		if used := behind.TotalAlloc - ahead.TotalAlloc; used > 1<<16 {
			t.Errorf("%T of %v takes %d bytes of memory", x.x, x.b, used)
		}
	}
}

// Texts are as long as a piece may be.
func TestReadOfLongTexts(t *testing.T) {
	s := strings.Repeat("x", 1<<20)
	for _, x := range []struct {
		b    []byte
		want api.Errno
	}{
		{join(1<<20, s, 0, 0, 0, 0), ok}, {join(1<<20, s[1:], 0, 0, 0), more}, {join(1<<20+1, s, "x", 0, 0, 0, 0), long}, {join(0, 0, 0, 1<<20, s, 0), ok}, {join(0, 1, 1<<20, s, 1<<20, s, 0, 0, 0), ok}, {join(0, 1, 1<<20, s, 1<<20+1, s, "x", 0, 0, 0), long},
	} {
		if _, e := asRead(t, api.Node{}, x.b); e != x.want {
			t.Errorf("%s: error %d, want %d", shownBytes(x.b), e, x.want)
		}
	}
}
