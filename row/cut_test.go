package row_test

import (
	"math"
	"slices"
	"testing"

	"copydesk/api"
	"copydesk/row"
)

// P8.2: Cut, Put

// cutIs fails unless Cut answers so, by the words, too.
func cutIs(t *testing.T, l []api.Token, from, to int, want []api.Token, e api.Errno) {
	t.Helper()
	if got, gotE := row.Cut(l, from, to); gotE != e || !equal(got, want) {
		t.Errorf("Cut of %s from %d to %d: %s, error %d, want %s, %d", shown(l), from, to, shown(got), gotE, shown(want), e)
	}
	if got, gotE := cutByWords(l, from, to); gotE != e || !equal(got, want) {
		t.Errorf("Cut of %s from %d to %d: by the words %s, error %d, want %s, %d", shown(l), from, to, shown(got), gotE, shown(want), e)
	}
}

// putIs fails unless Put answers so, by the words, too.
func putIs(t *testing.T, l []api.Token, from, to int, mid, want []api.Token, e api.Errno) {
	t.Helper()
	if got, gotE := row.Put(l, from, to, mid); gotE != e || !equal(got, want) {
		t.Errorf("Put in %s from %d to %d %s: %s, error %d, want %s, %d", shown(l), from, to, shown(mid), shown(got), gotE, shown(want), e)
	}
	if got, gotE := putByWords(l, from, to, mid); gotE != e || !equal(got, want) {
		t.Errorf("Put in %s from %d to %d %s: by the words %s, error %d, want %s, %d", shown(l), from, to, shown(mid), shown(got), gotE, shown(want), e)
	}
}

const some = "(p 'a' 'b'^em ) /hr"

func TestCut(t *testing.T) {
	l := tokens(some)
	for _, x := range []struct {
		from, to int
		want     string
	}{
		{0, 5, some}, {0, 0, ""}, {5, 5, ""}, {2, 2, ""}, {0, 1, "(p"}, {4, 5, "/hr"}, {1, 3, "'a' 'b'^em"}, {2, 4, "'b'^em )"}, {3, 5, ") /hr"}, {0, 4, "(p 'a' 'b'^em )"}, {1, 5, "'a' 'b'^em ) /hr"},
	} {
		cutIs(t, l, x.from, x.to, tokens(x.want), ok)
	}
	cutIs(t, nil, 0, 0, nil, ok)
}

// wrongPlaces are from and to of which one is no place of a row of 5, or from is above to.
func wrongPlaces() [][2]int {
	return [][2]int{
		{-1, 0}, {-1, 3}, {-1, 5}, {-1, -1}, {-2, -1}, {0, -1}, {3, -1}, {-5, -3}, {1, 0}, {3, 2}, {5, 4}, {5, 0}, {0, 6}, {5, 6}, {6, 6}, {6, 5}, {6, 0}, {7, 9}, {-1, 6}, {6, -1},
		{math.MinInt, 0}, {math.MinInt, math.MaxInt}, {0, math.MaxInt}, {math.MaxInt, math.MinInt}, {math.MaxInt, math.MaxInt}, {math.MinInt, math.MinInt}, {0, math.MinInt}, {math.MaxInt, 5}, {1 << 32, 1 << 32}, {0, 1 << 32},
	}
}

func TestCutAndPutAtPlacesThatAreNone(t *testing.T) {
	l := tokens(some)
	many := times(tokens("'a'"), 1<<16)
	for _, x := range wrongPlaces() {
		cutIs(t, l, x[0], x[1], nil, place)
		for _, mid := range [][]api.Token{nil, tokens("'x'"), l} {
			putIs(t, l, x[0], x[1], mid, nil, place)
		}
		// That it is no place counts ahead of what would be too long.
		if got, e := row.Put(l, x[0], x[1], many); e != place || len(got) > 0 {
			t.Errorf("Put from %d to %d: error %d", x[0], x[1], e)
		}
	}
	for _, x := range [][2]int{{-1, 0}, {0, 1}, {1, 1}, {1, 0}, {-1, -1}, {0, -1}} {
		cutIs(t, nil, x[0], x[1], nil, place)
		putIs(t, nil, x[0], x[1], nil, nil, place)
		putIs(t, nil, x[0], x[1], l, nil, place)
	}
	// What stands behind the end, in the spare room, is at no place.
	cutIs(t, l[:3], 3, 4, nil, place)
	cutIs(t, l[:3], 4, 4, nil, place)
	putIs(t, l[:3], 3, 5, nil, nil, place)
}

func TestPut(t *testing.T) {
	l := tokens(some)
	for _, x := range []struct {
		from, to  int
		mid, want string
	}{
		{0, 0, "", some}, {5, 5, "", some}, {3, 3, "", some}, {0, 5, "", ""}, {0, 5, some, some}, {0, 5, "'x'", "'x'"}, {1, 3, "", "(p ) /hr"},
		{0, 0, "'x'", "'x' " + some}, {5, 5, "'x'", some + " 'x'"}, {2, 2, "'xy'", "(p 'axy' 'b'^em ) /hr"}, {2, 3, "'xy'^code", "(p 'a' 'xy'^code ) /hr"},
		{1, 3, "'x'", "(p 'x' ) /hr"}, {4, 5, "", "(p 'a' 'b'^em )"}, {0, 1, "", "'a' 'b'^em ) /hr"}, {0, 4, "", "/hr"}, {0, 1, "(h[level=1]", "(h[level=1] 'a' 'b'^em ) /hr"},
		{2, 2, ") (p", "(p 'a' ) (p 'b'^em ) /hr"}, {0, 0, some, some + some}, {5, 5, some, some + some}, {3, 5, "/zz[a=1]^x[b=2] '\x00'", "(p 'a' 'b'^em /zz[a=1]^x[b=2] '\x00'"},
	} {
		putIs(t, l, x.from, x.to, tokens(x.mid), tokens(x.want), ok)
	}
	putIs(t, nil, 0, 0, nil, nil, ok)
	putIs(t, nil, 0, 0, l, l, ok)
	putIs(t, l, 1, 4, l, then(l[:1], l, l[4:]), ok)
}

// All places of a row, and what is put in its place.
func TestCutAndPutEverywhere(t *testing.T) {
	for _, s := range []string{"", "'a'", some, "(h[level=1]^em[a=1] 'ab' ) ) /zz"} {
		l := tokens(s)
		for from := -2; from < len(l)+3; from++ {
			for to := -2; to < len(l)+3; to++ {
				want, e := cutByWords(l, from, to)
				cutIs(t, l, from, to, want, e)
				for _, mid := range [][]api.Token{nil, tokens("'x'"), tokens("/y[a=1]^em ) (z"), l} {
					want, e := putByWords(l, from, to, mid)
					putIs(t, l, from, to, mid, want, e)
				}
				if e != ok {
					continue
				}
				// Put of what was Cut, where it was, changes nothing (P8.4).
				mid, _ := row.Cut(l, from, to)
				putIs(t, l, from, to, mid, l, ok)
				less, _ := row.Put(l, from, to, nil)
				putIs(t, less, from, from, mid, l, ok)
			}
		}
	}
}

// Rows are cut, and put, as they stand: whatever their tokens are.
func TestCutAndPutOfWhatMayNotBe(t *testing.T) {
	l := lone()
	cutIs(t, l, 0, len(l), l, ok)
	for i := range l {
		cutIs(t, l, i, i+1, l[i:i+1], ok)
		putIs(t, l, i, i+1, l, slices.Concat(l[:i], l, l[i+1:]), ok)
		putIs(t, tokens("'ab'"), 1, 1, l[i:i+1], slices.Concat(tokens("'a'"), l[i:i+1], tokens("'b'")), ok)
	}
}

func TestPutOfMaxDoc(t *testing.T) {
	const most = 1 << 16
	many, one := times(tokens("'ab'^em"), most/2), tokens("/hr")
	for _, x := range []struct {
		n        int // of many
		from, to int
		mid      int
		e        api.Errno
	}{
		{most, 0, 0, 0, ok}, {most, most, most, 0, ok}, {most, 0, most, most, ok}, {most, 0, 0, 1, long}, {most, most, most, 1, long}, {most, 5, 5, 1, long}, {most, 5, 6, 1, ok}, {most, 5, 6, 2, long},
		{most, 5, 7, 1, ok}, {most, 0, most, most + 1, long}, {most - 1, 3, 3, 1, ok}, {most - 1, 3, 3, 2, long}, {0, 0, 0, most, ok}, {0, 0, 0, most + 1, long}, {3, 1, 2, most - 2, ok}, {3, 1, 2, most - 1, long},
		{most / 2, 0, 0, most / 2, ok}, {most / 2, 0, 0, most/2 + 1, long}, {most / 2, 0, most / 2, most, ok},
	} {
		l, mid := many[:x.n], times(one, x.mid)
		got, e := row.Put(l, x.from, x.to, mid)
		want, wantE := putByWords(l, x.from, x.to, mid)
		if e != x.e || wantE != x.e || !equal(got, want) {
			t.Errorf("Put in %d from %d to %d so many: %d: error %d, want %d", x.n, x.from, x.to, x.mid, e, x.e)
		}
	}
	// What is handed in may be more, if what comes is not; and Cut has no limit.
	more := times(tokens("'a'"), most+2)
	if got, e := row.Put(more, 0, 2, nil); e != ok || len(got) != most {
		t.Errorf("Put in %d from 0 to 2: %d tokens, error %d", len(more), len(got), e)
	}
	if got, e := row.Put(more, 0, 1, nil); e != long || len(got) != 0 {
		t.Errorf("Put in %d from 0 to 1: %d tokens, error %d", len(more), len(got), e)
	}
	if got, e := row.Put(more, 0, 0, nil); e != long || len(got) != 0 {
		t.Errorf("Put in %d of nothing: %d tokens, error %d", len(more), len(got), e)
	}
	if got, e := row.Cut(more, 0, len(more)); e != ok || len(got) != len(more) {
		t.Errorf("Cut of %d: %d tokens, error %d", len(more), len(got), e)
	}
}
