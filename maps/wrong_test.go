package maps_test

import (
	"math"
	"testing"

	"copydesk/api"
	"copydesk/maps"
)

// P10.1: which maps may be, and which error is told where several apply.

var maybes = []struct {
	m string
	e api.Errno
}{
	{"", ok}, {"0,0,1", ok}, {"0,1,0", ok}, {"5,1,1", ok},
	// Numbers below 0, of MaxPlace, of one more.
	{"-1,1,1", arg}, {"1,-1,1", arg}, {"1,1,-1", arg}, {"1,-1,0", arg}, {"1,0,-1", arg}, {"-1,0,1", arg}, {"1,-1,-1", arg}, {"-2,-2,-2", arg},
	{"m,1,1", ok}, {"1,m,1", ok}, {"1,1,m", ok}, {"m,m,m", ok}, {"m,0,m", ok}, {"m,m,0", ok}, {"0,m,m", ok},
	{"m+1,1,1", arg}, {"1,m+1,1", arg}, {"1,1,m+1", arg}, {"m+1,0,1", arg}, {"1,0,m+1", arg}, {"1,m+1,0", arg},
	// Old and New both 0.
	{"0,0,0", arg}, {"3,0,0", arg}, {"m,0,0", arg}, {"1,1,0 3,0,0", arg}, {"1,0,0 3,1,1", arg},
	// An At below, at and above the last one's At and Old together.
	{"2,3,1 4,1,1", arg}, {"2,3,1 5,1,1", arg}, {"2,3,1 6,1,1", ok}, {"2,3,1 2,1,1", arg}, {"2,3,1 1,1,1", arg}, {"2,3,1 0,0,1", arg},
	{"2,0,1 2,0,1", arg}, {"2,0,1 3,0,1", ok}, {"2,0,1 1,0,1", arg}, {"2,0,9 3,0,1", ok}, {"2,3,0 5,0,1", arg}, {"2,3,0 6,0,1", ok},
	{"0,m,0 m,1,1", arg}, {"0,m-1,0 m-1,1,1", arg}, {"0,m-1,0 m,1,1", ok}, {"m,0,1 m,0,1", arg}, {"m-1,0,1 m,0,1", ok}, {"m,m,0 m,1,1", arg},
	{"0,1,1 2,1,1 4,1,1", ok}, {"0,1,1 2,1,1 3,1,1", arg}, {"0,2,1 2,1,1 4,1,1", arg}, {"0,1,1 3,1,1 2,1,1", arg}, {"0,5,1 6,1,1 7,1,1", arg}, {"0,1,1 6,1,1 2,0,1", arg},
	// One that may not be, at the beginning, between, at the end.
	{"-1,1,1 2,1,1 4,1,1", arg}, {"0,1,1 2,-1,1 4,1,1", arg}, {"0,1,1 2,1,1 4,1,-1", arg}, {"0,1,1 2,1,1 4,m+1,1", arg}, {"0,1,1 2,1,m+1 4,1,1", arg},
}

// nothingOf fails unless all calls tell nothing of m, which may not be.
func nothingOf(t *testing.T, m []api.Range) {
	t.Helper()
	for _, place := range []int{0, 1, 2, 5, 6, 70, 200, most, -1, most + 1, math.MaxInt, math.MinInt} {
		for _, lean := range []int{-1, 0, 1, math.MinInt} {
			goIs(t, m, place, lean, api.Moved{Place: place})
			throughIs(t, alone(m), place, lean, api.Moved{Place: place})
		}
		touchesIs(t, m, place, place, false)
		touchesIs(t, m, 0, place, false)
		touchesIs(t, m, place, 0, false)
	}
	turnIs(t, m, nil)
	deltaIs(t, m, 0)
	touchesIs(t, m, math.MinInt, math.MaxInt, false)
}

func TestCheck(t *testing.T) {
	for _, x := range maybes {
		checkIs(t, ranges(x.m), x.e)
		chainIs(t, alone(ranges(x.m)), x.e)
		if x.e != ok {
			nothingOf(t, ranges(x.m))
		}
	}
}

// Numbers whose sums are more than an int holds are no better.
func TestCheckOfTheGreatestNumbers(t *testing.T) {
	numbers := []int{math.MinInt, math.MinInt + 1, -1 << 32, -1, 0, 1, most, most + 1, 1 << 32, math.MaxInt - 1, math.MaxInt}
	for _, at := range numbers {
		for _, old := range numbers {
			for _, came := range numbers {
				m := []api.Range{{At: at, Old: old, New: came}}
				want := arg
				if mayBeByWords(m) {
					want = ok
				}
				checkIs(t, m, want)
				if want != ok {
					nothingOf(t, m)
				}
				m = append(m, api.Range{At: 5, Old: 1})
				want = arg
				if mayBeByWords(m) {
					want = ok
				}
				checkIs(t, m, want)
			}
		}
	}
}

func TestMapsThatAreTooLong(t *testing.T) {
	checkIs(t, times(api.MaxRanges-1), ok)
	checkIs(t, times(api.MaxRanges), ok)
	for _, n := range []int{api.MaxRanges + 1, api.MaxRanges + 2, 5000} {
		checkIs(t, times(n), long)
		chainIs(t, alone(times(n)), long)
		nothingOf(t, times(n))
		// That of many is told ahead of that of what may not be, wherever it stands.
		for _, i := range []int{0, 1, api.MaxRanges - 1, api.MaxRanges, n - 1} {
			m := times(n)
			m[i] = api.Range{At: -1}
			checkIs(t, m, long)
			chainIs(t, alone(m), long)
		}
	}
	for i := range api.MaxRanges {
		m := times(api.MaxRanges)
		m[i].New = most + 1
		checkIs(t, m, arg)
		nothingOf(t, m)
		m = times(api.MaxRanges)
		m[i].Old = 2
		if i < api.MaxRanges-1 {
			checkIs(t, m, arg)
		} else {
			checkIs(t, m, ok)
		}
	}
}

// All maps of one or two Ranges of a few numbers.
func TestCheckOfAllFewRanges(t *testing.T) {
	t.Parallel()
	numbers := []int{-1, 0, 1, 2, most - 1, most, most + 1}
	var one []api.Range
	for _, at := range numbers {
		for _, old := range numbers {
			for _, came := range numbers {
				one = append(one, api.Range{At: at, Old: old, New: came})
			}
		}
	}
	for _, a := range one {
		for _, b := range one {
			for _, m := range [][]api.Range{{a}, {a, b}} {
				if got := maps.Check(m); (got == ok) != mayBeByWords(m) || got != ok && got != arg {
					t.Fatalf("Check of %s is %d", told(m), got)
				}
			}
		}
	}
}
