package maps_test

import (
	"testing"

	"copydesk/api"
	"copydesk/maps"
)

// P10.2: chains, and what goes through one.

func TestThroughOfTheExamples(t *testing.T) {
	throughIs(t, chain("2,3,0 / 2,0,3 ; 0~1"), 3, -1, moved("3"))
	throughIs(t, chain("2,3,0 / 2,0,3 ; 0~1"), 3, 1, moved("3"))
	throughIs(t, chain("2,3,0 / 2,0,3"), 3, 1, moved("5 abxl"))
	throughIs(t, chain("2,3,0 / 2,0,3"), 3, -1, moved("2 abxl"))
}

// Each map's own lines hold for the chain of it alone.
func TestThroughOneMap(t *testing.T) {
	for _, x := range lines {
		for _, lean := range aheads {
			throughIs(t, alone(ranges(x.m)), x.place, lean, moved(x.ahead))
		}
		for _, lean := range behinds {
			throughIs(t, alone(ranges(x.m)), x.place, lean, moved(x.behind))
		}
	}
}

var chainLines = []struct {
	c             string
	place         int
	ahead, behind string
}{
	// No map, maps of no Range.
	{"", 0, "0", "0"}, {"", most, "m", "m"}, {" / / ", 7, "7", "7"}, {" / ; 0~1", 7, "7", "7"}, {" / / / ; 1~2 0~3", 7, "7", "7"},
	// One behind the other, each from where the last one led to.
	{"0,0,2 / 2,0,2", 0, "0", "4"}, {"0,0,2 / 2,0,2", 1, "5", "5"}, {"0,0,1 / 1,1,0", 0, "0", "1 bl"}, {"0,0,1 / 1,1,0", 1, "1 al", "1 a"},
	{"3,2,0 / 3,2,0", 4, "3 abxl", "3 abxl"}, {"3,2,0 / 2,2,0", 4, "2 abxl", "2 abxl"},
	// Ahead of one map, behind of another: both, but not across.
	{"3,2,0 / 1,2,0", 3, "1 abl", "1 abl"}, {"3,2,0 / 1,2,0", 6, "2", "2"}, {"1,2,0 / 1,2,0", 3, "1 abl", "1 abl"},
	{"1,2,0 / 0,1,0", 3, "0 al", "0 a"}, {"1,2,0 / 1,2,0", 1, "1 b", "1 bl"}, {"1,2,0 / 0,0,1", 2, "2 abxl", "2 abxl"},
	// Places above MaxPlace go on as others do.
	{"0,0,m / 0,0,1", most, "2097153", "2097153"}, {"0,0,m / m,m,0", most, "m al", "m a"}, {"0,0,m / m-1,m,0", most, "m", "m"},
	{"0,0,m / m,m,1", most, "m+1 al", "m+1 a"}, {"0,0,m / 0,0,m / 0,0,m / 0,m,0", most, "3145728", "3145728"},
	{"m,0,1 / 0,1,0", most, "m-1", "m"}, {"0,0,2 / 0,2,0", most, "m", "m"},
	// A pair side by side: at the beginning, within, at the end, beside it.
	{"2,3,0 / 2,0,3 ; 0~1", 1, "1", "1"}, {"2,3,0 / 2,0,3 ; 0~1", 2, "2", "2"}, {"2,3,0 / 2,0,3 ; 0~1", 4, "4", "4"},
	{"2,3,0 / 2,0,3 ; 0~1", 5, "5", "5"}, {"2,3,0 / 2,0,3 ; 0~1", 6, "6", "6"},
	{"2,3,0 / 2,0,3", 2, "2 b", "5 bl"}, {"2,3,0 / 2,0,3", 5, "2 al", "5 a"}, {"2,3,0 / 2,0,3", 6, "6", "6"},
	// An Old of 0 is no place to be brought back to.
	{"2,0,3 / 2,3,0 ; 0~1", 2, "2 b", "2 a"}, {"2,0,3 / 9,3,0 ; 0~1", 2, "2", "5"}, {"2,0,3 / 1,9,0 ; 0~1", 2, "1 abxl", "1 abxl"},
	{"2,0,3 / 2,3,0 ; 0~1", 3, "3", "3"},
	// Where the second one has it is where it goes, wherever that is.
	{"2,3,0 / 7,0,3 ; 0~1", 2, "7", "7"}, {"2,3,0 / 7,0,3 ; 0~1", 4, "9", "9"}, {"2,3,0 / 7,0,3 ; 0~1", 5, "10", "10"}, {"2,3,0 / 7,0,3 ; 0~1", 6, "3", "3"},
	{"2,3,1 / 7,9,3 ; 0~1", 3, "8", "8"}, {"2,3,1 / 0,9,3 ; 0~1", 3, "1", "1"}, {"2,3,1 / 0,9,3 ; 0~1", 6, "0 abxl", "3 abxl"},
	{"0,m,0 / m,0,m ; 0~1", most, "2097152", "2097152"}, {"0,m,0 / 0,0,m ; 0~1", most, "m", "m"},
	// The Range with that number there, behind all ahead of it.
	{"0,1,0 2,2,0 6,0,1 / 0,0,1 1,9,2 12,1,0 ; 0~1", 0, "0", "0"}, {"0,1,0 2,2,0 6,0,1 / 0,0,1 1,9,2 12,1,0 ; 0~1", 1, "1", "1"},
	{"0,1,0 2,2,0 6,0,1 / 0,0,1 1,9,2 12,1,0 ; 0~1", 2, "2", "2"}, {"0,1,0 2,2,0 6,0,1 / 0,0,1 1,9,2 12,1,0 ; 0~1", 4, "4", "4"},
	{"0,1,0 2,2,0 6,0,1 / 0,0,1 1,9,2 12,1,0 ; 0~1", 5, "2 abxl", "4 abxl"},
	{"0,1,0 2,2,0 6,0,1 / 0,0,1 1,9,2 12,1,0 ; 0~1", 6, "2 abxl", "4 abxl"},
	{"0,1,0 2,2,0 6,0,1 / 5,0,1 9,0,2 12,1,0 ; 0~1", 3, "11", "11"}, {"0,1,0 2,2,0 6,0,1 / 5,8,1 14,0,2 17,1,0 ; 0~1", 3, "8", "8"},
	// Maps between are gone past by what is brought back alone.
	{"2,3,0 / 0,0,2 / 4,0,3 ; 0~2", 3, "5", "5"}, {"2,3,0 / 0,0,2 / 4,0,3 ; 0~2", 2, "4", "4"}, {"2,3,0 / 0,0,2 / 4,0,3 ; 0~2", 5, "7", "7"},
	{"2,3,0 / 0,0,2 / 4,0,3 ; 0~2", 1, "3", "3"}, {"2,3,0 / 0,0,2 / 4,0,3 ; 0~2", 6, "8", "8"}, {"2,3,0 / 0,0,2 / 4,0,3", 3, "4 abxl", "7 abxl"},
	{"2,3,0 / 0,9,0 / 0,0,3 ; 0~2", 3, "1", "1"}, {"2,3,0 / 0,9,0 / 0,0,3 ; 0~2", 6, "0 abxl", "3 abxl"},
	{"2,3,0 / 1,2,0 / 0,0,1 / 1,0,3 ; 0~3", 4, "3", "3"}, {"2,3,0 / 1,2,0 / 0,0,1 / 1,0,3 ; 0~3", 1, "5 b", "5 bl"},
	// Maps ahead of a pair, and behind it.
	{"0,0,1 / 2,3,0 / 2,0,3 / 3,1,0 ; 1~2", 2, "3 b", "3 bl"}, {"0,0,1 / 2,3,0 / 2,0,3 / 3,1,0 ; 1~2", 3, "3 al", "3 a"},
	{"0,1,0 / 2,3,0 / 2,0,3 / 0,0,1 ; 1~2", 0, "0 b", "1 bl"}, {"0,1,0 / 2,3,0 / 2,0,3 / 0,0,1 ; 1~2", 1, "0 al", "1 a"},
	{"1,3,0 / 1,1,0 / 1,0,1 ; 1~2", 2, "1 abxl", "1 abxl"}, {"1,3,0 / 1,1,0 / 1,0,1 / 0,2,0 ; 1~2", 4, "0 abxl", "0 abxl"},
	// Pairs within pairs, behind one another, across one another.
	{"1,4,0 / 0,2,0 / 0,0,2 / 1,0,4 ; 1~2 0~3", 3, "3", "3"}, {"1,4,0 / 0,2,0 / 0,0,2 / 1,0,4 ; 1~2 0~3", 0, "0", "0"},
	{"1,4,0 / 0,2,0 / 0,0,2 / 1,0,4 ; 0~3 1~2", 6, "6", "6"}, {"1,4,0 / 0,2,0 / 0,0,2 / 1,0,4 ; 1~2 0~3", 7, "7", "7"},
	{"1,4,0 / 0,2,0 / 0,0,2 / 1,0,4 ; 1~2", 3, "1 abxl", "5 abxl"}, {"1,4,0 / 0,2,0 / 0,0,2 / 1,0,4 ; 0~3", 0, "0 b", "6 bl"},
	{"1,2,0 / 1,0,2 / 2,2,0 / 2,0,2 ; 0~1 2~3", 2, "2", "2"}, {"1,2,0 / 1,0,2 / 2,2,0 / 2,0,2 ; 2~3 0~1", 4, "4", "4"},
	{"1,2,0 / 1,0,2 / 2,2,0 / 2,0,2 ; 2~3", 2, "1 abxl", "3 abxl"}, {"1,2,0 / 1,0,2 / 2,2,0 / 2,0,2 ; 0~1", 2, "2 b", "4 bl"},
	{"1,2,0 / 3,2,0 / 5,0,2 / 5,0,2 ; 0~2 1~3", 2, "8", "8"}, {"1,2,0 / 3,2,0 / 5,0,2 / 5,0,2 ; 0~2 1~3", 6, "6", "6"},
	{"1,2,0 / 3,2,0 / 5,0,2 / 5,0,2 ; 0~2 1~3", 3, "9", "9"}, {"1,2,0 / 3,2,0 / 5,0,2 / 5,0,2 ; 0~2 1~3", 0, "0", "0"},
	{"1,2,0 / 3,2,0 / 5,0,2 / 5,0,2 ; 1~3 0~2", 1, "5", "7"}, {"1,2,0 / 3,2,0 / 5,0,2 / 5,0,2 ; 1~3", 2, "1 abxl", "1 abxl"},
	// What is brought back to goes on behind the second one, be that the last one or not.
	{"1,2,0 / 1,0,2 / 0,9,0 ; 0~1", 2, "0 abxl", "0 abxl"}, {"1,2,0 / 1,0,2 / 2,0,1 ; 0~1", 2, "2", "3"},
	// The second one of a pair is a map as others are to what comes to it otherwise.
	{"9,2,0 / 1,3,2 ; 0~1", 2, "1 abxl", "3 abxl"}, {"9,2,0 / 1,3,2 ; 0~1", 4, "3 al", "3 a"}, {"9,2,0 / 1,3,2 ; 0~1", 1, "1 b", "1 bl"}, {"9,2,0 / 1,3,2 ; 0~1", 10, "2", "2"},
	// Only the first one of a pair is gone past: the second one's own Range is no first one's.
	{"9,2,0 / 1,3,2 / 1,0,3 ; 0~1", 2, "1 abxl", "6 abxl"},
}

func TestThrough(t *testing.T) {
	for _, x := range chainLines {
		chainIs(t, chain(x.c), ok)
		for _, lean := range aheads {
			throughIs(t, chain(x.c), x.place, lean, moved(x.ahead))
		}
		for _, lean := range behinds {
			throughIs(t, chain(x.c), x.place, lean, moved(x.behind))
		}
	}
}

// The order of Mirrors tells nothing.
func TestThroughMirrorsInAnyOrder(t *testing.T) {
	for _, x := range chainLines {
		c := chain(x.c)
		for i, j := 0, len(c.Mirrors)-1; i < j; i, j = i+1, j-1 {
			c.Mirrors[i], c.Mirrors[j] = c.Mirrors[j], c.Mirrors[i]
		}
		throughIs(t, c, x.place, -1, moved(x.ahead))
		throughIs(t, c, x.place, 0, moved(x.behind))
	}
}

func TestThroughTheMostMaps(t *testing.T) {
	c := many(api.MaxChain)
	throughIs(t, c, 0, -1, moved("0"))
	throughIs(t, c, 0, 0, moved("256"))
	throughIs(t, c, most, 0, api.Moved{Place: most + api.MaxChain})
	for i := range c.Maps {
		c.Maps[i] = nil
		for k := range api.MaxRanges {
			c.Maps[i] = append(c.Maps[i], api.Range{At: k, New: most})
		}
	}
	throughIs(t, c, 100, 0, api.Moved{Place: 100 + most*api.MaxRanges*api.MaxChain})
}

// Each of the first half takes away what one of the second half brings back, the last one first: pairs within pairs.
func TestThroughTheMostMirrors(t *testing.T) {
	var c api.Chain
	half := api.MaxChain / 2
	for i := range half {
		c.Maps = append(c.Maps, []api.Range{{At: half - 1 - i, Old: 2}})
	}
	for i := range half {
		c.Maps = append(c.Maps, []api.Range{{At: i, New: 2}})
		c.Mirrors = append(c.Mirrors, api.Mirror{First: half - 1 - i, Second: half + i})
	}
	chainIs(t, c, ok)
	for place := range 3 * half {
		throughIs(t, c, place, -1, api.Moved{Place: place})
		throughIs(t, c, place, 1, api.Moved{Place: place})
	}
	c.Mirrors = append(c.Mirrors, c.Mirrors[0])
	chainIs(t, c, arg)
}

func TestThroughFromWhatIsNoPlace(t *testing.T) {
	for _, s := range []string{"", "0,0,2", "0,m,0 / 0,0,m ; 0~1", "2,3,1 / 2,1,3"} {
		for _, place := range []int{-1, -2, -1 << 62, most + 1, most + 2, 1 << 62} {
			for _, lean := range []int{-1, 0, 1} {
				throughIs(t, chain(s), place, lean, api.Moved{Place: place})
			}
		}
	}
	throughIs(t, chain("0,1,0"), most, 0, api.Moved{Place: most - 1})
	throughIs(t, chain("0,1,0"), 0, 0, moved("0 bl"))
}

func TestCheckChain(t *testing.T) {
	for _, x := range []struct {
		c string
		e api.Errno
	}{
		{"", ok}, {" / ", ok}, {"0,0,1", ok}, {"0,0,1 / 0,0,1", ok},
		{"2,3,0 / 2,0,3 ; 0~1", ok}, {"2,3,0 / 9,9,3 ; 0~1", ok}, {"2,3,9 / 2,7,3 ; 0~1", ok}, {" / ; 0~1", ok}, {" / / ; 0~2", ok}, {" / / ; 1~2", ok},
		// Places that are the same, in the wrong order, outside of the list, without a list.
		{"2,3,3 / 2,3,3 ; 0~0", arg}, {"2,3,3 / 2,3,3 ; 1~1", arg}, {"2,3,3 / 2,3,3 ; 1~0", arg}, {"2,3,3 / 2,3,3 ; 0~2", arg}, {"2,3,3 / 2,3,3 ; -1~0", arg},
		{"2,3,3 / 2,3,3 ; -1~1", arg}, {"2,3,3 / 2,3,3 ; 1~2", arg}, {"2,3,3 / 2,3,3 ; 2~3", arg}, {"2,3,3 / 2,3,3 ; -2~-1", arg}, {"2,3,3 / 2,3,3 ; 0~-1", arg},
		{"; 0~0", arg}, {"; 0~1", arg}, {"2,3,3 ; 0~1", arg}, {"2,3,3 ; 0~0", arg}, {"2,3,3 ; -1~0", arg}, {" / ; 0~m", arg},
		// Twice the same place, as first or as second one, or as one of each.
		{" / / ; 0~1 0~1", arg}, {" / / ; 0~1 0~2", arg}, {" / / ; 0~2 1~2", arg}, {" / / ; 0~1 1~2", arg}, {" / / ; 1~2 0~1", arg}, {" / / / ; 0~1 2~3", ok},
		{" / / / ; 0~3 1~2", ok}, {" / / / ; 0~2 1~3", ok}, {" / / / ; 2~3 0~1 1~3", arg}, {" / / / ; 0~2 1~3 0~3", arg}, {" / / / ; 0~2 1~3 1~2", arg},
		// Other numbers of Ranges.
		{"2,3,0 / ; 0~1", arg}, {" / 2,3,0 ; 0~1", arg}, {"2,3,0 / 2,0,3 6,0,1 ; 0~1", arg}, {"2,3,0 6,1,0 / 2,0,3 ; 0~1", arg}, {"2,3,0 6,1,0 / 2,0,3 4,0,1 ; 0~1", ok},
		// The New of the second one's is the Old of the first one's, with the same number.
		{"2,3,0 / 2,0,2 ; 0~1", arg}, {"2,3,0 / 2,0,4 ; 0~1", arg}, {"2,3,0 / 2,3,0 ; 0~1", arg}, {"2,3,1 / 2,1,3 ; 0~1", ok}, {"2,3,1 / 2,3,1 ; 0~1", arg},
		{"2,1,3 / 2,1,3 ; 0~1", arg}, {"2,3,0 6,1,0 / 2,0,1 4,0,3 ; 0~1", arg}, {"2,3,0 6,1,0 / 2,0,3 4,0,2 ; 0~1", arg}, {"2,3,0 6,1,0 / 2,0,1 4,0,1 ; 0~1", arg},
		{"2,0,1 / 2,1,0 ; 0~1", ok}, {"2,0,1 / 2,1,1 ; 0~1", arg}, {"2,0,1 / 2,9,0 ; 0~1", ok},
		// One that is as told, and one that is not.
		{"2,3,0 / 2,0,3 / 2,3,0 / 2,0,2 ; 0~1 2~3", arg}, {"2,3,0 / 2,0,3 / 2,3,0 / 2,0,2 ; 2~3 0~1", arg}, {"2,3,0 / 2,0,3 / 2,3,0 / 2,0,2 ; 2~1", arg},
		{"2,3,0 / 2,0,3 / 2,3,0 / 2,0,2 ; 0~1", ok}, {"2,3,0 / 2,0,3 / 2,3,0 / 2,0,2 ; 0~3", arg},
	} {
		chainIs(t, chain(x.c), x.e)
		for place := range 12 {
			if x.e != ok {
				throughIs(t, chain(x.c), place, -1, api.Moved{Place: place})
				throughIs(t, chain(x.c), place, 0, api.Moved{Place: place})
			}
		}
	}
}

// pairs is c with a mirror of its last two maps.
func pairs(c api.Chain) api.Chain {
	c.Mirrors = append(c.Mirrors, api.Mirror{First: len(c.Maps) - 2, Second: len(c.Maps) - 1})
	return c
}

func TestChainsThatAreTooLong(t *testing.T) {
	chainIs(t, many(api.MaxChain), ok)
	chainIs(t, many(api.MaxChain+1), long)
	chainIs(t, many(2000), long)
	throughIs(t, many(api.MaxChain+1), 1, 1, moved("1"))
	// That of many maps is told ahead of that of Mirrors.
	chainIs(t, pairs(many(api.MaxChain)), arg)
	chainIs(t, pairs(many(api.MaxChain+1)), long)
	// That of a map is told ahead of both, the first one's ahead of the others', wherever it stands.
	for _, n := range []int{2, api.MaxChain, api.MaxChain + 1, api.MaxChain + 2} {
		for _, i := range []int{0, 1, n - 1} {
			c := pairs(many(n))
			c.Maps[i] = ranges("0,0,0")
			chainIs(t, c, arg)
			c.Maps[i] = times(api.MaxRanges + 1)
			chainIs(t, c, long)
			throughIs(t, c, 0, 0, moved("0"))
		}
	}
	for _, x := range []struct {
		first, second int
		e             api.Errno
	}{{0, 1, long}, {1, 0, arg}, {0, api.MaxChain, long}, {api.MaxChain, 0, arg}, {99, 100, long}} {
		c := pairs(many(api.MaxChain + 1))
		c.Maps[x.first] = times(api.MaxRanges + 1)
		c.Maps[x.second] = ranges("1,1,1 1,1,1")
		chainIs(t, c, x.e)
	}
	// What one map takes away, another one of as many Ranges brings back, to the last Range.
	c := mirrored(times(api.MaxRanges))
	chainIs(t, c, ok)
	c.Maps[1][api.MaxRanges-1].New++
	chainIs(t, c, arg)
	chainIs(t, mirrored(times(api.MaxRanges+1)), long)
	if maps.Turn(times(api.MaxRanges+1)) != nil {
		t.Error("what is too long is turned round")
	}
}
