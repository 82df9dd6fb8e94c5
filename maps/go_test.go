package maps_test

import (
	"testing"

	"copydesk/api"
	"copydesk/maps"
)

// P10.1: maps, and what goes through one.

func TestGoOfTheExamples(t *testing.T) {
	m := ranges("2,3,1")
	for _, x := range []struct {
		place, lean int
		want        string
	}{
		{1, -1, "1"}, {1, 1, "1"},
		{2, -1, "2 b"}, {2, 1, "2 bl"},
		{3, -1, "2 abxl"}, {3, 1, "3 abxl"},
		{5, -1, "3 al"}, {5, 1, "3 a"},
		{7, -1, "5"}, {7, 1, "5"},
	} {
		goIs(t, m, x.place, x.lean, moved(x.want))
	}
}

// lines are of a map, a place, and what comes of it leaning ahead, and behind.
var lines = []struct {
	m             string
	place         int
	ahead, behind string
}{
	// No Range.
	{"", 0, "0", "0"}, {"", 7, "7", "7"}, {"", most, "m", "m"},
	// Tokens put in: by lean alone, and nothing went.
	{"3,0,2", 2, "2", "2"}, {"3,0,2", 3, "3", "5"}, {"3,0,2", 4, "6", "6"},
	{"0,0,2", 0, "0", "2"}, {"0,0,2", 1, "3", "3"},
	{"m,0,1", most, "m", "m+1"}, {"m,0,1", most - 1, "m-1", "m-1"},
	{"0,0,m", 0, "0", "m"}, {"0,0,m", 1, "m+1", "m+1"}, {"0,0,m", most, "2097152", "2097152"},
	// Tokens taken out: beginning and end are one.
	{"3,1,0", 2, "2", "2"}, {"3,1,0", 3, "3 b", "3 bl"}, {"3,1,0", 4, "3 al", "3 a"}, {"3,1,0", 5, "4", "4"},
	{"3,2,0", 3, "3 b", "3 bl"}, {"3,2,0", 4, "3 abxl", "3 abxl"}, {"3,2,0", 5, "3 al", "3 a"}, {"3,2,0", 6, "4", "4"},
	{"0,m,0", 0, "0 b", "0 bl"}, {"0,m,0", 1, "0 abxl", "0 abxl"}, {"0,m,0", most - 1, "0 abxl", "0 abxl"}, {"0,m,0", most, "0 al", "0 a"},
	{"m,1,0", most, "m b", "m bl"}, {"m,m,m", most, "m b", "m bl"}, {"m,1,0", most - 1, "m-1", "m-1"},
	{"m-1,1,0", most, "m-1 al", "m-1 a"}, {"m-2,3,2", most, "m-2 abxl", "m abxl"},
	// Tokens for tokens: of the beginning, the end, what is between.
	{"3,2,2", 3, "3 b", "3 bl"}, {"3,2,2", 4, "3 abxl", "5 abxl"}, {"3,2,2", 5, "5 al", "5 a"}, {"3,2,2", 6, "6", "6"},
	{"3,4,1", 3, "3 b", "3 bl"}, {"3,4,1", 4, "3 abxl", "4 abxl"}, {"3,4,1", 6, "3 abxl", "4 abxl"}, {"3,4,1", 7, "4 al", "4 a"}, {"3,4,1", 8, "5", "5"},
	{"3,1,4", 3, "3 b", "3 bl"}, {"3,1,4", 4, "7 al", "7 a"}, {"3,1,4", 5, "8", "8"},
	// Several: all that end ahead move it.
	{"1,1,0 3,0,2 5,2,2", 0, "0", "0"}, {"1,1,0 3,0,2 5,2,2", 1, "1 b", "1 bl"}, {"1,1,0 3,0,2 5,2,2", 2, "1 al", "1 a"},
	{"1,1,0 3,0,2 5,2,2", 3, "2", "4"}, {"1,1,0 3,0,2 5,2,2", 4, "5", "5"}, {"1,1,0 3,0,2 5,2,2", 5, "6 b", "6 bl"},
	{"1,1,0 3,0,2 5,2,2", 6, "6 abxl", "8 abxl"}, {"1,1,0 3,0,2 5,2,2", 7, "8 al", "8 a"}, {"1,1,0 3,0,2 5,2,2", 8, "9", "9"},
	// Ranges that end one token ahead of the next one, which is as near as can be.
	{"0,1,0 2,1,0", 1, "0 al", "0 a"}, {"0,1,0 2,1,0", 2, "1 b", "1 bl"}, {"0,1,0 2,1,0", 3, "1 al", "1 a"}, {"0,1,0 2,1,0", 4, "2", "2"},
	{"0,0,1 1,0,1 2,0,1", 0, "0", "1"}, {"0,0,1 1,0,1 2,0,1", 1, "2", "3"}, {"0,0,1 1,0,1 2,0,1", 2, "4", "5"}, {"0,0,1 1,0,1 2,0,1", 3, "6", "6"},
}

func TestGo(t *testing.T) {
	for _, x := range lines {
		for _, lean := range aheads {
			goIs(t, ranges(x.m), x.place, lean, moved(x.ahead))
		}
		for _, lean := range behinds {
			goIs(t, ranges(x.m), x.place, lean, moved(x.behind))
		}
	}
}

func TestGoThroughTheMostRanges(t *testing.T) {
	m := times(api.MaxRanges)
	goIs(t, m, 2*63, -1, moved("189 b"))
	goIs(t, m, 2*63, 0, moved("189 bl"))
	goIs(t, m, 2*63+1, -1, moved("191 al"))
	goIs(t, m, 2*64, 0, moved("192"))
	goIs(t, m, most, -1, api.Moved{Place: most + 64})
	var grow []api.Range
	for i := range api.MaxRanges {
		grow = append(grow, api.Range{At: i, New: most})
	}
	goIs(t, grow, most, 0, api.Moved{Place: 65 * most})
	goIs(t, grow, 63, 0, api.Moved{Place: 64*most + 63})
	goIs(t, grow, 63, -1, api.Moved{Place: 63*most + 63})
	deltaIs(t, grow, 64*most)
}

func TestGoFromWhatIsNoPlace(t *testing.T) {
	for _, m := range []string{"", "0,0,2", "0,m,0", "2,3,1", "m,1,0"} {
		for _, place := range []int{-1, -2, -1 << 62, most + 1, most + 2, 1 << 62} {
			for _, lean := range []int{-1, 0, 1} {
				goIs(t, ranges(m), place, lean, api.Moved{Place: place})
			}
		}
	}
}

func TestTurn(t *testing.T) {
	for _, x := range []struct{ m, want string }{
		{"", ""},
		{"2,3,1 9,0,2", "2,1,3 7,2,0"},
		{"0,0,1", "0,1,0"}, {"0,1,0", "0,0,1"}, {"5,2,2", "5,2,2"}, {"m,m,m", "m,m,m"},
		{"0,1,0 2,1,0 4,1,0", "0,0,1 1,0,1 2,0,1"},
		{"0,0,1 1,0,1 2,0,1", "0,1,0 2,1,0 4,1,0"},
		{"0,3,1 4,0,2 7,2,0 10,1,1", "0,1,3 2,2,0 7,0,2 8,1,1"},
		{"0,m,0 m+1,1,0", ""},
		{"0,m,0", "0,0,m"},
		{"0,m-1,0 m,m,0", "0,0,m-1 1,0,m"},
	} {
		turnIs(t, ranges(x.m), ranges(x.want))
	}
	want := times(api.MaxRanges)
	for i := range want {
		want[i] = api.Range{At: 3 * i, Old: 2, New: 1}
	}
	turnIs(t, times(api.MaxRanges), want)
}

// What is turned round may have places above MaxPlace, and is told as it is.
func TestTurnToWhatMayNotBe(t *testing.T) {
	for _, x := range []struct{ m, want string }{
		{"0,0,1 m,1,0", "0,1,0 m+1,0,1"},
		{"0,0,m m,m,m", "0,m,0 2097152,m,m"},
	} {
		turnIs(t, ranges(x.m), ranges(x.want))
		checkIs(t, maps.Turn(ranges(x.m)), arg)
		turnIs(t, maps.Turn(ranges(x.m)), nil)
	}
	turnIs(t, ranges("1,1,0 m,1,0"), ranges("1,0,1 m-1,0,1"))
	checkIs(t, ranges("1,0,1 m-1,0,1"), ok)
}

func TestDelta(t *testing.T) {
	for _, x := range []struct {
		m    string
		want int
	}{
		{"", 0}, {"2,3,1", -2}, {"2,1,3", 2}, {"2,3,3", 0}, {"2,3,1 9,0,2", 0}, {"2,3,1 9,0,3", 1}, {"0,1,0 2,1,0 4,0,1", -1},
		{"0,m,0", -most}, {"m,0,m", most}, {"0,m,0 m,1,1", 0}, {"0,m-1,0 m,m,0", 1 - 2*most}, {"0,0,m 1,0,m", 2 * most},
	} {
		deltaIs(t, ranges(x.m), x.want)
	}
	deltaIs(t, times(api.MaxRanges), api.MaxRanges)
}

func TestTouches(t *testing.T) {
	for _, x := range []struct {
		m        string
		from, to int
		want     bool
	}{
		// Beside it, at its beginning, within it, at its end, around it.
		{"5,3,1", 0, 4, false}, {"5,3,1", 0, 5, true}, {"5,3,1", 5, 5, true}, {"5,3,1", 6, 6, true}, {"5,3,1", 6, 7, true},
		{"5,3,1", 8, 8, true}, {"5,3,1", 8, 20, true}, {"5,3,1", 9, 9, false}, {"5,3,1", 9, 20, false}, {"5,3,1", 4, 9, true}, {"5,3,1", 4, 4, false},
		// How much came is nothing to it.
		{"5,0,9", 4, 4, false}, {"5,0,9", 5, 5, true}, {"5,0,9", 6, 6, false}, {"5,0,9", 6, 14, false}, {"5,0,9", 0, 9, true}, {"5,0,9", 0, 4, false},
		// Ranges that were moved by others stand where they stood.
		{"1,0,9 5,2,0", 2, 4, false}, {"1,0,9 5,2,0", 4, 5, true}, {"1,0,9 5,2,0", 7, 9, true}, {"1,0,9 5,2,0", 8, 20, false}, {"1,0,9 5,2,0", 0, 1, true},
		{"1,0,9 5,2,0", 0, 0, false}, {"1,0,9 5,2,0", 0, 20, true},
		{"", 0, most, false}, {"", -1 << 62, 1 << 62, false},
		// Whatever from and to are.
		{"5,3,1", -1 << 62, 1 << 62, true}, {"5,3,1", -9, 4, false}, {"5,3,1", -9, 5, true}, {"0,1,0", -5, -1, false}, {"0,1,0", -1, 0, true},
		{"m,m,0", 2 * most, 1 << 62, true}, {"m,m,0", 2*most + 1, 1 << 62, false}, {"m,m,0", most, most, true}, {"m,m,0", 0, most - 1, false},
		// From above to: a Range that reaches over both has its beginning not above to, its end not below from.
		{"5,3,1", 8, 5, true}, {"5,3,1", 7, 6, true}, {"5,3,1", 9, 5, false}, {"5,3,1", 8, 4, false}, {"5,3,1", 9, 4, false}, {"5,0,1", 6, 5, false}, {"5,0,1", 5, 4, false},
		{"5,3,1", 1 << 62, -1 << 62, false}, {"1,1,0 3,1,0", 3, 2, false},
	} {
		touchesIs(t, ranges(x.m), x.from, x.to, x.want)
	}
	touchesIs(t, times(api.MaxRanges), 127, 127, true)
	touchesIs(t, times(api.MaxRanges), 128, 128, false)
}
