package match_test

import (
	"math"
	"math/rand"
	"slices"
	"strconv"
	"strings"
	"testing"

	"copydesk/api"
	"copydesk/match"
)

// machine is the one that s tells as the chapter's examples do: "0: p 1; 1: ends, p 1".
func machine(s string) api.Auto {
	var a api.Auto
	if s == "" {
		return a
	}
	for _, part := range strings.Split(s, ";") {
		_, rest, _ := strings.Cut(part, ":")
		var state api.State
		for _, item := range strings.Split(rest, ",") {
			switch words := strings.Fields(item); {
			case len(words) == 0:
			case len(words) == 1:
				state.Ends = true
			default:
				to, _ := strconv.Atoi(words[1])
				state.Edges = append(state.Edges, api.Edge{Type: words[0], To: to})
			}
		}
		a.States = append(a.States, state)
	}
	return a
}

// told is a as machine reads it.
func told(a api.Auto) string {
	var states []string
	for i, state := range a.States {
		var items []string
		if state.Ends {
			items = append(items, "ends")
		}
		for _, e := range state.Edges {
			items = append(items, e.Type+" "+strconv.Itoa(e.To))
		}
		states = append(states, strings.TrimSpace(strconv.Itoa(i)+": "+strings.Join(items, ", ")))
	}
	return strings.Join(states, "; ")
}

func group(name string, types ...string) api.Group {
	return api.Group{Name: name, Types: types}
}

var name16, name17 = strings.Repeat("n", 16), strings.Repeat("n", 17)

// strange are states and numbers that may not be there.
var strange = []int{math.MinInt, -2, -1, 0, 1, 2, 3, 4, 5, 1 << 40, math.MaxInt}

// P4.1

func TestCheckGroups(t *testing.T) {
	for _, c := range []struct {
		what string
		want api.Errno
		l    []api.Group
	}{
		{"none", api.OK, nil},
		{"none in a list", api.OK, []api.Group{}},
		{"one", api.OK, []api.Group{group("block", "h", "p")}},
		{"two", api.OK, []api.Group{group("block", "h", "p"), group("inline", "text")}},
		{"two whose names fall", api.OK, []api.Group{group("z", "h"), group("a", "h")}},
		{"one Type", api.OK, []api.Group{group("a", "p")}},
		{"a Type that several have", api.OK, []api.Group{group("a", "h", "p"), group("b", "p"), group("c", "h", "p")}},
		{"its own name among its Types", api.OK, []api.Group{group("a", "a", "b")}},
		{"another's name among its Types", api.OK, []api.Group{group("a", "b"), group("b", "a")}},
		{"a name of 1", api.OK, []api.Group{group("z", "p")}},
		{"a name of 16", api.OK, []api.Group{group(name16, "p")}},
		{"a Type of 16", api.OK, []api.Group{group("a", "m", name16)}},
		{"a Type that begins as the one ahead", api.OK, []api.Group{group("a", "p", "pp", "ppp")}},

		{"a name of 17", api.ErrLong, []api.Group{group(name17, "p")}},
		{"a name of 17 that is none", api.ErrLong, []api.Group{group(name16+"N", "p")}},
		{"a name of 1000", api.ErrLong, []api.Group{group(strings.Repeat("a", 1000), "p")}},
		{"a Type of 17", api.ErrLong, []api.Group{group("a", name17)}},
		{"a last Type of 17", api.ErrLong, []api.Group{group("a", "a", "b", name17)}},
		{"a Type of 17 in the last group", api.ErrLong, []api.Group{group("a", "a"), group("b", "a", name17)}},

		{"a name of 0", api.ErrArg, []api.Group{group("", "p")}},
		{"a name of a great letter", api.ErrArg, []api.Group{group("Block", "p")}},
		{"a name of a digit", api.ErrArg, []api.Group{group("a1", "p")}},
		{"a name of a blank", api.ErrArg, []api.Group{group(" ", "p")}},
		{"a name of byte 255", api.ErrArg, []api.Group{group("a\xff", "p")}},
		{"a name that stands twice", api.ErrArg, []api.Group{group("a", "p"), group("a", "p")}},
		{"a name that stands twice, with another between", api.ErrArg, []api.Group{group("a", "p"), group("b", "p"), group("a", "h")}},
		{"the last two names", api.ErrArg, []api.Group{group("b", "p"), group("a", "p"), group("a", "q")}},
		{"no Types", api.ErrArg, []api.Group{group("a")}},
		{"a list of no Types", api.ErrArg, []api.Group{{Name: "a", Types: []string{}}}},
		{"no Types in the last", api.ErrArg, []api.Group{group("a", "p"), group("b")}},
		{"nothing at all", api.ErrArg, []api.Group{{}}},
		{"Types that fall", api.ErrArg, []api.Group{group("a", "p", "h")}},
		{"the last Types fall", api.ErrArg, []api.Group{group("a", "a", "c", "b")}},
		{"the last one's Types fall", api.ErrArg, []api.Group{group("a", "p"), group("b", "p", "h")}},
		{"Types that are the same", api.ErrArg, []api.Group{group("a", "p", "p")}},
		{"a Type of 0", api.ErrArg, []api.Group{group("a", "")}},
		{"a first Type of 0", api.ErrArg, []api.Group{group("a", "", "p")}},
		{"a Type of a great letter", api.ErrArg, []api.Group{group("a", "P")}},
		{"a Type of a digit", api.ErrArg, []api.Group{group("a", "a", "p1")}},
		{"a Type of byte 255", api.ErrArg, []api.Group{group("a", "p", "\xff")}},
	} {
		if e := match.CheckGroups(c.l); e != c.want {
			t.Errorf("%s: error %d, want %d", c.what, e, c.want)
		}
		a, e := match.Make(api.Expr{Kind: api.ExprName, Name: "p"}, c.l)
		if e != c.want || (e == api.OK) != (len(a.States) > 0) {
			t.Errorf("Make with %s: %v, error %d, want %d", c.what, a, e, c.want)
		}
	}
}

func TestLongIsAheadOfWrong(t *testing.T) {
	longs := []api.Group{group(name17, "p"), group("long", name17), group("long", "p", name17)}
	wrongs := []api.Group{group(""), group("", "p"), group("A", "p"), group("w"), group("w", ""), group("w", "p", "h"), group("w", "p", "p"), group("w", "P")}
	for _, long := range longs {
		for _, wrong := range wrongs {
			both := api.Group{Name: wrong.Name, Types: append(slices.Clone(wrong.Types), name17)}
			for _, l := range [][]api.Group{{long, wrong}, {wrong, long}, {wrong, wrong, long}, {long, wrong, wrong}, {both}} {
				if e := match.CheckGroups(l); e != api.ErrLong {
					t.Errorf("CheckGroups(%v) = %d", l, e)
				}
			}
		}
	}
	if e := match.CheckGroups([]api.Group{group("a", "p"), group("a", "p"), group("b", name17)}); e != api.ErrLong {
		t.Errorf("a name twice ahead of a Type of 17: error %d", e)
	}
}

// P4.2

func TestNext(t *testing.T) {
	a := machine("0: p 1, h 2; 1: ends, p 1; 2:")
	for _, c := range []struct {
		state int
		typ   string
		want  int
	}{
		{0, "p", 1}, {0, "h", 2}, {1, "p", 1},
		{1, "h", -1}, {2, "p", -1}, {2, "h", -1}, {0, "q", -1}, {0, "", -1}, {0, "P", -1}, {0, "pp", -1}, {0, "\xff", -1},
		{-1, "p", -1}, {3, "p", -1}, {math.MinInt, "p", -1}, {math.MaxInt, "p", -1}, {1 << 32, "p", -1},
	} {
		if got := match.Next(a, c.state, c.typ); got != c.want {
			t.Errorf("Next(%d, %q) = %d, want %d", c.state, c.typ, got, c.want)
		}
	}
}

func TestNextOfTypesThatStandTwice(t *testing.T) {
	a := machine("0: q 1, p 2, q 0, a 0, p 1, p 9, a 9; 1: p 9, p 0, h -1, h 0, q 2; 2: ends, p 3, q -1")
	for s, want := range map[string][3]int{"p": {2, -1, -1}, "q": {1, 2, -1}, "a": {0, -1, -1}, "h": {-1, -1, -1}} {
		for state, to := range want {
			if got := match.Next(a, state, s); got != to {
				t.Errorf("Next(%d, %s) = %d, want %d", state, s, got, to)
			}
		}
	}
	for state, want := range [][]string{{"a", "p", "q"}, {"q"}, nil} {
		if got := match.Types(a, state); !slices.Equal(got, want) {
			t.Errorf("Types(%d) = %q, want %q", state, got, want)
		}
	}
}

func TestNextOfNumbersThatAreNone(t *testing.T) {
	for _, to := range strange {
		a := api.Auto{States: []api.State{{Edges: []api.Edge{{Type: "p", To: to}}}, {Ends: true}}}
		want, types := -1, 0
		if to == 0 || to == 1 {
			want, types = to, 1
		}
		if got := match.Next(a, 0, "p"); got != want {
			t.Errorf("Next to %d = %d", to, got)
		}
		if got := match.Run(a, 0, []string{"p"}); got != want {
			t.Errorf("Run to %d = %d", to, got)
		}
		if got := match.Fits(a, []string{"p"}); got != (to == 1) {
			t.Errorf("Fits to %d = %t", to, got)
		}
		if got := match.Types(a, 0); len(got) != types {
			t.Errorf("Types to %d = %q", to, got)
		}
		if row, ok := match.Fill(a, 0, nil, []string{"p"}); ok != (to == 1) || len(row) > 0 != ok {
			t.Errorf("Fill to %d = %q, %t", to, row, ok)
		}
	}
}

func TestRun(t *testing.T) {
	a := machine("0: p 1, h 2; 1: ends, p 1, h 0; 2: q 7")
	for _, c := range []struct {
		state int
		row   string
		want  int
	}{
		{0, "", 0}, {1, "", 1}, {2, "", 2},
		{0, "p", 1}, {0, "pp", 1}, {0, "pph", 0}, {0, "phh", 2}, {1, "hh", 2},
		{0, "q", -1}, {0, "hp", -1}, {0, "hq", -1}, {0, "hqp", -1}, {0, "qp", -1}, {2, "p", -1},
		{-1, "", -1}, {3, "", -1}, {-1, "p", -1}, {3, "p", -1}, {math.MinInt, "", -1}, {math.MaxInt, "", -1}, {math.MaxInt, "pp", -1},
	} {
		if got := match.Run(a, c.state, strings.Split(c.row, "")); got != c.want {
			t.Errorf("Run(%d, %q) = %d, want %d", c.state, c.row, got, c.want)
		}
	}
	if got := match.Run(a, 1, nil); got != 1 {
		t.Errorf("Run of nil = %d", got)
	}
	if got := match.Run(a, 0, []string{""}); got != -1 {
		t.Errorf("Run of a type without bytes = %d", got)
	}
}

func TestFits(t *testing.T) {
	a := machine("0: p 1, q 5; 1: ends, h 0")
	for s, want := range map[string]bool{"": false, "p": true, "ph": false, "php": true, "pp": false, "h": false, "q": false, "phq": false, "phphp": true} {
		if match.Fits(a, strings.Split(s, "")) != want {
			t.Errorf("Fits(%q) is not %t", s, want)
		}
	}
	if !match.Fits(machine("0: ends"), nil) || match.Fits(machine("0:; 1: ends"), nil) || match.Fits(machine("0:"), []string{}) {
		t.Error("Fits of no types: whether state 0 ends")
	}
}

func TestNoStates(t *testing.T) {
	for _, a := range []api.Auto{{}, {States: []api.State{}}} {
		for _, state := range strange {
			if match.Next(a, state, "p") != -1 || match.Run(a, state, nil) != -1 || match.Run(a, state, []string{"p"}) != -1 {
				t.Errorf("Next, Run from %d", state)
			}
			if l := match.Types(a, state); len(l) > 0 {
				t.Errorf("Types of %d: %q", state, l)
			}
			if l, ok := match.Fill(a, state, nil, []string{"p"}); ok || len(l) > 0 {
				t.Errorf("Fill from %d: %q", state, l)
			}
		}
		if match.Fits(a, nil) || match.Fits(a, []string{"p"}) {
			t.Error("Fits")
		}
	}
}

func TestTypes(t *testing.T) {
	a := machine("0: p 1, h 2, a 0, q 1; 1: ends; 2: z 9, y -1, p 3; 3: p 3, P 0, pp 0, o 0")
	for state, want := range map[int][]string{0: {"a", "h", "p", "q"}, 1: nil, 2: {"p"}, 3: {"P", "o", "p", "pp"}, -1: nil, 4: nil, math.MinInt: nil, math.MaxInt: nil} {
		if got := match.Types(a, state); !slices.Equal(got, want) {
			t.Errorf("Types(%d) = %q, want %q", state, got, want)
		}
	}
	if want := "0: p 1, h 2, a 0, q 1; 1: ends; 2: z 9, y -1, p 3; 3: p 3, P 0, pp 0, o 0"; told(a) != want {
		t.Errorf("the machine has become %s", told(a))
	}
	b := api.Auto{States: []api.State{{Edges: []api.Edge{{Type: "p"}, {Type: ""}, {Type: "\xff"}}}}}
	if got := match.Types(b, 0); !slices.Equal(got, []string{"", "p", "\xff"}) || match.Next(b, 0, "") != 0 {
		t.Errorf("types that are no names: %q", got)
	}
}

// P4.3

func TestFill(t *testing.T) {
	forked := "0: a 1, b 2; 1: b 3; 2: a 3; 3: ends"
	for _, c := range []struct {
		machine   string
		state     int
		rest, may string
		want      string
		ok        bool
	}{
		{"0: h 1; 1: p 2; 2: ends", 0, "p", "h", "h", true},
		{"0: h 1; 1: p 2; 2: ends", 0, "", "hp", "hp", true},
		{"0: h 1; 1: p 2; 2: ends", 0, "hp", "", "", true},
		{"0: h 1; 1: p 2; 2: ends", 0, "hp", "hp", "", true},
		{"0: h 1; 1: p 2; 2: ends", 1, "", "ph", "p", true},
		{"0: h 1; 1: p 2; 2: ends", 1, "p", "hp", "", true},
		{"0: h 1; 1: p 2; 2: ends", 2, "", "hp", "", true},
		{"0: h 1; 1: p 2; 2: ends", 2, "", "", "", true},
		{"0: h 1; 1: p 2; 2: ends", 2, "p", "hp", "", false},
		{"0: h 1; 1: p 2; 2: ends", 0, "", "h", "", false},
		{"0: h 1; 1: p 2; 2: ends", 0, "", "p", "", false},
		{"0: h 1; 1: p 2; 2: ends", 0, "", "", "", false},
		{"0: h 1; 1: p 2; 2: ends", 0, "h", "hp", "", false},
		{"0: h 1; 1: p 2; 2: ends", 0, "q", "hp", "", false},
		{"0: h 1; 1: p 2; 2: ends", -1, "", "hp", "", false},
		{"0: h 1; 1: p 2; 2: ends", 3, "", "hp", "", false},
		{forked, 0, "", "ab", "ab", true},
		{forked, 0, "", "ba", "ab", true},
		{forked, 0, "", "bbabaab", "ab", true},
		{forked, 0, "", "qba", "ab", true},
		{forked, 0, "", "a", "", false},
		{forked, 0, "a", "ab", "b", true},
		{forked, 0, "b", "ab", "a", true},
		{forked, 0, "ba", "b", "", true},
		{"0: b 2, a 1; 1: b 3; 2: a 3; 3: ends", 0, "", "ba", "ab", true},       // edges that do not rise
		{"0: a 1, b 3; 1: a 2; 2: a 3; 3: ends", 0, "", "ab", "b", true},        // the shortest is not the least
		{"0: a 1, b 3; 1: a 2; 2: a 3; 3: ends", 0, "", "aa", "aaa", true},      // the shortest of those that may be
		{"0: z 1, y 2, x 3; 1: ends; 2: ends; 3: ends", 0, "", "zy", "y", true}, // several as short
		{"0: z 1, y 2, x 3; 1: ends; 2: ends; 3: ends", 0, "", "xyz", "x", true},
		{"0: a 9, b 1; 1: ends", 0, "", "ab", "b", true},      // an edge that leads nowhere
		{"0: a 0, a 1, b 1; 1: ends", 0, "", "ab", "b", true}, // a Type that stands twice
		{"0: a 1, a 0, b 1; 1: ends", 0, "", "ba", "a", true}, // likewise
		{"0: a 0, b 0; 1: ends", 0, "", "ab", "", false},      // no end can be reached
		{"0: ends, a 0", 0, "aaaa", "a", "", true},            // rest alone
		{"0: ends, a 0", 0, "ab", "ab", "", false},            // rest never leads anywhere
		{"0: a 1; 1: a 2; 2: a 3; 3: ends", 0, "aa", "a", "a", true},
		{"0: a 1; 1: a 2, b 2; 2: a 0; 3: ends", 3, "", "ab", "", true},
	} {
		got, ok := match.Fill(machine(c.machine), c.state, strings.Split(c.rest, ""), strings.Split(c.may, ""))
		if ok != c.ok || strings.Join(got, "") != c.want || len(got) != len(c.want) {
			t.Errorf("Fill of %s from %d, rest %q, may %q = %q, %t", c.machine, c.state, c.rest, c.may, got, ok)
		}
	}
}

func TestFillComparesTypesWhole(t *testing.T) {
	a := machine("0: b 1, ab 2, a 3, abc 4; 1: ends; 2: ends; 3: b 1; 4: ends")
	for s, want := range map[string]string{"b ab abc": "ab", "abc b": "abc", "b a": "b", "a b ab": "ab"} {
		if got, ok := match.Fill(a, 0, nil, strings.Fields(s)); !ok || !slices.Equal(got, []string{want}) {
			t.Errorf("may %s: %q, %t", s, got, ok)
		}
	}
}

func TestSame(t *testing.T) {
	l := []string{
		"",
		"0:",
		"0: ends",
		"0:; 1:",
		"0: ends; 1:",
		"0:; 1: ends",
		"0: p 0",
		"0: p 1",
		"0: p 7",
		"0: p -1",
		"0: q 0",
		"0: ends, p 0",
		"0: p 0, q 0",
		"0: q 0, p 0",
		"0: p 0, p 0",
		"0: p 1; 1: ends, p 1",
		"0: p 1; 1: ends, p 0",
		"0: p 1; 1: ends, q 1",
		"0: p 1; 1: ends, p 1; 2:",
		"0: p 1; 1: p 1",
	}
	for _, x := range l {
		for _, y := range l {
			if match.Same(machine(x), machine(y)) != (x == y) {
				t.Errorf("Same of %s and %s is not %t", x, y, x == y)
			}
		}
	}
	if !match.Same(api.Auto{}, api.Auto{States: []api.State{}}) || !match.Same(api.Auto{States: []api.State{{}}}, api.Auto{States: []api.State{{Edges: []api.Edge{}}}}) {
		t.Error("no list and an empty one are the same")
	}
}

// Machines that nobody made, by chance, against the words as they stand.

// anyAuto is a machine with edges of any kind.
func anyAuto(r *rand.Rand) api.Auto {
	var a api.Auto
	n := r.Intn(5)
	for range n {
		state := api.State{Ends: r.Intn(4) == 0}
		for range r.Intn(5) {
			state.Edges = append(state.Edges, api.Edge{Type: []string{"a", "b", "c", ""}[r.Intn(4)], To: r.Intn(n+2) - 1})
		}
		a.States = append(a.States, state)
	}
	return a
}

// behind is the state behind typ: the first edge of it counts, whether it leads anywhere or not.
func behind(a api.Auto, state int, typ string) int {
	if state < 0 || state >= len(a.States) {
		return -1
	}
	for _, e := range a.States[state].Edges {
		if e.Type != typ {
			continue
		}
		if e.To >= 0 && e.To < len(a.States) {
			return e.To
		}
		return -1
	}
	return -1
}

func ran(a api.Auto, state int, row []string) int {
	if state < 0 || state >= len(a.States) {
		return -1
	}
	for _, typ := range row {
		state = behind(a, state, typ)
	}
	return state
}

// filled tries all rows, the shorter ones first, of as short ones the least first.
func filled(a api.Auto, state int, rest, may []string) ([]string, bool) {
	may = slices.Clone(may)
	slices.Sort(may)
	rows := [][]string{nil}
	for range max(len(a.States), 1) {
		var longer [][]string
		for _, row := range rows {
			if end := ran(a, ran(a, state, row), rest); end >= 0 && a.States[end].Ends {
				return row, true
			}
			for _, typ := range may {
				longer = append(longer, append(slices.Clone(row), typ))
			}
		}
		rows = longer
	}
	return nil, false
}

func someTypes(r *rand.Rand, n int) []string {
	var l []string
	for range r.Intn(n) {
		l = append(l, []string{"a", "b", "c", "", "d"}[r.Intn(5)])
	}
	return l
}

func TestAnyMachine(t *testing.T) {
	r := rand.New(rand.NewSource(4))
	for range 20000 {
		a := anyAuto(r)
		was := told(a)
		state, row, may := r.Intn(len(a.States)+3)-1, someTypes(r, 4), someTypes(r, 5)
		var types []string
		for _, typ := range []string{"", "a", "b", "c", "d"} {
			want := behind(a, state, typ)
			if got := match.Next(a, state, typ); got != want {
				t.Fatalf("%s: Next(%d, %q) = %d, want %d", was, state, typ, got, want)
			}
			if want >= 0 {
				types = append(types, typ)
			}
		}
		if got := match.Types(a, state); !slices.Equal(got, types) {
			t.Fatalf("%s: Types(%d) = %q, want %q", was, state, got, types)
		}
		if got, want := match.Run(a, state, row), ran(a, state, row); got != want {
			t.Fatalf("%s: Run(%d, %q) = %d, want %d", was, state, row, got, want)
		}
		end := ran(a, 0, row)
		if got, want := match.Fits(a, row), end >= 0 && a.States[end].Ends; got != want {
			t.Fatalf("%s: Fits(%q) = %t", was, row, got)
		}
		l, ok := match.Fill(a, state, row, may)
		if want, wantOK := filled(a, state, row, may); ok != wantOK || !slices.Equal(l, want) {
			t.Fatalf("%s: Fill(%d, %q, %q) = %q, %t, want %q, %t", was, state, row, may, l, ok, want, wantOK)
		}
		if told(a) != was {
			t.Fatalf("%s has become %s", was, told(a))
		}
	}
}

// What is handed in, and what is answered (Rules, 3 and 4).

// within is l as the beginning of a longer list.
func within(l ...string) []string {
	return append(slices.Clone(l), "spare", "room")[:len(l)]
}

func TestWhatIsHandedInStaysAsItIs(t *testing.T) {
	rest, may := within("q"), within("p", "h", "p", "a")
	a := machine("0: p 1, h 1, a 7; 1: q 2, a 0, q 0; 2: ends")
	was := told(a)
	row, ok := match.Fill(a, 0, rest, may)
	if !ok || !slices.Equal(row, []string{"h"}) {
		t.Fatal(row, ok)
	}
	match.Types(a, 1)
	match.Run(a, 0, may)
	match.Fits(a, may)
	if told(a) != was {
		t.Errorf("the machine has become %s", told(a))
	}
	if !slices.Equal(rest[:3], []string{"q", "spare", "room"}) || !slices.Equal(may[:6], []string{"p", "h", "p", "a", "spare", "room"}) {
		t.Errorf("rest, may have become %q, %q", rest[:3], may[:6])
	}
}

func TestAnswersAreNewMemory(t *testing.T) {
	a := machine("0: p 1, h 1; 1: p 2; 2: ends")
	first, _ := match.Fill(a, 0, nil, []string{"h", "p"})
	types := match.Types(a, 0)
	for _, l := range [][]string{first, types} {
		for i := range l[:cap(l)] {
			l[:cap(l)][i] = "other"
		}
	}
	second, _ := match.Fill(a, 0, nil, []string{"h", "p"})
	if !slices.Equal(second, []string{"h", "p"}) || !slices.Equal(match.Types(a, 0), []string{"h", "p"}) || told(a) != "0: p 1, h 1; 1: p 2; 2: ends" {
		t.Errorf("%q, %q, %s", second, match.Types(a, 0), told(a))
	}
}
