package expr_test

import (
	"math"
	"slices"
	"strings"
	"testing"

	"copydesk/api"
	"copydesk/expr"
)

func name(s string) api.Expr {
	return api.Expr{Kind: api.ExprName, Name: s}
}

func seq(kids ...api.Expr) api.Expr {
	return api.Expr{Kind: api.ExprSeq, Kids: kids}
}

func alt(kids ...api.Expr) api.Expr {
	return api.Expr{Kind: api.ExprAlt, Kids: kids}
}

func many(low, high int, kids ...api.Expr) api.Expr {
	return api.Expr{Kind: api.ExprMany, Min: low, Max: high, Kids: kids}
}

// names are n names, of one byte each.
func names(n int) []api.Expr {
	var l []api.Expr
	for i := range n {
		l = append(l, name(string(rune('a'+i%26))))
	}
	return l
}

// nested is an expression that is nested so deep, of size 1.
func nested(deep int) api.Expr {
	e := name("p")
	for range deep - 1 {
		e = many(0, 1, e)
	}
	return e
}

// below is an expression of that kind that is nested so deep by first Kids alone.
func below(kind, deep int) api.Expr {
	e := api.Expr{Kind: kind}
	for range deep - 1 {
		e = api.Expr{Kind: kind, Kids: []api.Expr{e}}
	}
	return e
}

// endless is an expression that is its own Kid, several times.
func endless(kind int) api.Expr {
	kids := make([]api.Expr, 3)
	e := api.Expr{Kind: kind, Min: 0, Max: 2, Kids: kids}
	for i := range kids {
		kids[i] = e
	}
	return e
}

// P3.1

var p, q = name("p"), name("q")

var name16, name17 = strings.Repeat("n", 16), strings.Repeat("n", 17)

func TestCheckThatMayBe(t *testing.T) {
	for what, e := range map[string]api.Expr{
		"a name":                           p,
		"a name of 16":                     name(name16),
		"a name with a list of no Kids":    {Kind: api.ExprName, Name: "p", Kids: []api.Expr{}},
		"nothing":                          seq(),
		"nothing, with a list of no Kids":  {Kind: api.ExprSeq, Kids: []api.Expr{}},
		"a row of two":                     seq(p, q),
		"a row of the same":                seq(p, p),
		"a row of each kind":               seq(p, alt(p, q), many(0, -1, p)),
		"a choice of two":                  alt(p, q),
		"a choice of the same":             alt(p, p),
		"a choice of each kind":            alt(p, seq(p, q), many(0, -1, p)),
		"many of a row":                    many(0, -1, seq(p, q)),
		"many of a choice":                 many(0, -1, alt(p, q)),
		"many of many":                     many(0, -1, many(0, -1, p)),
		"any number":                       many(0, -1, p),
		"one at least":                     many(1, -1, p),
		"one at most":                      many(0, 1, p),
		"up to 2":                          many(0, 2, p),
		"1 to 2":                           many(1, 2, p),
		"just 2":                           many(2, 2, p),
		"just 16":                          many(16, 16, p),
		"up to 16":                         many(0, 16, p),
		"16 and more":                      many(16, -1, p),
		"size 24 of names":                 seq(names(24)...),
		"size 24 of a choice":              alt(names(24)...),
		"size 24 of many":                  many(12, 12, seq(p, q)),
		"size 24 of many and more":         many(11, -1, seq(p, q)),
		"size 24 of many within many":      many(2, 2, many(3, 3, many(4, 4, p))),
		"nested 16 deep":                   nested(16),
		"nested 16 deep behind a flat one": seq(p, nested(15)),
		"nested 16 deep in front of one":   alt(nested(15), p),
	} {
		if err := expr.Check(e); err != api.OK {
			t.Errorf("%s: error %d", what, err)
		}
	}
}

func TestCheckThatMayNotBe(t *testing.T) {
	for what, e := range map[string]api.Expr{
		"none at all":                  {},
		"a kind of 0":                  {Name: "p"},
		"a kind of 5":                  {Kind: 5, Name: "p"},
		"a kind of -1":                 {Kind: -1, Name: "p"},
		"a kind of 5 with Kids":        {Kind: 5, Kids: []api.Expr{p, q}},
		"a name of 0":                  name(""),
		"a name of a great letter":     name("P"),
		"a name of a digit":            name("p1"),
		"a name of a blank":            name(" "),
		"a name of byte 255":           name("p\xff"),
		"a name with Min":              {Kind: api.ExprName, Name: "p", Min: 1},
		"a name with Min -1":           {Kind: api.ExprName, Name: "p", Min: -1},
		"a name with Max":              {Kind: api.ExprName, Name: "p", Max: 1},
		"a name with Max -1":           {Kind: api.ExprName, Name: "p", Max: -1},
		"a name once":                  {Kind: api.ExprName, Name: "p", Min: 1, Max: 1},
		"a name with a Kid":            {Kind: api.ExprName, Name: "p", Kids: []api.Expr{p}},
		"a row with a Name":            {Kind: api.ExprSeq, Name: "p", Kids: []api.Expr{p, q}},
		"a row with Min":               {Kind: api.ExprSeq, Min: 1, Kids: []api.Expr{p, q}},
		"a row with Max":               {Kind: api.ExprSeq, Max: -1, Kids: []api.Expr{p, q}},
		"nothing with a Name":          {Kind: api.ExprSeq, Name: "p"},
		"nothing with Min":             {Kind: api.ExprSeq, Min: 1},
		"nothing with Max":             {Kind: api.ExprSeq, Max: 1},
		"a choice with a Name":         {Kind: api.ExprAlt, Name: "p", Kids: []api.Expr{p, q}},
		"a choice with Min":            {Kind: api.ExprAlt, Min: -1, Kids: []api.Expr{p, q}},
		"a choice with Max":            {Kind: api.ExprAlt, Max: 1, Kids: []api.Expr{p, q}},
		"many with a Name":             {Kind: api.ExprMany, Name: "p", Max: 2, Kids: []api.Expr{p}},
		"a row of one":                 seq(p),
		"a row of one choice":          seq(alt(p, q)),
		"a row in a row":               seq(p, seq(p, q)),
		"a row in front of a row":      seq(seq(p, q), p),
		"nothing in a row":             seq(p, seq()),
		"nothing in front of a row":    seq(seq(), p, q),
		"a row of nothing":             seq(seq()),
		"a choice of none":             alt(),
		"a choice of one":              alt(p),
		"a choice in a choice":         alt(p, alt(p, q)),
		"a choice in front of one":     alt(alt(p, q), p),
		"nothing in a choice":          alt(p, seq()),
		"nothing in front of a choice": alt(seq(), p),
		"many of none":                 many(0, -1),
		"many of two":                  many(0, -1, p, q),
		"many of nothing":              many(0, -1, seq()),
		"many of a row of one":         many(0, -1, seq(p)),
		"many of a choice of one":      many(0, -1, alt(p)),
		"-1 to -1":                     many(-1, -1, p),
		"-1 to 0":                      many(-1, 0, p),
		"-1 to 1":                      many(-1, 1, p),
		"-1 to 16":                     many(-1, 16, p),
		"0 to 0":                       many(0, 0, p),
		"1 to 0":                       many(1, 0, p),
		"1 to 1":                       many(1, 1, p),
		"2 to 0":                       many(2, 0, p),
		"2 to 1":                       many(2, 1, p),
		"16 to 15":                     many(16, 15, p),
		"once, deep within":            alt(p, seq(q, many(0, -1, many(1, 1, p)))),
		"a wrong name deep within":     alt(p, seq(q, many(0, -1, name("")))),
		"a wrong kind deep within":     alt(p, seq(q, many(0, -1, api.Expr{}))),
		"a wrong name, the last":       seq(p, q, name("Q")),
		"a name's Kid that is wrong":   {Kind: api.ExprName, Name: "p", Kids: []api.Expr{{}}},
		"a name's Kids of size 25":     {Kind: api.ExprName, Name: "p", Kids: names(25)},
		"a wrong one of size 0":        many(0, 0, names(25)...),
		"a wrong one nested 16 deep":   below(api.ExprSeq, 16),
	} {
		if err := expr.Check(e); err != api.ErrArg {
			t.Errorf("%s: error %d", what, err)
		}
	}
}

func TestCheckThatIsTooMuch(t *testing.T) {
	for what, e := range map[string]api.Expr{
		"a name of 17":                         name(name17),
		"a name of 17 great letters":           name(strings.Repeat("N", 17)),
		"a name of 17, the last":               seq(p, name(name17)),
		"a name of 17 in a name":               {Kind: api.ExprName, Name: "p", Kids: []api.Expr{name(name17)}},
		"a name of 17 in a kind that is none":  {Kids: []api.Expr{name(name17)}},
		"a row with a Name of 17":              {Kind: api.ExprSeq, Name: name17},
		"Max 17":                               many(0, 17, p),
		"Min 17":                               many(17, -1, p),
		"17 to 17":                             many(17, 17, p),
		"17 to 16":                             many(17, 16, p),
		"17 to 0":                              many(17, 0, p),
		"-1 to 17":                             many(-1, 17, p),
		"a name with Max 17":                   {Kind: api.ExprName, Name: "p", Max: 17},
		"a row with Min 17":                    {Kind: api.ExprSeq, Min: 17},
		"the greatest Max":                     many(0, math.MaxInt, p),
		"the greatest Min":                     many(math.MaxInt, math.MaxInt, p),
		"Min -2":                               many(-2, -1, p),
		"Max -2":                               many(0, -2, p),
		"the least Min":                        many(math.MinInt, 1, p),
		"the least Max":                        many(0, math.MinInt, p),
		"a name with Min -2":                   {Kind: api.ExprName, Name: "p", Min: -2},
		"nothing with Max -2":                  {Kind: api.ExprSeq, Max: -2},
		"Max -2, no Kids":                      many(0, -2),
		"Max -2 within 0 times":                many(0, 0, many(0, -2, p)),
		"nested 17 deep":                       nested(17),
		"nested 17 deep, behind":               seq(p, nested(16)),
		"nested 64 deep":                       nested(64),
		"nested 65 deep":                       nested(65),
		"nested 1000 deep":                     nested(1000),
		"a name nested 17 deep":                below(api.ExprName, 17),
		"nothing nested 17 deep":               below(api.ExprSeq, 17),
		"no kind nested 17 deep":               below(0, 17),
		"its own Kid":                          endless(api.ExprSeq),
		"its own Kid, many":                    endless(api.ExprMany),
		"its own Kid, a name":                  endless(api.ExprName),
		"size 25 of names":                     seq(names(25)...),
		"size 25 of a choice":                  alt(names(25)...),
		"size 25 of many":                      many(5, 5, seq(names(5)...)),
		"size 25 of many and more":             many(4, -1, seq(names(5)...)),
		"size 25 of many at most":              many(0, 5, seq(names(5)...)),
		"size 26 of many":                      many(13, 13, seq(p, q)),
		"size 25 of a kind that is none":       {Kids: names(25)},
		"size 25 of a choice of one":           alt(seq(names(25)...)),
		"ErrArg, then a name of 17":            seq(name(""), name(name17)),
		"a name of 17, then ErrArg":            seq(name(name17), name("")),
		"ErrArg, then Max 17":                  seq(name(""), many(0, 17, p)),
		"Max 17, then ErrArg":                  seq(many(0, 17, p), name("")),
		"ErrArg, then Min 17":                  alt(api.Expr{}, many(17, -1, p)),
		"ErrArg, then nested 17 deep":          seq(name(""), nested(16)),
		"nested 17 deep, then ErrArg":          seq(nested(16), name("")),
		"ErrArg of the whole, nested 17 deep":  seq(nested(16)),
		"ErrArg, then size 25":                 seq(name(""), seq(names(24)...)),
		"size 25, then ErrArg":                 seq(seq(names(24)...), name("")),
		"ErrArg, then a number below -1":       seq(name(""), many(0, -2, p)),
		"a number below -1, then ErrArg":       seq(many(-2, -1, p), name("")),
		"a wrong kind with a number below -1":  {Kind: 7, Min: -2},
		"many of two with a name of 17 behind": many(0, -1, p, name(name17)),
	} {
		if err := expr.Check(e); err != api.ErrLong {
			t.Errorf("%s: error %d", what, err)
		}
		if s, err := expr.Text(e); s != "" || err != api.ErrLong {
			t.Errorf("%s: text %q, error %d", what, s, err)
		}
	}
}

// All pairs of numbers from below -1 to above MaxTimes are held against the words themselves.
func TestCheckOfEachPairOfNumbers(t *testing.T) {
	for low := -3; low <= 19; low++ {
		for high := -3; high <= 19; high++ {
			want := api.OK
			switch {
			case low > 16 || high > 16 || low < -1 || high < -1:
				want = api.ErrLong
			case low < 0 || low == 1 && high == 1:
				want = api.ErrArg
			case high != -1 && (high < low || high < 1):
				want = api.ErrArg
			}
			if err := expr.Check(many(low, high, p)); err != want {
				t.Errorf("%d to %d: error %d, want %d", low, high, err, want)
			}
		}
	}
}

func TestSize(t *testing.T) {
	const most = 1 << 30
	for _, x := range []struct {
		what string
		e    api.Expr
		want int
	}{
		{"a name", p, 1},
		{"a name that may not be", name("P 1"), 1},
		{"a name of 17", name(name17), 1},
		{"a name with Kids", api.Expr{Kind: api.ExprName, Kids: names(5)}, 1},
		{"a name with Max", api.Expr{Kind: api.ExprName, Max: 5}, 1},
		{"nothing", seq(), 0},
		{"a row", seq(p, q, p), 3},
		{"a row of one", seq(p), 1},
		{"a row with Max", api.Expr{Kind: api.ExprSeq, Max: 5, Kids: names(2)}, 2},
		{"a choice", alt(p, q, p), 3},
		{"a choice of none", alt(), 0},
		{"no kind", api.Expr{}, 0},
		{"no kind, with a Name", api.Expr{Name: "p"}, 0},
		{"no kind, with Kids", api.Expr{Kids: names(3)}, 3},
		{"no kind, with Kids and Max", api.Expr{Kind: 5, Max: 4, Kids: names(3)}, 3},
		{"a kind of -1", api.Expr{Kind: -1, Kids: []api.Expr{seq(p, q), p}}, 3},
		{"any number", many(0, -1, p), 1},
		{"one at least", many(1, -1, p), 2},
		{"3 at least", many(3, -1, seq(p, q)), 8},
		{"one at most", many(0, 1, p), 1},
		{"2 to 5", many(2, 5, p), 5},
		{"5 to 2", many(5, 2, p), 2},
		{"0 to 0", many(0, 0, p), 0},
		{"-1 to -1", many(-1, -1, p), 0},
		{"-1 to 3", many(-1, 3, p), 3},
		{"many of none", many(0, 7), 0},
		{"many of several", many(0, 7, p, q, p), 21},
		{"many and more of several", many(6, -1, p, q, p), 21},
		{"many of many", many(2, 3, many(4, -1, seq(p, q))), 30},
		{"size 24", many(12, 12, seq(p, q)), 24},
		{"size 25", many(5, 5, seq(names(5)...)), 25},
		{"the example's", seq(many(1, -1, name("p")), many(0, -1, alt(name("h"), many(2, 3, name("li"))))), 6},
		{"2^20 times", many(0, 1<<20, p), 1 << 20},
		{"2^20 times at least", many(1<<20, -1, p), 1<<20 + 1},
		{"2^20 + 1 times", many(0, 1<<20+1, p), most},
		{"2^20 + 1 times at least", many(1<<20+1, -1, p), most},
		{"2^20 + 1 to 1", many(1<<20+1, 1, p), most},
		{"2^30", many(0, 1<<10, many(0, 1<<20, p)), most},
		{"2^30 less 2^10", many(0, 1<<10, many(0, 1<<20-1, p)), 1<<30 - 1<<10},
		{"beyond 2^30", many(0, 1<<10+1, many(0, 1<<20, p)), most},
		{"2^40", many(0, 1<<20, many(0, 1<<20, p)), most},
		{"2^100", many(0, 1<<20, many(1<<20, -1, many(0, 1<<20, many(0, 1<<20, many(0, 1<<20, p))))), most},
		{"2^40 0 times", many(0, 0, many(0, 1<<20, many(0, 1<<20, p))), 0},
		{"2^30 two times", seq(many(0, 1<<10, many(0, 1<<20, p)), many(0, 1<<10, many(0, 1<<20, p))), most},
		{"-2 to 1", many(-2, 1, p), most},
		{"0 to -2", many(0, -2, p), most},
		{"0 to -2 of none", many(0, -2), most},
		{"the least numbers", many(math.MinInt, math.MinInt, p), most},
		{"the greatest numbers", many(math.MaxInt, math.MaxInt, p), most},
		{"a name's number below -1", api.Expr{Kind: api.ExprName, Name: "p", Min: -2}, most},
		{"no kind's number above 2^20", api.Expr{Max: 1<<20 + 1}, most},
		{"a number below -1, 0 times", many(0, 0, many(0, -2, p)), most},
		{"a number below -1, the last", seq(p, alt(q, many(-2, 1, p))), most},
		{"nested 17 deep", nested(17), 1},
		{"nested 64 deep", nested(64), 1},
		{"nested 65 deep", nested(65), most},
		{"a name nested 64 deep", below(api.ExprName, 64), 1},
		{"a name nested 65 deep", below(api.ExprName, 65), most},
		{"nothing nested 64 deep", below(api.ExprSeq, 64), 0},
		{"nothing nested 65 deep", below(api.ExprSeq, 65), most},
		{"nested 65 deep 0 times", many(0, 0, nested(64)), most},
		{"nested 65 deep, the last", seq(p, nested(64)), most},
		{"nested 5000 deep", nested(5000), most},
		{"its own Kid", endless(api.ExprMany), most},
	} {
		if got := expr.Size(x.e); got != x.want {
			t.Errorf("Size of %s: %d, want %d", x.what, got, x.want)
		}
	}
}

func TestNames(t *testing.T) {
	for _, x := range []struct {
		what string
		e    api.Expr
		want []string
	}{
		{"nothing", seq(), nil},
		{"a name", p, []string{"p"}},
		{"the same two times", seq(p, p), []string{"p"}},
		{"two that fall", seq(q, p), []string{"p", "q"}},
		{"of all kinds", seq(q, alt(name("b"), many(0, -1, name("a"))), q), []string{"a", "b", "q"}},
		{"one begins the other", alt(name("pp"), name("p")), []string{"p", "pp"}},
		{"wrong ones", seq(name("b"), name(""), name("B"), name("\xff"), name(name17)), []string{"", "B", "b", name17, "\xff"}},
		{"the Name of what is no name", seq(api.Expr{Kind: api.ExprSeq, Name: "x"}, p), []string{"p"}},
		{"a name's Kids", api.Expr{Kind: api.ExprName, Name: "p", Kids: []api.Expr{q, alt(name("a"))}}, []string{"a", "p", "q"}},
		{"in no kind", api.Expr{Kind: 9, Name: "x", Kids: []api.Expr{q, p}}, []string{"p", "q"}},
		{"no kind", api.Expr{Name: "x"}, nil},
		{"0 times", many(0, 0, p, q), []string{"p", "q"}},
		{"nested 5000 deep", nested(5000), []string{"p"}},
	} {
		if got := expr.Names(x.e); !slices.Equal(got, x.want) {
			t.Errorf("Names of %s: %q, want %q", x.what, got, x.want)
		}
	}
}

func TestSame(t *testing.T) {
	// All of these are different.
	all := []api.Expr{
		{}, {Kind: 5}, {Kind: -1}, {Name: "p"}, {Min: 1}, {Max: 1}, {Max: -1},
		p, q, name(""), name("pp"), {Kind: api.ExprName, Name: "p", Kids: []api.Expr{p}},
		seq(), seq(p), seq(p, q), seq(q, p), seq(p, p), seq(p, p, p), seq(seq(p, p)), seq(seq(p), p),
		alt(), alt(p), alt(p, q), alt(q, p), alt(p, p),
		many(0, -1, p), many(1, -1, p), many(0, 1, p), many(0, 1, q), many(1, 0, p), many(0, 1), many(0, 1, p, p),
		many(0, 1, many(0, 1, p)), many(0, 1, many(0, 2, p)), many(0, 1, seq(p, q)), many(0, 1, alt(p, q)),
		nested(17), nested(63), nested(64), below(api.ExprSeq, 64),
	}
	for i, a := range all {
		for j, b := range all {
			if expr.Same(a, b) != (i == j) {
				t.Errorf("Same(%v, %v) is not %t", a, b, i == j)
			}
		}
	}
	for what, pair := range map[string][2]api.Expr{
		"nested 65 deep":        {nested(65), nested(65)},
		"nested 5000 deep":      {nested(5000), nested(5000)},
		"a name, 65 deep":       {below(api.ExprName, 65), below(api.ExprName, 65)},
		"64 and 65 deep":        {nested(64), nested(65)},
		"65 and 64 deep":        {nested(65), nested(64)},
		"65 deep behind a name": {seq(p, nested(64)), seq(p, nested(64))},
		"its own Kid":           {endless(api.ExprSeq), endless(api.ExprSeq)},
	} {
		if expr.Same(pair[0], pair[1]) {
			t.Errorf("%s: the same", what)
		}
	}
	if !expr.Same(api.Expr{Kind: api.ExprSeq, Kids: []api.Expr{}}, seq()) || !expr.Same(seq(), api.Expr{Kind: api.ExprSeq, Kids: []api.Expr{}}) {
		t.Error("a nil list and an empty one are not the same")
	}
	if !expr.Same(seq(p, many(0, 2, alt(p, q))), seq(name("p"), many(0, 2, alt(name("p"), name("q"))))) {
		t.Error("two that were made alike are not the same")
	}
}

// Neither what is handed in nor the room behind it may change, by the call or by what is done to its answer.
func TestCallsOnlyLook(t *testing.T) {
	make := func() []api.Expr {
		return []api.Expr{q, alt(q, p), many(0, -1, p), q, p}
	}
	room := make()
	e := seq(room[:3]...)
	expr.Check(e)
	expr.Text(e)
	expr.Size(e)
	expr.Same(e, e)
	one, two := expr.Names(e), expr.Names(e)
	one = one[:cap(one)]
	for i := range one {
		one[i] = "mine"
	}
	if !expr.Same(seq(room...), seq(make()...)) {
		t.Error("what was handed in is changed")
	}
	if !slices.Equal(two, []string{"p", "q"}) {
		t.Error("Names answered the same memory twice")
	}
}
