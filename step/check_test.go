package step_test

import (
	"math"
	"slices"
	"strings"
	"testing"

	"copydesk/api"
)

// P11.1: Check

// right are steps of the pages that may be, of each kind.
func right() []string {
	return []string{
		"put 0 0", "put 0 0 'a'", "put 3 7", "put 7 7 ) (p", "put 0 65536", "put 65536 65536 /hr", "put 1 2 (p 'a'^em ) (h[level=1] ) /br^code",
		"wrap 0 0 0 0 0", "wrap 0 0 7 7 1 (li )", "wrap 1 2 3 4 0", "wrap 1 2 3 4 0 'a'", "wrap 1 2 3 4 1 'a'", "wrap 2 2 2 2 1 'ab'", "wrap 0 0 65536 65536 2 (li (p ) )", "wrap 65536 65536 65536 65536 0", "wrap 0 65536 65536 65536 0",
		"mark 0 0 em", "mark 0 7 em", "mark 5 5 code", "mark 0 65536 code", "mark 65536 65536 em",
		"bare 0 0 em", "bare 0 7 em", "bare 5 5 code", "bare 0 65536 code", "bare 65536 65536 em",
		"attr 0 level=2", "attr 65536 level=", "attr 1 a=~ ~", "attr 0 " + strings.Repeat("n", 16) + "=" + strings.Repeat("v", 64), "attr 9 z==",
		"swap 0 0", "swap 65536 65536", "swap 3 5 'ab'", "swap 65535 65536 )", "swap 0 4 (p^em /br^code 'a'^em )",
	}
}

func TestCheckOfWhatMayBe(t *testing.T) {
	may(t, pages())
	for _, s := range right() {
		checkIs(t, pages(), change(s), ok)
	}
}

func TestCheckOfWhatMayNotBe(t *testing.T) {
	for _, s := range []string{
		// From above To, and what stands between out of order.
		"put 1 0", "put 7 6 'a'", "put 65536 0", "mark 1 0 em", "mark 7 6 code", "bare 1 0 em", "bare 65536 65535 em",
		"wrap 1 0 2 2 0", "wrap 1 2 1 2 0", "wrap 0 1 2 1 0", "wrap 2 1 1 1 0", "wrap 0 2 1 2 0", "wrap 0 0 3 2 0", "wrap 3 2 2 3 0", "wrap 0 7 0 7 0", "wrap 1 1 1 0 0",
		// Insert above how long Mid is.
		"wrap 0 0 7 7 1", "wrap 0 0 7 7 3 (li )", "wrap 0 0 7 7 65536 (li )", "wrap 0 0 0 0 2 'a'",
		// To of a swap is not From and how long Mid is.
		"swap 0 1", "swap 1 0", "swap 3 5 'a'", "swap 3 5 'abc'", "swap 3 3 'a'", "swap 5 3 'ab'", "swap 0 65536 'a'", "swap 4 2 'ab'",
		// Mid may not be.
		"put 0 0 /zz", "put 0 0 (h )", "put 0 0 'a'^em^code", "put 0 0 'a'^code^em", "put 0 0 (doc", "put 0 0 '\x1f'", "put 0 0 'a' 'b' /p", "put 0 0 'a'^zz", "put 0 0 (h[level=" + strings.Repeat("1", 65) + "]", "put 0 0 (" + name17,
		"wrap 0 0 7 7 1 (zz )", "wrap 0 0 7 7 1 (li )^em", "wrap 0 0 7 7 1 (text )", "swap 0 1 /zz", "swap 0 1 'a'^em^code", "swap 0 2 (p (hr", "swap 0 1 (" + name17,
		// A Mark that does not fit.
		"mark 0 7 zz", "mark 0 7 ", "mark 0 7 em[a=1]", "mark 0 7 p", "mark 0 7 Em", "bare 0 7 zz", "bare 0 7 ", "bare 0 7 code[a=]", "mark 0 7 " + name17, "mark 0 7 em[" + name17 + "=1]", "mark 0 7 em[a=" + strings.Repeat("1", 65) + "]",
		// A Name that is none, a Value that is none.
		"attr 0 =2", "attr 0 Level=2", "attr 0 le vel=2", "attr 0 level2=", "attr 0 level=\x1f", "attr 0 level=\x7f", "attr 0 level=a\nb", "attr 0 level=\xff", "attr 0 ",
	} {
		checkIs(t, pages(), change(s), arg)
	}
	for _, x := range []struct {
		s api.Step
		e api.Errno
	}{
		{change("mark 0 7 a[href=x,title=]"), ok}, {change("bare 0 7 a[href=x,title=y]"), ok}, {change("mark 0 7 note[by=]"), ok},
		{change("mark 0 7 a"), arg}, {change("mark 0 7 a[href=x]"), arg}, {change("bare 0 7 a[title=x]"), arg}, {change("mark 0 7 a[title=x,href=y]"), arg}, {change("mark 0 7 note[by=\n]"), arg},
	} {
		checkIs(t, books(), x.s, x.e)
	}
}

func TestCheckOfEachKind(t *testing.T) {
	for _, s := range right() {
		for _, kind := range []int{-1, 0, 7, 8, 255, 256, 257, 1 << 32, 1<<32 + 1, 1<<32 + 6, -2, -6, math.MaxInt, math.MinInt} {
			x := change(s)
			x.Kind = kind
			checkIs(t, pages(), x, arg)
			x.Name = name17
			checkIs(t, pages(), x, long)
		}
		// As each other kind: it may be just where it has no more than that one has.
		for kind := 1; kind <= 6; kind++ {
			x := change(s)
			x.Kind = kind
			checkIs(t, pages(), x, checkByWords(pages(), x))
		}
	}
	checkIs(t, pages(), api.Step{}, arg)
	for kind, e := range []api.Errno{arg, ok, ok, arg, arg, arg, ok} {
		checkIs(t, pages(), api.Step{Kind: kind}, e)
		checkIs(t, pages(), api.Step{Kind: kind, Mid: []api.Token{}, Mark: api.Mark{Attrs: []api.Attr{}}}, e)
	}
}

// extras put something into a field each.
func extras() map[string]func(t *api.Step) {
	return map[string]func(t *api.Step){
		"To": func(t *api.Step) { t.To = 1 }, "Gap": func(t *api.Step) { t.Gap = 1 }, "End": func(t *api.Step) { t.End = 1 }, "Insert": func(t *api.Step) { t.Insert = 1 },
		"Mid": func(t *api.Step) { t.Mid = tokens("'a'") }, "Mark Type": func(t *api.Step) { t.Mark.Type = "em" }, "Mark Attrs": func(t *api.Step) { t.Mark.Attrs = []api.Attr{{Name: "a"}} },
		"Mark Attr": func(t *api.Step) { t.Mark.Attrs = make([]api.Attr, 1) }, "Name": func(t *api.Step) { t.Name = "a" }, "Value": func(t *api.Step) { t.Value = "a" },
	}
}

// What its kind does not have must be zero.
func TestCheckOfWhatItsKindDoesNotHave(t *testing.T) {
	for _, s := range right() {
		for field, put := range extras() {
			x := change(s)
			put(&x)
			field, _, _ = strings.Cut(field, " ")
			if !slices.Contains(has(x.Kind), field) {
				checkIs(t, pages(), x, arg)
			}
			x = change(s)
			x.Mid, x.Mark.Attrs = append([]api.Token{}, x.Mid...), append([]api.Attr{}, x.Mark.Attrs...)
			checkIs(t, pages(), x, ok)
		}
	}
}

// numbers are the fields of a step that are numbers.
func numbers(t *api.Step) map[string]*int {
	return map[string]*int{"From": &t.From, "To": &t.To, "Gap": &t.Gap, "End": &t.End, "Insert": &t.Insert}
}

// Numbers are from 0 to MaxDoc, whatever they are to one another.
func TestCheckOfEachNumber(t *testing.T) {
	for _, s := range right() {
		one := change(s)
		for field := range numbers(&one) {
			for _, n := range []int{-1, -2, 65537, 1 << 20, 1 << 32, math.MaxInt, math.MinInt} {
				x := change(s)
				*numbers(&x)[field] = n
				checkIs(t, pages(), x, arg)
			}
			for _, n := range []int{0, 1, 2, 3, 4, 5, 6, 7, 8, 65535, 65536} {
				x := change(s)
				*numbers(&x)[field] = n
				checkIs(t, pages(), x, checkByWords(pages(), x))
			}
		}
		for _, by := range []int{-70000, 65537, math.MaxInt - 65536, math.MinInt} {
			x := change(s)
			for _, n := range numbers(&x) {
				*n += by
			}
			checkIs(t, pages(), x, arg)
		}
	}
	checkIs(t, pages(), api.Step{Kind: api.StepSwap, From: -1, Mid: tokens("'a'")}, arg)
	checkIs(t, pages(), api.Step{Kind: api.StepSwap, From: math.MaxInt, To: math.MinInt, Mid: tokens("'a'")}, arg)
	checkIs(t, pages(), api.Step{Kind: api.StepSwap, From: 65536, To: 65537, Mid: tokens("'a'")}, arg)
}

// All numbers that are small, in whatever order.
func TestCheckOfAllOrders(t *testing.T) {
	for _, kind := range []int{api.StepPut, api.StepWrap, api.StepMark, api.StepBare, api.StepSwap} {
		for i := range 3 * 3 * 3 * 3 * 3 * 3 {
			x := api.Step{Kind: kind, From: i % 3, Gap: i / 3 % 3, End: i / 9 % 3, To: i / 27 % 3, Insert: i / 81 % 3, Mid: tokens("'ab'")[:i/243%3]}
			checkIs(t, small("doc: text*"), x, checkByWords(small("doc: text*"), x))
		}
	}
}

// What is too long counts ahead of all that may not be, of whatever kind the step is.
func TestCheckOfWhatIsTooLong(t *testing.T) {
	many, most := times(tokens("'a'"), 1<<16+1), times(tokens("'a'"), 1<<16)
	for _, s := range append(right(), "put 1 0", "wrap 0 0 7 7 3 (li )", "swap 3 5 'a'", "mark 0 7 zz", "attr 0 =\n", "put 0 0 /zz") {
		for kind := -1; kind <= 7; kind++ {
			x := change(s)
			x.Kind, x.Name = kind, name17
			checkIs(t, pages(), x, long)
			x.Name, x.Value = "", strings.Repeat("\n", 65)
			checkIs(t, pages(), x, long)
			x.Name, x.Value = strings.Repeat("N", 1000), strings.Repeat("v", 1000)
			checkIs(t, pages(), x, long)
			x = change(s)
			x.Kind, x.Name, x.Value = kind, strings.Repeat("n", 16), strings.Repeat("v", 64)
			checkIs(t, pages(), x, checkByWords(pages(), x))
		}
	}
	for kind := -1; kind <= 7; kind++ {
		checkIs(t, pages(), api.Step{Kind: kind, Mid: many}, long)
		checkIs(t, pages(), api.Step{Kind: kind, From: 1, Mid: make([]api.Token, 1<<16+1)}, long)
		checkIs(t, pages(), api.Step{Kind: kind, From: -1, Mid: make([]api.Token, 1<<16)}, arg)
	}
	checkIs(t, pages(), api.Step{Kind: api.StepPut, Mid: most}, ok)
	checkIs(t, pages(), api.Step{Kind: api.StepWrap, Insert: 1 << 16, Mid: most}, ok)
	checkIs(t, pages(), api.Step{Kind: api.StepWrap, Insert: 1<<16 + 1, Mid: most}, arg)
	checkIs(t, pages(), api.Step{Kind: api.StepSwap, To: 1 << 16, Mid: most}, ok)
	checkIs(t, pages(), api.Step{Kind: api.StepMark, Mark: api.Mark{Type: "em"}, Mid: most}, arg)
	// What is too long in a Mark, or in a token, is one that does not fit.
	x := change("mark 0 7 em")
	x.Mark.Attrs = make([]api.Attr, 9)
	checkIs(t, pages(), x, arg)
	x = change("put 0 0 /hr")
	x.Mid[0].Attrs = make([]api.Attr, 9)
	checkIs(t, pages(), x, arg)
}
