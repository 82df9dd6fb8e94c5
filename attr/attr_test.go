package attr_test

import (
	"slices"
	"strings"
	"testing"

	"copydesk/api"
	"copydesk/attr"
)

// letters are n names of one byte, rising.
func letters(n int) []string {
	return strings.Split("abcdefghijklmnopqrstuvwxyz"[:n], "")
}

// list makes attributes of names and values in turn.
func list(parts ...string) []api.Attr {
	var l []api.Attr
	for i := 0; i < len(parts); i += 2 {
		l = append(l, api.Attr{Name: parts[i], Value: parts[i+1]})
	}
	return l
}

// specs makes specs of names and defaults in turn; one with the Default "!" is Must.
func specs(parts ...string) []api.AttrSpec {
	var l []api.AttrSpec
	for i := 0; i < len(parts); i += 2 {
		if parts[i+1] == "!" {
			l = append(l, api.AttrSpec{Name: parts[i], Must: true})
		} else {
			l = append(l, api.AttrSpec{Name: parts[i], Default: parts[i+1]})
		}
	}
	return l
}

func lettersAs(n int, value string) []api.Attr {
	var l []api.Attr
	for _, name := range letters(n) {
		l = append(l, api.Attr{Name: name, Value: value})
	}
	return l
}

func asSpecs(l []api.Attr) []api.AttrSpec {
	var out []api.AttrSpec
	for _, a := range l {
		out = append(out, api.AttrSpec{Name: a.Name, Default: a.Value})
	}
	return out
}

// P2.1

func TestName(t *testing.T) {
	for s, want := range map[string]bool{
		"":                            false,
		"a":                           true,
		"z":                           true,
		"level":                       true,
		"azbycx":                      true,
		strings.Repeat("q", 16):       true,
		strings.Repeat("q", 17):       false,
		strings.Repeat("q", 1000):     false,
		strings.Repeat("q", 16) + "A": false,
		"aA":                          false,
		"Aa":                          false,
		"aAa":                         false,
		"a1":                          false,
		"a b":                         false,
		"a-b":                         false,
		"a_":                          false,
		"\u00e4":                      false,
		"a\u0430":                     false,
		"a\x00":                       false,
		"\xff":                        false,
	} {
		if attr.Name(s) != want {
			t.Errorf("Name(%q) is not %t", s, want)
		}
	}
}

func TestNameOfEachByte(t *testing.T) {
	for c := range 256 {
		want := c >= 'a' && c <= 'z'
		for _, s := range []string{string([]byte{byte(c)}), string([]byte{byte(c), 'm'}), string([]byte{'m', byte(c), 'm'}), string([]byte{'m', byte(c)})} {
			if attr.Name(s) != want {
				t.Errorf("Name(%q) is not %t", s, want)
			}
			wantErr := api.ErrArg
			if want {
				wantErr = api.OK
			}
			if e := attr.Check(list(s, "1")); e != wantErr {
				t.Errorf("Check of the name %q: %d", s, e)
			}
			if e := attr.CheckSpecs(specs(s, "1")); e != wantErr {
				t.Errorf("CheckSpecs of the name %q: %d", s, e)
			}
		}
	}
}

func TestValueOfEachLength(t *testing.T) {
	for n := range 200 {
		if attr.Value(strings.Repeat("~", n)) != (n <= 64) {
			t.Errorf("Value of %d bytes is not %t", n, n <= 64)
		}
	}
}

func TestNameOfEachLength(t *testing.T) {
	for n := range 100 {
		want := n >= 1 && n <= 16
		if attr.Name(strings.Repeat("k", n)) != want {
			t.Errorf("Name of %d bytes is not %t", n, want)
		}
	}
}

func TestValueOfEachByte(t *testing.T) {
	for c := range 256 {
		want := c >= 32 && c <= 126
		for _, s := range []string{string([]byte{byte(c)}), string([]byte{byte(c), 'm'}), string([]byte{'m', byte(c), 'm'}), string([]byte{'m', byte(c)})} {
			if attr.Value(s) != want {
				t.Errorf("Value(%q) is not %t", s, want)
			}
			wantErr := api.ErrArg
			if want {
				wantErr = api.OK
			}
			if e := attr.Check(list("a", s)); e != wantErr {
				t.Errorf("Check of the value %q: %d", s, e)
			}
			if e := attr.CheckSpecs(asSpecs(list("a", s))); e != wantErr {
				t.Errorf("CheckSpecs of the Default %q: %d", s, e)
			}
		}
	}
}

// checks are lists, and what Check answers; CheckSpecs answers the same, where the values are Defaults.
func checks() map[string]struct {
	l    []api.Attr
	want api.Errno
} {
	name16, name17 := strings.Repeat("n", 16), strings.Repeat("n", 17)
	value64, value65 := strings.Repeat(" ", 64), strings.Repeat(" ", 65)
	type one = struct {
		l    []api.Attr
		want api.Errno
	}
	return map[string]one{
		"nil":                                 {nil, api.OK},
		"empty":                               {[]api.Attr{}, api.OK},
		"one":                                 {list("a", "1"), api.OK},
		"an empty value":                      {list("a", ""), api.OK},
		"two that rise":                       {list("a", "2", "b", "1"), api.OK},
		"two of which one begins the other":   {list("a", "", "aa", ""), api.OK},
		"these the other way round":           {list("aa", "", "a", ""), api.ErrArg},
		"two that fall":                       {list("b", "1", "a", "2"), api.ErrArg},
		"two that are the same":               {list("a", "1", "a", "2"), api.ErrArg},
		"two that are wholly the same":        {list("a", "1", "a", "1"), api.ErrArg},
		"the last two are the same":           {list("a", "1", "b", "2", "b", "3"), api.ErrArg},
		"the last two fall":                   {list("a", "1", "c", "2", "b", "3"), api.ErrArg},
		"the same, not side by side":          {list("a", "1", "b", "2", "a", "3"), api.ErrArg},
		"8":                                   {lettersAs(8, "x"), api.OK},
		"9":                                   {lettersAs(9, "x"), api.ErrLong},
		"26":                                  {lettersAs(26, "x"), api.ErrLong},
		"9 without names":                     {make([]api.Attr, 9), api.ErrLong},
		"8 without names":                     {make([]api.Attr, 8), api.ErrArg},
		"9 that fall":                         {reversed(lettersAs(9, "x")), api.ErrLong},
		"8 that fall":                         {reversed(lettersAs(8, "x")), api.ErrArg},
		"a name of 0":                         {list("", "1"), api.ErrArg},
		"a name of 0 behind":                  {list("a", "1", "", "1"), api.ErrArg},
		"a name of 0 and one of 1":            {list("", "1", "a", "1"), api.ErrArg},
		"a name of 16":                        {list(name16, "1"), api.OK},
		"a name of 17":                        {list(name17, "1"), api.ErrLong},
		"a name of 17 behind":                 {list("a", "1", name17, "1"), api.ErrLong},
		"a name of 17 that are no letters":    {list(strings.Repeat("-", 17), "1"), api.ErrLong},
		"a value of 64":                       {list("a", value64), api.OK},
		"a value of 65":                       {list("a", value65), api.ErrLong},
		"a value of 65 behind":                {list("a", "1", "b", value65), api.ErrLong},
		"a value of 65 bytes 10":              {list("a", strings.Repeat("\n", 65)), api.ErrLong},
		"a value of 64 bytes 10":              {list("a", strings.Repeat("\n", 64)), api.ErrArg},
		"a byte 10":                           {list("a", "\n"), api.ErrArg},
		"a value of 33 letters of 2 bytes":    {list("a", strings.Repeat("\u00e4", 33)), api.ErrLong},
		"a value of 32 letters of 2 bytes":    {list("a", strings.Repeat("\u00e4", 32)), api.ErrArg},
		"ErrArg, then a name too long":        {list("A", "1", name17, "1"), api.ErrLong},
		"a name too long, then ErrArg":        {list(name17, "1", "A", "1"), api.ErrLong},
		"ErrArg, then a value too long":       {list("a", "\n", "b", value65), api.ErrLong},
		"a value too long, then ErrArg":       {list("a", value65, "b", "\n"), api.ErrLong},
		"a wrong name of a value too long":    {list("A", value65), api.ErrLong},
		"a wrong value of a name too long":    {list(name17, "\x7f"), api.ErrLong},
		"falling names, then a value of 65":   {list("b", "", "a", "", "c", value65), api.ErrLong},
		"same names, the first value of 65":   {list("a", value65, "a", ""), api.ErrLong},
		"a name without bytes, then 17 bytes": {list("", "", name17, ""), api.ErrLong},
	}
}

func reversed(l []api.Attr) []api.Attr {
	slices.Reverse(l)
	return l
}

func TestCheck(t *testing.T) {
	for name, x := range checks() {
		if e := attr.Check(x.l); e != x.want {
			t.Errorf("%s: error %d, want %d", name, e, x.want)
		}
	}
}

func TestCheckSpecs(t *testing.T) {
	for name, x := range checks() {
		if e := attr.CheckSpecs(asSpecs(x.l)); e != x.want {
			t.Errorf("%s: error %d, want %d", name, e, x.want)
		}
	}
}

func TestCheckSpecsThatAreMust(t *testing.T) {
	must := func(name, value string) api.AttrSpec {
		return api.AttrSpec{Name: name, Default: value, Must: true}
	}
	for name, x := range map[string]struct {
		l    []api.AttrSpec
		want api.Errno
	}{
		"no Default":                  {[]api.AttrSpec{must("a", "")}, api.OK},
		"a Default":                   {[]api.AttrSpec{must("a", "1")}, api.ErrArg},
		"a blank":                     {[]api.AttrSpec{must("a", " ")}, api.ErrArg},
		"a Default of 64":             {[]api.AttrSpec{must("a", strings.Repeat("1", 64))}, api.ErrArg},
		"a Default of 65":             {[]api.AttrSpec{must("a", strings.Repeat("1", 65))}, api.ErrLong},
		"a Default that is no value":  {[]api.AttrSpec{must("a", "\n")}, api.ErrArg},
		"a Default, then one of 65":   {[]api.AttrSpec{must("a", "1"), {Name: "b", Default: strings.Repeat("1", 65)}}, api.ErrLong},
		"a Default of the last":       {[]api.AttrSpec{{Name: "a", Default: "1"}, must("b", "1")}, api.ErrArg},
		"one of each kind":            {[]api.AttrSpec{{Name: "a", Default: "1"}, must("b", "")}, api.OK},
		"these the other way round":   {[]api.AttrSpec{must("b", ""), {Name: "a", Default: "1"}}, api.ErrArg},
		"the same, of different kind": {[]api.AttrSpec{must("a", ""), {Name: "a"}}, api.ErrArg},
		"a name of 17":                {[]api.AttrSpec{must(strings.Repeat("a", 17), "1")}, api.ErrLong},
		"a name of 0":                 {[]api.AttrSpec{must("", "")}, api.ErrArg},
		"9 with Defaults":             {slices.Repeat([]api.AttrSpec{must("a", "1")}, 9), api.ErrLong},
	} {
		if e := attr.CheckSpecs(x.l); e != x.want {
			t.Errorf("Must with %s: error %d, want %d", name, e, x.want)
		}
	}
}

// P2.2

func TestGet(t *testing.T) {
	nine := lettersAs(9, "x")
	for _, x := range []struct {
		l    []api.Attr
		name string
		want string
		ok   bool
	}{
		{nil, "a", "", false},
		{nil, "", "", false},
		{[]api.Attr{}, "a", "", false},
		{list("a", "1", "b", "2", "c", "3"), "a", "1", true},
		{list("a", "1", "b", "2", "c", "3"), "b", "2", true},
		{list("a", "1", "b", "2", "c", "3"), "c", "3", true},
		{list("a", "1", "b", "2", "c", "3"), "d", "", false},
		{list("b", "1"), "a", "", false},
		{list("a", "1"), "", "", false},
		{list("a", "1"), "A", "", false},
		{list("ab", "1"), "a", "", false},
		{list("a", "1"), "ab", "", false},
		{list("a", ""), "a", "", true},
		{list("a", "1", "a", "2"), "a", "1", true},
		{list("c", "1", "a", "2", "a", "3"), "a", "2", true},
		{list("", "1"), "", "1", true},
		{list("A", "\n"), "A", "\n", true},
		{nine, "i", "x", true},
	} {
		if v, ok := attr.Get(x.l, x.name); v != x.want || ok != x.ok {
			t.Errorf("Get(%q, %q) = %q, %t", x.l, x.name, v, ok)
		}
	}
}

func TestSet(t *testing.T) {
	three := list("a", "1", "b", "2", "c", "3")
	for _, x := range []struct {
		l     []api.Attr
		name  string
		value string
		want  []api.Attr
	}{
		{three, "a", "9", list("a", "9", "b", "2", "c", "3")},
		{three, "b", "9", list("a", "1", "b", "9", "c", "3")},
		{three, "c", "9", list("a", "1", "b", "2", "c", "9")},
		{three, "b", "", list("a", "1", "b", "", "c", "3")},
		{three, "b", "2", three},
		{list("a", ""), "a", strings.Repeat("~", 64), list("a", strings.Repeat("~", 64))},
		{lettersAs(8, "x"), "h", "y", append(lettersAs(7, "x"), api.Attr{Name: "h", Value: "y"})},
		{list("a", "1", "ab", "2"), "ab", "9", list("a", "1", "ab", "9")},
	} {
		if l, e := attr.Set(x.l, x.name, x.value); e != api.OK || !slices.Equal(l, x.want) {
			t.Errorf("Set(%q, %q, %q) = %q, error %d", x.l, x.name, x.value, l, e)
		}
	}
}

func TestSetThatMayNotBe(t *testing.T) {
	value64, value65 := strings.Repeat("v", 64), strings.Repeat("v", 65)
	for _, x := range []struct {
		l     []api.Attr
		name  string
		value string
		want  api.Errno
	}{
		{nil, "a", "1", api.ErrNone},
		{[]api.Attr{}, "a", "1", api.ErrNone},
		{list("a", "1"), "b", "1", api.ErrNone},
		{list("ab", "1"), "a", "1", api.ErrNone},
		{list("a", "1"), "", "1", api.ErrNone},
		{list("a", "1"), "A", "1", api.ErrNone},
		{list("a", "1"), strings.Repeat("a", 17), "1", api.ErrNone},
		{list("a", "1"), "b", value65, api.ErrNone},
		{list("a", "1"), "b", "\n", api.ErrNone},
		{list("a", "1"), "a", value65, api.ErrLong},
		{list("a", "1"), "a", strings.Repeat("\n", 65), api.ErrLong},
		{list("a", "1"), "a", "\x1f", api.ErrArg},
		{list("a", "1"), "a", "\x7f", api.ErrArg},
		{list("a", "1"), "a", value64[1:] + "\n", api.ErrArg},
		{list("b", "1", "a", "1"), "a", "1", api.ErrArg},
		{list("b", "1", "a", "1"), "c", value65, api.ErrArg},
		{list("a", "\n"), "a", value65, api.ErrArg},
		{list("a", "\n"), "a", "1", api.ErrArg},
		{list("", "1"), "", "1", api.ErrArg},
		{list("a", value65), "a", "1", api.ErrLong},
		{list("a", value65), "b", "\n", api.ErrLong},
		{lettersAs(9, "x"), "a", "1", api.ErrLong},
		{lettersAs(9, "x"), "z", "\n", api.ErrLong},
	} {
		if l, e := attr.Set(x.l, x.name, x.value); e != x.want || len(l) != 0 {
			t.Errorf("Set(%q, %q, %q) = %q, error %d, want %d", x.l, x.name, x.value, l, e, x.want)
		}
	}
}

func TestFill(t *testing.T) {
	example := specs("level", "1", "src", "!")
	value64 := strings.Repeat("v", 64)
	for _, x := range []struct {
		specs []api.AttrSpec
		l     []api.Attr
		want  []api.Attr
	}{
		{example, list("src", "a"), list("level", "1", "src", "a")},
		{example, list("level", "2", "src", "a"), list("level", "2", "src", "a")},
		{example, list("src", ""), list("level", "1", "src", "")},
		{nil, nil, nil},
		{[]api.AttrSpec{}, []api.Attr{}, nil},
		{specs("a", ""), nil, list("a", "")},
		{specs("a", "1", "b", "2", "c", "3"), nil, list("a", "1", "b", "2", "c", "3")},
		{specs("a", "1", "b", "2", "c", "3"), list("a", "9"), list("a", "9", "b", "2", "c", "3")},
		{specs("a", "1", "b", "2", "c", "3"), list("b", "9"), list("a", "1", "b", "9", "c", "3")},
		{specs("a", "1", "b", "2", "c", "3"), list("c", "9"), list("a", "1", "b", "2", "c", "9")},
		{specs("a", "1", "b", "2", "c", "3"), list("a", "8", "c", "9"), list("a", "8", "b", "2", "c", "9")},
		{specs("a", "!", "b", "!"), list("a", "8", "b", "9"), list("a", "8", "b", "9")},
		{specs("a", "1", "aa", "2"), list("aa", "9"), list("a", "1", "aa", "9")},
		{specs("a", value64), nil, list("a", value64)},
		{asSpecs(lettersAs(8, "d")), list("d", "x"), slices.Concat(lettersAs(3, "d"), list("d", "x"), lettersAs(8, "d")[4:])},
		{asSpecs(lettersAs(8, "d")), lettersAs(8, "x"), lettersAs(8, "x")},
	} {
		if l, e := attr.Fill(x.specs, x.l); e != api.OK || !slices.Equal(l, x.want) {
			t.Errorf("Fill(%v, %q) = %q, error %d, want %q", x.specs, x.l, l, e, x.want)
		}
	}
}

func TestFillThatMayNotBe(t *testing.T) {
	example := specs("level", "1", "src", "!")
	value65 := strings.Repeat("v", 65)
	for _, x := range []struct {
		specs []api.AttrSpec
		l     []api.Attr
		want  api.Errno
	}{
		{example, nil, api.ErrNone},
		{example, list("level", "1"), api.ErrNone},
		{example, list("foo", "1", "src", "a"), api.ErrNone},
		{example, list("foo", "1"), api.ErrNone},
		{example, list("level", "1", "lever", "1", "src", "a"), api.ErrNone},
		{example, list("a", "1", "src", "a"), api.ErrNone},
		{example, list("src", "a", "tail", "1"), api.ErrNone},
		{specs("a", "!"), nil, api.ErrNone},
		{specs("a", "!", "b", "1"), list("b", "2"), api.ErrNone},
		{nil, list("a", "1"), api.ErrNone},
		{specs("b", "1"), list("a", "1"), api.ErrNone},
		{specs("a", "1"), list("b", "1"), api.ErrNone},
		{specs("a", "1", "c", "1"), list("b", "1"), api.ErrNone},
		{specs("a", "1"), lettersAs(8, "x"), api.ErrNone},

		{specs("b", "1", "a", "1"), nil, api.ErrArg},
		{specs("a", "1", "a", "1"), list("a", "1"), api.ErrArg},
		{specs("b", "1", "a", "1"), list("a", value65), api.ErrArg},
		{specs("b", "1", "a", "1"), list("foo", "1"), api.ErrArg},
		{[]api.AttrSpec{{Name: "a", Default: "1", Must: true}}, list("a", "1"), api.ErrArg},
		{[]api.AttrSpec{{Name: "a", Default: "1", Must: true}}, lettersAs(9, "x"), api.ErrArg},
		{specs("a", value65), list("b", "1", "a", "1"), api.ErrLong},
		{asSpecs(lettersAs(9, "x")), nil, api.ErrLong},
		{asSpecs(lettersAs(9, "x")), list("A", ""), api.ErrLong},
		{example, list("src", "a", "level", "1"), api.ErrArg},
		{example, list("src", "\n"), api.ErrArg},
		{example, list("foo", "\n"), api.ErrArg},
		{example, list("Foo", "1"), api.ErrArg},
		{example, list("src", value65), api.ErrLong},
		{example, list("foo", value65), api.ErrLong},
		{example, lettersAs(9, "x"), api.ErrLong},
		{nil, list("a", "1", "a", "1"), api.ErrArg},
		{nil, lettersAs(9, "x"), api.ErrLong},
	} {
		if l, e := attr.Fill(x.specs, x.l); e != x.want || len(l) != 0 {
			t.Errorf("Fill(%v, %q) = %q, error %d, want %d", x.specs, x.l, l, e, x.want)
		}
		if attr.Fits(x.specs, x.l) {
			t.Errorf("%q fits %v", x.l, x.specs)
		}
	}
}

func TestFits(t *testing.T) {
	for _, x := range []struct {
		specs []api.AttrSpec
		l     []api.Attr
		want  bool
	}{
		{nil, nil, true},
		{[]api.AttrSpec{}, nil, true},
		{nil, []api.Attr{}, true},
		{specs("a", "1"), list("a", "1"), true},
		{specs("a", "1"), list("a", "2"), true},
		{specs("a", "1"), list("a", ""), true},
		{specs("a", "!"), list("a", ""), true},
		{specs("a", "1", "b", "!"), list("a", "8", "b", "9"), true},
		{asSpecs(lettersAs(8, "d")), lettersAs(8, "x"), true},
		{asSpecs(lettersAs(8, "d")), lettersAs(7, "x"), false},
		{specs("a", "1"), nil, false},
		{nil, list("a", "1"), false},
		{specs("a", "1", "b", "!"), list("b", "9"), false},
		{specs("a", "1", "b", "!"), list("a", "9"), false},
		{specs("a", "1", "b", "2"), list("a", "9", "c", "9"), false},
		{specs("b", "1", "c", "2"), list("a", "9", "c", "9"), false},
		{specs("a", "1"), list("ab", "1"), false},
		// Both have the same Names, and may not be.
		{specs("b", "1", "a", "1"), list("b", "1", "a", "1"), false},
		{specs("a", "1", "a", "1"), list("a", "1", "a", "1"), false},
		{specs("A", "1"), list("A", "1"), false},
		{specs("", "1"), list("", "1"), false},
		{asSpecs(lettersAs(9, "d")), lettersAs(9, "x"), false},
		{specs(strings.Repeat("a", 17), "1"), list(strings.Repeat("a", 17), "1"), false},
		// One of both may not be.
		{specs("a", "\n"), list("a", "1"), false},
		{specs("a", "1"), list("a", "\n"), false},
		{specs("a", strings.Repeat("1", 65)), list("a", "1"), false},
		{specs("a", "1"), list("a", strings.Repeat("1", 65)), false},
		{[]api.AttrSpec{{Name: "a", Default: "1", Must: true}}, list("a", "1"), false},
	} {
		if attr.Fits(x.specs, x.l) != x.want {
			t.Errorf("Fits(%v, %q) is not %t", x.specs, x.l, x.want)
		}
	}
}

func TestCompare(t *testing.T) {
	for _, x := range []struct {
		a, b []api.Attr
		want int
	}{
		{nil, nil, 0},
		{nil, []api.Attr{}, 0},
		{nil, list("", ""), -1},
		{list("a", "1"), list("a", "1"), 0},
		{list("a", "1"), list("a", "2"), -1},
		{list("a", "1"), list("b", "1"), -1},
		{list("a", "2"), list("b", "1"), -1},
		{list("a", ""), list("a", " "), -1},
		{list("a", "1"), list("a", "11"), -1},
		{list("a", "2"), list("a", "11"), 1},
		{list("a", "9"), list("aa", "1"), -1},
		{list("b", "1"), list("aa", "1"), 1},
		// What stands ahead counts more than all that stands behind.
		{list("a", "1", "b", "9"), list("a", "2", "b", "1"), -1},
		{list("a", "2", "b", "1"), list("a", "1", "c", "1"), 1},
		{list("a", "1", "b", "1"), list("a", "1", "c", "1"), -1},
		{list("a", "1", "b", "1"), list("a", "1", "b", "2"), -1},
		// One is a first part of the other.
		{list("a", "1"), list("a", "1", "b", "1"), -1},
		{list("a", "1", "b", "1"), list("a", "1", "b", "1", "c", "1"), -1},
		{nil, list("a", "1"), -1},
		{list("b", "1"), list("a", "1", "b", "1"), 1},
		{list("a", "2"), list("a", "1", "b", "1"), 1},
		// They may be whatever they are.
		{list("b", "1", "a", "1"), list("b", "1", "a", "2"), -1},
		{list("a", "1", "a", "1"), list("a", "1"), 1},
		{list("A", "\n"), list("a", "\n"), -1},
		{list("a", "\x7f"), list("a", "\xff"), -1},
		{list("a", "\xff"), list("a", "\u00e4"), 1},
		{lettersAs(9, "x"), lettersAs(10, "x"), -1},
		{list("a", strings.Repeat("x", 65)), list("a", strings.Repeat("x", 66)), -1},
	} {
		if got := attr.Compare(x.a, x.b); got != x.want {
			t.Errorf("Compare(%q, %q) = %d, want %d", x.a, x.b, got, x.want)
		}
		if got := attr.Compare(x.b, x.a); got != -x.want {
			t.Errorf("Compare(%q, %q) = %d, want %d", x.b, x.a, got, -x.want)
		}
	}
}

// An answer must be in memory of its own: neither what is handed in nor the room behind it may change, by the call or by what is done to its answer.
func TestAnswersShareNothing(t *testing.T) {
	room := lettersAs(12, "x")
	spec := asSpecs(lettersAs(12, "d"))
	answers := map[string]func() []api.Attr{
		"Set":             func() []api.Attr { l, _ := attr.Set(room[:4], "b", "y"); return l },
		"Set of the same": func() []api.Attr { l, _ := attr.Set(room[:4], "b", "x"); return l },
		"Set's fail":      func() []api.Attr { l, _ := attr.Set(room[:4], "b", "\n"); return l },
		"Fill":            func() []api.Attr { l, _ := attr.Fill(spec[:6], room[:4]); return l },
		"Fill of all":     func() []api.Attr { l, _ := attr.Fill(spec[:4], room[:4]); return l },
		"Fill of nothing": func() []api.Attr { l, _ := attr.Fill(spec[:4], room[:0]); return l },
		"Fill's fail":     func() []api.Attr { l, _ := attr.Fill(spec[:3], room[:4]); return l },
	}
	for name, answer := range answers {
		one, two := answer(), answer()
		again := slices.Clone(two)
		one = one[:cap(one)]
		for i := range one {
			one[i] = api.Attr{Name: "mine"}
		}
		if !slices.Equal(room, lettersAs(12, "x")) || !slices.Equal(spec, asSpecs(lettersAs(12, "d"))) {
			t.Fatal(name, "wrote into what was handed in")
		}
		if !slices.Equal(two, again) {
			t.Error(name, "answered the same memory twice")
		}
	}
}

func TestCallsOnlyLook(t *testing.T) {
	room, spec := reversed(lettersAs(12, "x")), asSpecs(lettersAs(12, "d"))
	attr.Check(room[:4])
	attr.CheckSpecs(spec[:4])
	attr.Get(room[:4], "j")
	attr.Fits(spec[:4], room[:4])
	attr.Compare(room[:4], room[:5])
	if !slices.Equal(room, reversed(lettersAs(12, "x"))) || !slices.Equal(spec, asSpecs(lettersAs(12, "d"))) {
		t.Error("what was handed in is changed")
	}
}

// P2.3

// ways makes all lists that have, of each of the names a to d in their order, one of so many things or nothing: the numbers say which.
func ways(things int) [][]int {
	all := [][]int{nil}
	for range 4 {
		var more [][]int
		for _, l := range all {
			for thing := range things + 1 {
				more = append(more, append(slices.Clone(l), thing))
			}
		}
		all = more
	}
	return all
}

func TestFillAsItIsTold(t *testing.T) {
	for _, spec := range ways(2) {
		for _, own := range ways(1) {
			var s []api.AttrSpec
			var l, want []api.Attr
			wantErr := api.OK
			for i, name := range letters(4) {
				given := api.Attr{Name: name, Value: "own"}
				switch {
				case own[i] == 1 && spec[i] == 0, own[i] == 0 && spec[i] == 2:
					wantErr = api.ErrNone
				case own[i] == 1:
					want = append(want, given)
				case spec[i] == 1:
					want = append(want, api.Attr{Name: name, Value: "default"})
				}
				if own[i] == 1 {
					l = append(l, given)
				}
				if spec[i] == 1 {
					s = append(s, api.AttrSpec{Name: name, Default: "default"})
				} else if spec[i] == 2 {
					s = append(s, api.AttrSpec{Name: name, Must: true})
				}
			}
			if wantErr != api.OK {
				want = nil
			}
			got, e := attr.Fill(s, l)
			if e != wantErr || !slices.Equal(got, want) {
				t.Fatalf("Fill(%v, %q) = %q, error %d, want %q, error %d", s, l, got, e, want, wantErr)
			}
			fillFits(t, s, l)
		}
	}
}

// What is filled fits, and is the same when it is filled again.
func fillFits(t *testing.T, s []api.AttrSpec, l []api.Attr) {
	t.Helper()
	got, e := attr.Fill(s, l)
	if e != api.OK {
		if attr.Fits(s, l) {
			t.Fatalf("%q fits %v, and is not filled: error %d", l, s, e)
		}
		return
	}
	if !attr.Fits(s, got) || attr.Check(got) != api.OK {
		t.Fatalf("Fill(%v, %q) = %q, which does not fit", s, l, got)
	}
	if attr.Fits(s, l) != slices.Equal(got, l) {
		t.Fatalf("Fill(%v, %q) = %q, Fits %t", s, l, got, attr.Fits(s, l))
	}
	if again, e := attr.Fill(s, got); e != api.OK || !slices.Equal(again, got) {
		t.Fatalf("Fill(%v, %q) = %q, error %d", s, got, again, e)
	}
}

func FuzzFill(f *testing.F) {
	f.Add("level", "1", false, "src", "", true, "src", "a")
	f.Add("a", "", false, "b", "~", false, "b", "")
	f.Add("a", "1", true, "a", "\n", false, "A", "\x7f")
	f.Fuzz(func(t *testing.T, n, d string, m bool, n2, d2 string, m2 bool, own, value string) {
		fillFits(t, []api.AttrSpec{{Name: n, Default: d, Must: m}, {Name: n2, Default: d2, Must: m2}}, list(own, value))
	})
}

// some are all lists of at most two attributes out of a few, and some of three, ones that may not be among them.
func some() [][]api.Attr {
	few := list("", "", "a", "", "a", "1", "a", "11", "b", "", "b", "1", "A", "\xff")
	all := [][]api.Attr{nil}
	for _, a := range few {
		all = append(all, []api.Attr{a})
		for _, b := range few {
			all = append(all, []api.Attr{a, b})
		}
		all = append(all, []api.Attr{few[2], a, few[4]}, []api.Attr{few[2], few[4], a})
	}
	return all
}

func TestCompareIsAnOrder(t *testing.T) {
	all := some()
	for _, a := range all {
		for _, b := range all {
			ab := attr.Compare(a, b)
			if ab != -attr.Compare(b, a) || ab < -1 || ab > 1 {
				t.Fatalf("Compare(%q, %q) = %d, and %d turned round", a, b, ab, attr.Compare(b, a))
			}
			if (ab == 0) != slices.Equal(a, b) {
				t.Fatalf("Compare(%q, %q) = %d", a, b, ab)
			}
			for _, c := range all {
				if ab <= 0 && attr.Compare(b, c) <= 0 && attr.Compare(a, c) != min(ab, attr.Compare(b, c)) {
					t.Fatalf("%q, %q, %q are in no order", a, b, c)
				}
			}
		}
	}
}

// One order is the only one that puts the empty list first, the others by their first attribute, and those of one first attribute by the rest.
func TestCompareGoesOneByOne(t *testing.T) {
	all := some()
	for _, a := range all {
		for _, b := range all {
			if got, want := attr.Compare(a, b), oneByOne(a, b); got != want {
				t.Fatalf("Compare(%q, %q) = %d, want %d", a, b, got, want)
			}
		}
	}
}

func oneByOne(a, b []api.Attr) int {
	switch {
	case len(a) == 0 && len(b) == 0:
		return 0
	case len(a) == 0:
		return -1
	case len(b) == 0:
		return 1
	case a[0].Name != b[0].Name:
		return strings.Compare(a[0].Name, b[0].Name)
	case a[0].Value != b[0].Value:
		return strings.Compare(a[0].Value, b[0].Value)
	}
	return oneByOne(a[1:], b[1:])
}
