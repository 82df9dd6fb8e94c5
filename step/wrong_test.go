package step_test

import (
	"strings"
	"testing"

	"copydesk/api"
	"copydesk/step"
)

// Which error counts (Rules, 1), ahead of which others.

// badSchemas are schemas like the pages', none of which may be, and their errors.
func badSchemas() map[string]api.Schema {
	all := map[string]api.Schema{}
	for what, do := range map[string]func(s *api.Schema){
		"arg: nothing":              func(s *api.Schema) { *s = api.Schema{} },
		"arg: no types":             func(s *api.Schema) { s.Types = nil },
		"arg: no text":              func(s *api.Schema) { s.Types = s.Types[:6] },
		"arg: a type twice":         func(s *api.Schema) { s.Types = append(s.Types, api.NodeType{Name: "hr"}) },
		"arg: a Content of others":  func(s *api.Schema) { s.Types[3].Content = "zz" },
		"arg: a top in a group":     func(s *api.Schema) { s.Types[0].Groups = list("a") },
		"arg: text as the top":      func(s *api.Schema) { s.Types[0], s.Types[6] = s.Types[6], s.Types[0] },
		"arg: a top of no making":   func(s *api.Schema) { s.Types[0].Content = "doc" },
		"arg: a wrong mark":         func(s *api.Schema) { s.Marks[0].Name = "Em" },
		"arg: a type's Marks":       func(s *api.Schema) { s.Types[1].Marks = list("em code") },
		"arg: a wrong Default":      func(s *api.Schema) { s.Types[2].Attrs[0].Default = "\n" },
		"long: 33 types":            func(s *api.Schema) { s.Types = append(s.Types, make([]api.NodeType, 26)...) },
		"long: 17 marks":            func(s *api.Schema) { s.Marks = append(s.Marks, make([]api.MarkType, 15)...) },
		"long: a name of 17":        func(s *api.Schema) { s.Types[4].Name = name17 },
		"long: 9 attributes":        func(s *api.Schema) { s.Types[2].Attrs = make([]api.AttrSpec, 9) },
		"long: a mark, of no types": func(s *api.Schema) { s.Types, s.Marks[1].Name = nil, name17 },
	} {
		s := pages()
		do(&s)
		all[what] = s
	}
	return all
}

// wrongIs fails unless Do and Undo answer e, and nothing beside it.
func wrongIs(t *testing.T, s api.Schema, n api.Node, x api.Step, e api.Errno) {
	t.Helper()
	if got, f := step.Do(s, n, x); f != e || !alike(got, api.Node{}) {
		t.Errorf("Do of %s: error %d, want %d, beside it %.500s", shownStep(x), f, e, told(got))
	}
	if u, f := step.Undo(s, n, x); f != e || !equalSteps(u, api.Step{}) {
		t.Errorf("Undo of %s: error %d, want %d, beside it %s", shownStep(x), f, e, shownStep(u))
	}
}

// The schema's error is told ahead of all others, in every call that takes one.
func TestOfASchemaThatMayNotBe(t *testing.T) {
	steps := []api.Step{{}, change("put 0 0"), change("put 9 8"), change("mark 0 7 em"), change("mark 0 7 zz"), change("attr 0 " + name17 + "=2"), change("attr 0 level=2"), change("swap 0 0"), {Mid: make([]api.Token, 1<<16+1)}}
	for what, s := range badSchemas() {
		want := arg
		if strings.HasPrefix(what, "long") {
			want = long
		}
		for _, x := range steps {
			checkIs(t, s, x, want)
			for _, n := range []string{"doc(p('ab') p('c'))", "doc", "zz", "doc^em(p)"} {
				wrongIs(t, s, tree(n), x, want)
			}
			wrongIs(t, s, doc(nested(20)), x, want)
		}
		betweenIs(t, s, tree(pair), tree(pair), api.Step{}, want)
		betweenIs(t, s, api.Node{}, doc(nested(20)), api.Step{}, want)
	}
}

// The document's error is told ahead of the step's, the step's ahead of what it finds there.
func TestOrderOfErrors(t *testing.T) {
	t.Parallel()
	wrongs := []struct {
		x api.Step
		e api.Errno
	}{
		{change("put 0 0"), ok}, {change("put 7 9"), place}, {change("put 1 4"), shape}, {change("put 9 8"), arg}, {change("put 9 9 /zz"), arg}, {change("attr 9 " + name17 + "="), long}, {change("attr 9 Level="), arg}, {change("attr 9 level="), place}, {change("attr 0 zz="), none},
		{change("mark 0 9 em"), place}, {change("mark 0 9 zz"), arg}, {change("bare 0 9 em"), place}, {change("bare 9 9 em[a=1]"), arg}, {change("swap 8 9 'a'"), place}, {change("swap 0 1 'a'^em"), place}, {change("swap 8 9 'a'^em^code"), arg}, {change("swap 0 1 (p^em"), shape},
		{change("wrap 0 0 9 9 1 (li )"), place}, {change("wrap 0 0 9 9 3 (li )"), arg}, {change("wrap 0 0 7 7 1 (p )"), shape}, {api.Step{}, arg}, {api.Step{Kind: 7, Value: strings.Repeat("v", 65)}, long}, {api.Step{Kind: api.StepPut, From: 9, To: 9, Mid: times(tokens("/hr"), 1<<16+1)}, long},
		// Places are asked for ahead of how long the row would be, that ahead of what it would make.
		{api.Step{Kind: api.StepPut, From: 8, To: 8, Mid: times(tokens("/hr"), 1<<16)}, place}, {api.Step{Kind: api.StepPut, From: 7, To: 8, Mid: times(tokens("(p"), 1<<16)}, place}, {api.Step{Kind: api.StepPut, Mid: times(tokens("/hr"), 1<<16)}, long}, {api.Step{Kind: api.StepPut, Mid: times(tokens("(p"), 1<<16)}, long},
		{api.Step{Kind: api.StepWrap, End: 7, To: 8, Mid: times(tokens("/hr"), 1<<16)}, place}, {api.Step{Kind: api.StepWrap, Gap: 8, End: 8, To: 8, Mid: times(tokens("/hr"), 1<<16)}, place}, {api.Step{Kind: api.StepWrap, End: 7, To: 7, Mid: times(tokens("(p"), 1<<16)}, long},
		{api.Step{Kind: api.StepPut, To: 7, Mid: times(tokens("(p"), 1<<16)}, shape}, {api.Step{Kind: api.StepPut, To: 7, Mid: times(tokens("/hr"), 1<<16)}, long}, {api.Step{Kind: api.StepSwap, To: 1 << 16, Mid: times(tokens("/hr"), 1<<16)}, place},
		// What comes is asked for being even ahead of how great it is, for that ahead of what stands in it.
		{api.Step{Kind: api.StepPut, To: 7, Mid: times(tokens("/br"), 1<<16-2)}, shape}, {api.Step{Kind: api.StepPut, To: 7, Mid: times(tokens("/br"), 1<<16-1)}, long}, {api.Step{Kind: api.StepPut, To: 7, Mid: times(tokens("/br"), 1<<16)}, long},
	}
	for _, x := range wrongs {
		if x.e != ok {
			wrongIs(t, pages(), tree(pair), x.x, x.e)
		}
		want, e := doByWords(pages(), tree(pair), x.x)
		if e != x.e {
			t.Errorf("%s: by the words error %d, %.500s", shownStep(x.x), e, told(want))
		}
		for _, n := range []string{"doc", "p('a')", "doc^em(p('ab') p('c'))", "doc(p('a' 'b') p('c'))", "zz", "doc(p('ab') p('c') br)"} {
			wrongIs(t, pages(), tree(n), x.x, shape)
		}
		wrongIs(t, pages(), doc(nested(20)), x.x, long)
		wrongIs(t, pages(), api.Node{}, x.x, shape)
	}
}
