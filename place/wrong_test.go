package place_test

import (
	"math"
	"slices"
	"testing"

	"copydesk/api"
	"copydesk/node"
	"copydesk/place"
)

// P9.1, P9.2: the errors, and which one is told where several apply.

// places are some that are, some that are none, of a row of so many tokens.
func places(most int) []int {
	return []int{0, 1, most, most + 1, -1, 1 << 16, 1 << 20, 1 << 32, math.MaxInt, math.MinInt}
}

// wrongAnywhere fails unless each call, whatever places it is handed, has just the error e, which is node.Document's.
func wrongAnywhere(t *testing.T, s api.Schema, n api.Node, e api.Errno) {
	t.Helper()
	if got := node.Document(s, n); got != e {
		t.Errorf("%.500s: node.Document has the error %d, want %d", told(n), got, e)
	}
	for _, from := range places(5) {
		wrongAt(t, s, n, from, e)
		for _, to := range []int{from, 0, 5, -1} {
			wrong(t, s, n, from, to, e)
		}
	}
}

func TestWhatIsNoDocument(t *testing.T) {
	for _, n := range list("doc p p('a') hr br 'a' text zz h[level=1] li(p) doc^em(p) doc(doc(p)) doc(zz) doc('a') doc(br) doc(li) doc(p(p)) doc(hr(hr)) doc[level=1](p) doc'a'(p) doc(p'a')" +
		" doc(h) doc(p('')) doc(p('a'^code^em)) doc(p('a'^zz)) doc(p^em) doc(hr[level=1]) doc(h[level=1](br)) doc(h[level=1]('a'^code)) doc(p('\x1f')) doc(p('\x7f'))") {
		wrongAnywhere(t, pages(), tree(n), shape)
	}
	wrongAnywhere(t, pages(), api.Node{}, shape)
	wrongAnywhere(t, pages(), tree("doc(p('a' 'b'))"), shape)
	wrongAnywhere(t, pages(), tree("doc(p('ab'^em 'c'^em) hr)"), shape)
	wrongAnywhere(t, books(), tree("top^note[by=](sec)"), shape)
	wrongAnywhere(t, books(), tree("sec"), shape)
	wrongAnywhere(t, small("top:", "p:text*"), tree("top(p)"), shape)
}

func TestWhatIsTooMuch(t *testing.T) {
	wrongAnywhere(t, pages(), doc(nested(14)), long)
	wrongAnywhere(t, pages(), doc(tree("br"), nested(14)), long)
	n := api.Node{Type: "text", Text: string(make([]byte, 1<<16-3))}
	wrongAt(t, pages(), doc(api.Node{Type: "p", Kids: []api.Node{n}}), 1, long)
	wrong(t, pages(), doc(api.Node{Type: "p", Kids: []api.Node{n}}), 3, 1, long)
	for range 18 {
		n = api.Node{Type: "p", Kids: []api.Node{n}}
	}
	wrongAt(t, pages(), n, -1, long)
}

func TestSchemasThatMayNotBe(t *testing.T) {
	d := tree("doc(p('a' 'b'^em) hr)")
	for _, change := range []func(s *api.Schema){
		func(s *api.Schema) { s.Types = nil },
		func(s *api.Schema) { s.Types = s.Types[:6] },
		func(s *api.Schema) { s.Types[1].Content = "inline* block*" },
		func(s *api.Schema) { s.Types[0].Content = "doc+" },
		func(s *api.Schema) { s.Types[0].Content = "block++" },
		func(s *api.Schema) { s.Types[0].Inline = true },
		func(s *api.Schema) { s.Types[2].Name = "p" },
		func(s *api.Schema) { s.Types[1].Marks = list("em code") },
		func(s *api.Schema) { s.Marks[1].Excludes = list("zz") },
		func(s *api.Schema) { s.Marks = nil },
	} {
		s := pages()
		change(&s)
		wrongAnywhere(t, s, d, arg)
		wrongAnywhere(t, s, api.Node{}, arg)
	}
	for _, change := range []func(s *api.Schema){
		func(s *api.Schema) { s.Types[4].Name = name17 },
		func(s *api.Schema) { s.Marks[0].Name = name17 },
		func(s *api.Schema) { s.Types[1].Groups = []string{name17} },
		func(s *api.Schema) { s.Types = append(s.Types, make([]api.NodeType, 26)...) },
		func(s *api.Schema) { s.Marks = append(s.Marks, make([]api.MarkType, 15)...) },
	} {
		s := pages()
		change(&s)
		wrongAnywhere(t, s, d, long)
		s.Types[1].Content = "++"
		wrongAnywhere(t, s, d, long)
	}
	wrongAnywhere(t, api.Schema{}, d, arg)
}

func TestPlacesThatAreNone(t *testing.T) {
	for _, x := range alongs() {
		n := tree(x.doc)
		most := length(x.schema, n)
		for _, from := range places(most) {
			there := 0 <= from && from <= most
			if !there {
				wrongAt(t, x.schema, n, from, none)
			}
			for _, to := range places(most) {
				if !there || to < 0 || to > most {
					wrong(t, x.schema, n, from, to, none)
					sharedIs(t, x.schema, n, from, to, 0, none)
				} else if from > to {
					wrong(t, x.schema, n, from, to, none)
				}
			}
		}
	}
}

// From above to is an error of each call but Shared.
func TestFromAboveTo(t *testing.T) {
	d := tree("doc(p('a' 'b'^em) hr)")
	for from := range 6 {
		for to := range from {
			wrong(t, pages(), d, from, to, none)
			if _, e := place.Shared(pages(), d, from, to); e != ok {
				t.Errorf("Shared by %d, %d: error %d", from, to, e)
			}
		}
	}
	sharedIs(t, pages(), d, 3, 1, 1, ok)
	sharedIs(t, pages(), d, 6, 1, 0, none)
	sharedIs(t, pages(), d, 1, -1, 0, none)
}

// At tells nothing where nothing begins: where a node ends, behind the last one, where there are none.
func TestAtNothing(t *testing.T) {
	for _, x := range []struct {
		doc   string
		empty []int
	}{
		{"doc(p('a' 'b'^em) hr)", []int{3, 5}},
		{"doc(li(p('a') li(p p)) p)", []int{3, 6, 8, 9, 10, 12, 13}},
		{"doc(p p)", []int{1, 3, 4}},
		{"doc(hr)", []int{1}},
	} {
		n := tree(x.doc)
		var got []int
		for at := -2; at <= length(pages(), n)+2; at++ {
			one, there := place.At(pages(), n, at)
			if inside := 0 <= at && at <= length(pages(), n); !there && inside {
				got = append(got, at)
			} else if there != inside || there == alike(one, api.Node{}) {
				t.Errorf("At of %s at %d: %s, %t", x.doc, at, told(one), there)
			}
		}
		if !slices.Equal(got, x.empty) {
			t.Errorf("At of %s: nothing at %v, want %v", x.doc, got, x.empty)
		}
	}
}
