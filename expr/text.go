package expr

import (
	"strconv"
	"strings"

	"copydesk/api"
)

// signs are those that stand behind, but for numbers in braces: from how many times to how many.
func signs() map[byte][2]int {
	return map[byte][2]int{
		'*': {0, -1},
		'+': {1, -1},
		'?': {0, 1},
	}
}

// Text answers e as a text.
func Text(e api.Expr) (string, api.Errno) {
	if err := Check(e); err != api.OK {
		return "", err
	}
	return text(e), api.OK
}

func text(e api.Expr) string {
	switch e.Kind {
	case api.ExprSeq:
		return joined(e, " ")
	case api.ExprAlt:
		return joined(e, " | ")
	case api.ExprMany:
		return joined(e, "") + sign(e.Min, e.Max)
	}
	return e.Name
}

// joined is the texts of e's Kids, with something between.
func joined(e api.Expr, between string) string {
	var parts []string
	for _, kid := range e.Kids {
		if binds(e.Kind, kid.Kind) {
			parts = append(parts, text(kid))
		} else {
			parts = append(parts, "("+text(kid)+")")
		}
	}
	return strings.Join(parts, between)
}

// binds tells whether a kid's parts hold together within a kind without brackets.
func binds(kind, kid int) bool {
	switch kind {
	case api.ExprSeq:
		return kid != api.ExprAlt
	case api.ExprMany:
		return kid == api.ExprName
	}
	return true
}

func sign(low, high int) string {
	for c, times := range signs() {
		if times == [2]int{low, high} {
			return string([]byte{c})
		}
	}
	s := "{" + strconv.Itoa(low)
	if high != low {
		s += ","
	}
	if high != low && high != -1 {
		s += strconv.Itoa(high)
	}
	return s + "}"
}
