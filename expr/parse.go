package expr

import (
	"copydesk/api"
	"copydesk/attr"
)

// Parse answers the expression of which s is a text; ErrBad tells where s can't be one.
func Parse(s string) (e api.Expr, at int, err api.Errno) {
	if len(s) > api.MaxExpr {
		return api.Expr{}, -1, api.ErrLong
	}
	r := &reader{text: s}
	e, ok := r.whole()
	if !ok {
		return api.Expr{}, r.at, api.ErrBad
	}
	if err := Check(e); err != api.OK {
		return api.Expr{}, -1, err
	}
	return e, 0, api.OK
}

// reader goes over a text. Where a method answers false, at is the place of the fault.
type reader struct {
	text string
	at   int
}

// next answers the byte that stands next behind any blanks; 0, which nothing can begin with, at the end.
func (r *reader) next() byte {
	for r.at < len(r.text) && r.text[r.at] == ' ' {
		r.at++
	}
	if r.at == len(r.text) {
		return 0
	}
	return r.text[r.at]
}

// take goes over c, if it stands next.
func (r *reader) take(c byte) bool {
	if r.next() != c {
		return false
	}
	r.at++
	return true
}

// run goes over all bytes from low to high that stand next, and answers them.
func (r *reader) run(low, high byte) string {
	r.next()
	start := r.at
	for r.at < len(r.text) && r.text[r.at] >= low && r.text[r.at] <= high {
		r.at++
	}
	return r.text[start:r.at]
}

// back tells that a fault counts from the beginning of what was gone over last.
func (r *reader) back(s string) {
	r.at -= len(s)
}

func (r *reader) whole() (api.Expr, bool) {
	r.next()
	if r.at == len(r.text) {
		return api.Expr{Kind: api.ExprSeq}, true
	}
	e, ok := r.choice()
	return e, ok && r.at == len(r.text)
}

// choice reads what may have | between.
func (r *reader) choice() (api.Expr, bool) {
	var kids []api.Expr
	for {
		kid, ok := r.row()
		if !ok {
			return api.Expr{}, false
		}
		kids = with(kids, api.ExprAlt, kid)
		if !r.take('|') {
			return list(api.ExprAlt, kids), true
		}
	}
}

// row reads what stands one behind the other.
func (r *reader) row() (api.Expr, bool) {
	var kids []api.Expr
	for {
		kid, ok := r.many()
		if !ok {
			return api.Expr{}, false
		}
		kids = with(kids, api.ExprSeq, kid)
		if c := r.next(); c != '(' && !letter(c) {
			return list(api.ExprSeq, kids), true
		}
	}
}

func letter(c byte) bool {
	return c >= 'a' && c <= 'z'
}

// with puts kid, or the Kids of one of that kind, behind kids.
func with(kids []api.Expr, kind int, kid api.Expr) []api.Expr {
	if kid.Kind == kind {
		return append(kids, kid.Kids...)
	}
	return append(kids, kid)
}

// list is the expression of so many kids, one at least.
func list(kind int, kids []api.Expr) api.Expr {
	if len(kids) == 1 {
		return kids[0]
	}
	return api.Expr{Kind: kind, Kids: kids}
}

// many reads one thing, and the sign behind it, if there is one.
func (r *reader) many() (api.Expr, bool) {
	kid, ok := r.one()
	if !ok {
		return api.Expr{}, false
	}
	c := r.next()
	pair, there := signs()[c]
	switch {
	case there:
		r.at++
	case c == '{':
		if pair, ok = r.braces(); !ok {
			return api.Expr{}, false
		}
	default:
		return kid, true
	}
	return api.Expr{Kind: api.ExprMany, Min: pair[0], Max: pair[1], Kids: []api.Expr{kid}}, true
}

// one reads a name, or what stands in brackets.
func (r *reader) one() (api.Expr, bool) {
	if r.take('(') {
		e, ok := r.choice()
		return e, ok && r.take(')')
	}
	name := r.run('a', 'z')
	if !attr.Name(name) {
		r.back(name)
		return api.Expr{}, false
	}
	return api.Expr{Kind: api.ExprName, Name: name}, true
}

// braces reads {n}, {n,} or {n,m}, as the two numbers of an ExprMany.
func (r *reader) braces() ([2]int, bool) {
	start := r.at
	r.at++
	low, ok := r.number()
	if !ok {
		return [2]int{}, false
	}
	high := low
	if r.take(',') {
		if high, ok = r.upper(); !ok {
			return [2]int{}, false
		}
	}
	if !r.take('}') {
		return [2]int{}, false
	}
	if !times(low, high) {
		r.at = start
		return [2]int{}, false
	}
	return [2]int{low, high}, true
}

// upper reads the number behind the comma; -1 if there is none.
func (r *reader) upper() (int, bool) {
	if r.next() == '}' {
		return -1, true
	}
	return r.number()
}

// number reads decimal digits; each number that is greater counts as the greatest.
func (r *reader) number() (int, bool) {
	digits := r.run('0', '9')
	if digits == "" || digits[0] == '0' && digits != "0" {
		r.back(digits)
		return 0, false
	}
	n := 0
	for _, c := range []byte(digits) {
		n = min(n*10+int(c-'0'), greatest)
	}
	return n, true
}
