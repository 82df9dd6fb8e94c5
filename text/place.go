package text

// place is where in a text one has come to. Where a method answers false, it is that of the fault.
type place struct {
	text string
	at   int
}

// here answers the byte that stands there; 0, by which nothing goes on, at the end.
func (p *place) here() byte {
	if p.at == len(p.text) {
		return 0
	}
	return p.text[p.at]
}

// next answers the byte that stands next behind any blanks and line ends.
func (p *place) next() byte {
	for p.here() == ' ' || p.here() == '\n' {
		p.at++
	}
	return p.here()
}

// take goes over c, if it stands next.
func (p *place) take(c byte) bool {
	if p.next() != c {
		return false
	}
	p.at++
	return true
}

// name goes over the letters that stand next, if they may be what is asked for.
func (p *place) name(may func(string) bool) (string, bool) {
	p.next()
	start := p.at
	for 'a' <= p.here() && p.here() <= 'z' {
		p.at++
	}
	s := p.text[start:p.at]
	if !may(s) {
		p.at = start
		return "", false
	}
	return s, true
}

// quoted goes over quotes that stand next, and answers what is in them, if it may be what is asked for.
func (p *place) quoted(may func(string) bool) (string, bool) {
	p.next()
	start := p.at
	s, ok := p.unquoted()
	if ok && !may(s) {
		p.at = start
		return "", false
	}
	return s, ok
}

// unquoted goes over quotes, whatever is in them.
func (p *place) unquoted() (string, bool) {
	if !p.take('"') {
		return "", false
	}
	var all []byte
	for p.here() != '"' {
		c, ok := p.char()
		if !ok {
			return "", false
		}
		all = append(all, c)
	}
	p.at++
	return string(all), true
}

// char goes over one byte within quotes, and the sign that may stand ahead of it.
func (p *place) char() (byte, bool) {
	if p.here() == '\\' {
		p.at++
		if !special(p.here()) {
			return 0, false
		}
	}
	c := p.here()
	if !readable(c) {
		return 0, false
	}
	p.at++
	return c, true
}
