package draft_test

import (
	"math"
	"testing"

	"copydesk/api"
)

// P16.2: Take

func TestTakeOfOnesOwn(t *testing.T) {
	play(t, pages(), pair, 4, 5, `
		edit put 1 1 'x' = 1
		edit put 2 2 'y' = 2
		edit put 3 3 'z' = 3
		take 4 5.1 put 1 1 'x' = 1
		version = 5
		base = doc(p('xab') p('c'))
		doc = doc(p('xyzab') p('c'))
		pending = 5.2 put 2 2 'y' ; 5.3 put 3 3 'z'
		take 5 5.2 put 2 2 'y' ; 5.3 put 3 3 'z' = 2
		version = 7
		base = doc(p('xyzab') p('c'))
		pending =
		dropped =
		edit put 1 6 = 4
		take 7 5.4 put 1 6 = 1
		doc = doc(p p('c'))
	`)
	play(t, books(), "top(sec(par('ab')))", 0, 1, `
		edit mark 2 3 a[href=q,title=r] = 1
		edit put 1 1 (fig[alt=x,src=y] ) = 2
		edit attr 1 alt=z = 3
		edit wrap 0 1 7 8 1 (sec^note[by=q] ) = 4
		take 0 1.1 mark 2 3 a[href=q,title=r] ; 1.2 put 1 1 (fig[alt=x,src=y] ) ; 1.3 attr 1 alt=z ; 1.4 wrap 0 1 7 8 1 (sec^note[by=q] ) = 4
		base = top(sec^note[by=q](fig[alt=z,src=y] par('a'^a[href=q,title=r] 'b')))
	`)
}

func TestTakeOfOthers(t *testing.T) {
	play(t, pages(), pair, 0, 5, `
		take 0 9.1 put 1 1 'x' ; 8.7 put 2 2 'y' = 2
		version = 2
		base = doc(p('xyab') p('c'))
		doc = doc(p('xyab') p('c'))
		edit put 5 5 'q' = 1
		edit mark 5 6 em = 2
		take 2 9.2 put 1 3 ; 9.2 put 0 0 (h[level=1] ) ; 0.0 put 1 1 'h' = 3
		version = 5
		base = doc(h[level=1]('h') p('ab') p('c'))
		doc = doc(h[level=1]('h') p('ab' 'q'^em) p('c'))
		pending = 5.1 put 6 6 'q' ; 5.2 mark 6 7 em
		dropped =
		take 5 = 0
		version = 5
	`)
}

// Those that are dropped are told in the order in which that was, and the others keep their serial numbers.
func TestDropped(t *testing.T) {
	play(t, pages(), pair, 0, 5, `
		edit put 6 6 'd' = 1
		edit put 2 2 'x' = 2
		edit put 8 8 'e' = 3
		edit put 3 3 'y' = 4
		take 0 9.1 put 1 3 = 1
		dropped = 2 4
		pending = 5.1 put 4 4 'd' ; 5.3 put 5 5 'e'
		doc = doc(p p('cde'))
		edit put 1 1 'z' = 5
		take 1 9.2 put 2 4 = shape
		take 1 9.2 wrap 2 2 5 5 1 (li ) ; 5.1 put 4 4 'd' = 1 bad
		dropped = 2 4
		take 2 9.3 put 2 7 = 1
		dropped = 2 4 1 3
		pending = 5.5 put 1 1 'z'
		edit put 1 2 = 6
		take 3 5.5 put 1 1 'z' ; 9.4 put 1 2 = 2
		dropped = 2 4 1 3 6
		pending =
		base = doc(p)
	`)
}

// What comes is taken one by one, each putting one's own behind it: what is dropped by one stays so, whatever the next one does.
func TestTakeOneByOne(t *testing.T) {
	play(t, pages(), pair, 0, 5, `
		edit put 0 4 = 1
		take 0 9.1 put 4 7 ; 9.2 put 4 4 (p 'd' ) = 2
		dropped = 1
		doc = doc(p('ab') p('d'))
	`)
	play(t, pages(), pair, 0, 5, `
		edit put 1 1 'x' = 1
		edit put 4 4 'y' = 2
		edit put 5 5 'z' = 3
		take 0 9.1 put 1 1 'm' ; 5.1 put 2 2 'x' ; 8.1 put 1 1 'n' ; 5.2 put 6 6 'y' ; 9.2 put 1 4 = 5
		version = 5
		base = doc(p('aby') p('c'))
		doc = doc(p('abyz') p('c'))
		pending = 5.3 put 4 4 'z'
		dropped =
	`)
	// What is told as it was ahead of what came behind which it is now is not the same.
	play(t, pages(), pair, 0, 5, `
		edit put 3 3 'y' = 1
		take 0 9.1 put 1 1 'x' ; 5.1 put 3 3 'y' = 1 bad
		version = 1
		take 1 5.1 put 4 4 'y' = 1
		version = 2
	`)
}

func TestStale(t *testing.T) {
	play(t, pages(), pair, 7, 5, `
		edit put 1 1 'x' = 1
		take 6 = stale
		take 8 = stale
		take 0 = stale
		take -1 = stale
		take -7 = stale
		take 6 5.1 put 1 1 'x' = stale
		take 8 5.2 put 1 1 'x' ; 9.1 put 1 90 = stale
		version = 7
		take 7 5.1 put 1 1 'x' = 1
		take 7 = stale
		take 8 = 0
	`)
	b := newBoth(t, pages(), tree(pair), 0, 5)
	for _, version := range []int{math.MinInt, math.MaxInt, 1, -1, 1 << 32} {
		if n, e := b.take(version, logged("9.1 put 1 1 'x'")); n != 0 || e != stale {
			t.Errorf("%d: %d, error %d", version, n, e)
		}
	}
}

// One's own must be the first one that is not confirmed, with its serial number, and the same.
func TestOnesOwnThatIsNotAsTold(t *testing.T) {
	play(t, pages(), pair, 0, 5, `
		take 0 5.1 put 1 1 'x' = bad
		take 0 5.0 put 1 1 'x' = bad
		edit put 1 1 'x' = 1
		edit put 1 1 'x' = 2
		take 0 5.2 put 1 1 'x' = bad
		take 0 5.0 put 1 1 'x' = bad
		take 0 5.3 put 1 1 'x' = bad
		take 0 5.1 put 1 1 'y' = bad
		take 0 5.1 put 1 1 = bad
		take 0 5.1 put 1 1 'x'^em = bad
		take 0 5.1 put 1 1 'xx' = bad
		take 0 5.1 put 2 2 'x' = bad
		take 0 5.1 put 1 2 'x' = bad
		take 0 5.1 wrap 1 1 1 1 1 'x' = bad
		take 0 5.1 put 1 900 = bad
		version = 0
		pending = 5.1 put 1 1 'x' ; 5.2 put 1 1 'x'
		take 0 5.1 put 1 1 'x' ; 5.1 put 1 1 'x' = 1 bad
		version = 1
		take 1 9.1 put 1 1 'q' ; 9.2 put 1 1 'r' ; 5.1 put 1 1 'x' ; 5.2 put 3 3 'x' = 2 bad
		version = 3
		take 3 5.2 put 3 3 'x' ; 5.2 put 3 3 'x' = 1 bad
		version = 4
		pending =
		take 4 5.3 put 1 1 'x' = bad
		doc = doc(p('rqxxab') p('c'))
	`)
	// One that was dropped, or taken back, is none that is not confirmed.
	play(t, pages(), pair, 0, 5, `
		edit put 2 2 'x' = 1
		edit put 6 6 'y' = 2
		edit put 6 6 'z' = 3
		take 0 9.1 put 1 3 = 1
		back 1 = 1
		take 1 5.1 put 2 2 'x' = bad
		take 1 5.1 put 1 1 'x' = bad
		take 1 5.3 put 3 3 'z' = bad
		take 1 5.2 put 3 3 'y' ; 5.3 put 3 3 'z' = 1 bad
	`)
	b := newBoth(t, books(), tree("top(sec(par('a')))"), 0, 5)
	b.edit(change("mark 2 3 a[href=q,title=r]"))
	for _, s := range []string{"mark 2 3 a[href=q,title=x]", "mark 2 3 a[href=,title=r]", "mark 2 3 a[href=q]", "mark 2 3 b", "bare 2 3 a[href=q,title=r]", "mark 1 3 a[href=q,title=r]", "mark 2 4 a[href=q,title=r]"} {
		if n, e := b.take(0, []api.Logged{{Client: 5, Serial: 1, Step: change(s)}}); n != 0 || e != bad {
			t.Errorf("%s: %d, error %d", s, n, e)
		}
	}
	for i := range 8 {
		more := b.d.Pending(1)
		other := &more[0].Step
		for k, field := range []*int{&other.Kind, &other.From, &other.To, &other.Gap, &other.End, &other.Insert} {
			if i == k {
				*field++
			}
		}
		switch i {
		case 6:
			other.Name = "a"
		case 7:
			other.Value = "a"
		}
		if n, e := b.take(0, more); n != 0 || e != bad {
			t.Errorf("%s: %d, error %d", shownStep(*other), n, e)
		}
	}
	if n, e := b.take(0, b.d.Pending(1)); n != 1 || e != ok {
		t.Errorf("%d, error %d", n, e)
	}
}

// Another one's must be one that can be done to what is confirmed, whatever can be done to the document. Those ahead of it have come.
func TestOthersThatCanNotBeDone(t *testing.T) {
	play(t, pages(), pair, 0, 5, `
		edit put 7 7 (p 'd' ) = 1
		take 0 9.1 put 8 8 = place
		take 0 9.1 put 7 10 = place
		take 0 9.1 put 2 1 = arg
		take 0 9.1 attr 0 `+name17+`=x = long
		take 0 9.1 swap 1 2 'x' = place
		take 0 9.1 attr 0 level=2 = none
		take 0 9.1 put 0 7 = shape
		take 0 9.1 put 1 4 = shape
		version = 0
		doc = doc(p('ab') p('c') p('d'))
		pending = 5.1 put 7 7 (p 'd' )
		dropped =
		take 0 9.1 put 1 1 'x' ; 9.2 put 1 2 'y' ; 9.3 put 1 5 ; 9.4 put 1 1 'z' = 2 shape
		version = 2
		base = doc(p('yab') p('c'))
		take 2 9.3 put 1 1 'x' ; 5.1 put 9 9 (p 'd' ) ; 9.4 put 90 91 ; 9.5 put 1 1 'z' = 2 place
		version = 4
		base = doc(p('xyab') p('c') p('d'))
		doc = doc(p('xyab') p('c') p('d'))
		pending =
	`)
	b := newBoth(t, pages(), tree(pair), 0, 5)
	for _, step := range []api.Step{{}, {Kind: 7}, {Kind: -1}, {Kind: api.StepPut, Insert: 1}, {Kind: api.StepPut, From: math.MinInt, To: math.MaxInt}} {
		if n, e := b.take(0, []api.Logged{{Client: 9, Serial: 1, Step: step}}); n != 0 || e != arg {
			t.Errorf("Take of %s: %d, error %d", shownStep(step), n, e)
		}
	}
}

// Many come at once, over as many of one's own as there may be, and more than a trail may have.
func TestTakeOfMany(t *testing.T) {
	t.Parallel()
	b := newBoth(t, pages(), tree("doc(p('ab'))"), 0, 5)
	for range api.MaxOwn {
		b.edit(change("put 2 2 'y'"))
	}
	var l []api.Logged
	for i := range uint64(30) {
		l = append(l, api.Logged{Client: 9, Serial: i, Step: change("put 1 1 'x'")})
	}
	if n, e := b.take(0, l); n != 30 || e != ok || b.d.Pending(1)[0].Step.From != 32 {
		t.Errorf("%d came, error %d", n, e)
	}
	if n, e := b.take(30, b.d.Pending(64)); n != 64 || e != ok || b.d.Version() != 94 {
		t.Errorf("%d came, error %d", n, e)
	}
	for range 10 {
		l = append(l, l[:30]...)
	}
	if n, e := b.take(94, l); n != 330 || e != ok || b.d.Version() != 424 {
		t.Errorf("%d came, error %d", n, e)
	}
}

// P16.3

func TestBack(t *testing.T) {
	play(t, pages(), pair, 2, 5, `
		back 0 = 0
		back 1 = 0
		edit put 1 1 'x' = 1
		edit put 2 2 'y' = 2
		edit mark 1 3 em = 3
		edit put 1 2 = 4
		back 0 = 0
		back -1 = 0
		doc = doc(p('y'^em 'ab') p('c'))
		back 1 = 1
		doc = doc(p('xy'^em 'ab') p('c'))
		pending = 5.1 put 1 1 'x' ; 5.2 put 2 2 'y' ; 5.3 mark 1 3 em
		back 2 = 2
		doc = doc(p('xab') p('c'))
		base = doc(p('ab') p('c'))
		pending = 5.1 put 1 1 'x'
		version = 2
		back 9 = 1
		doc = doc(p('ab') p('c'))
		pending =
		dropped =
		back 1 = 0
		edit put 3 3 'z' = 5
		edit put 3 3 'u' = 6
		take 2 9.1 put 1 1 'q' = 1
		back 1 = 1
		doc = doc(p('qabz') p('c'))
		pending = 5.5 put 4 4 'z'
		take 3 5.5 put 4 4 'z' = 1
		back 1 = 0
		doc = doc(p('qabz') p('c'))
	`)
	for _, x := range []struct{ most, back int }{{math.MinInt, 0}, {-64, 0}, {-1, 0}, {0, 0}, {1, 1}, {2, 2}, {3, 3}, {4, 4}, {5, 4}, {64, 4}, {math.MaxInt, 4}} {
		b := newBoth(t, pages(), tree(pair), 0, 5)
		for range 4 {
			b.edit(change("put 3 3 'x'"))
		}
		if n := b.back(x.most); n != x.back || len(b.d.Pending(64)) != 4-x.back {
			t.Errorf("Back of %d: %d", x.most, n)
		}
		b.pendings()
	}
}

// What was put behind others' is taken back as it is now, and what was dropped does not come again.
func TestBackBehindOthers(t *testing.T) {
	play(t, pages(), pair, 0, 5, `
		edit put 2 2 'x' = 1
		edit put 6 6 'y' = 2
		edit put 7 7 'z' = 3
		take 0 9.1 put 1 3 = 1
		back 1 = 1
		doc = doc(p p('yc'))
		dropped = 1
		back 2 = 1
		doc = doc(p p('c'))
		dropped = 1
		pending =
	`)
}
