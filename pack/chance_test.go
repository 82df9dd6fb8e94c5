package pack_test

import (
	"math"
	"math/rand"
	"reflect"
	"strings"
	"testing"

	"copydesk/api"
)

// P15.3

// chance makes things as r tells.
type chance struct {
	*rand.Rand
	deep  int
	wrong int // one field in so many is anything; 0: none
}

// fill sets all fields of v that are told, all fields anyhow where it is to be wrong.
func (r *chance) fill(v reflect.Value) {
	odd := r.wrong > 0 && r.Intn(r.wrong) == 0
	switch v.Kind() {
	case reflect.Int:
		v.SetInt(int64(r.number(odd)))
	case reflect.Uint8:
		v.SetUint(uint64(r.Intn(256)))
	case reflect.Bool:
		v.SetBool(r.Intn(2) == 0)
	case reflect.String:
		v.SetString(r.text())
		if odd && r.Intn(100) == 0 {
			v.SetString(text21)
		}
	case reflect.Slice:
		n := r.Intn(3)
		if r.deep > 4 && r.Intn(3) > 0 {
			n = 0
		}
		v.Set(reflect.MakeSlice(v.Type(), n, n))
		for i := range n {
			r.fill(v.Index(i))
		}
	case reflect.Struct:
		r.fields(v, odd)
	}
}

func (r *chance) fields(v reflect.Value, odd bool) {
	if v.Type().Name() == "Node" {
		r.deep++
		defer func() { r.deep-- }()
	}
	if r.deep > 16 && r.wrong == 0 {
		v.SetZero()
		return
	}
	if kind := v.FieldByName("Kind"); kind.IsValid() {
		for kind.SetInt(int64(1 + r.Intn(6))); len(fields(v)) == 0; {
			kind.SetInt(int64(1 + r.Intn(4)))
		}
	}
	for _, name := range fields(v) {
		if name != "Kind" {
			r.fill(v.FieldByName(name))
		}
	}
	if odd {
		r.fill(v.Field(r.Intn(v.NumField())))
	}
}

func (r *chance) number(odd bool) int {
	if odd {
		return []int{-1, 0, 5, 7, 1<<20 + 1, math.MinInt, math.MaxInt}[r.Intn(7)]
	}
	return r.Intn(1 << r.Intn(21))
}

func (r *chance) text() string {
	b := make([]byte, r.Intn(4))
	if r.Intn(50) == 0 {
		b = make([]byte, r.Intn(400))
	}
	r.Read(b)
	return string(b)
}

// some is a thing of the sort of x.
func (r *chance) some(x any) any {
	v := reflect.New(reflect.TypeOf(x)).Elem()
	r.fill(v)
	return v.Interface()
}

func TestThingsByChance(t *testing.T) {
	t.Parallel()
	r := &chance{Rand: rand.New(rand.NewSource(15))}
	greatest := 0
	for range 8000 {
		for _, x := range things() {
			x = r.some(x)
			b, e := asPut(t, x)
			if e != ok {
				t.Fatalf("%s: error %d", shown(x), e)
			}
			greatest = max(greatest, len(b))
		}
	}
	if greatest < 400 {
		t.Errorf("the longest one had %d bytes", greatest)
	}
}

func TestWrongThingsByChance(t *testing.T) {
	t.Parallel()
	r := &chance{Rand: rand.New(rand.NewSource(16)), wrong: 12}
	var seen [6]int
	for range 20000 {
		for _, x := range []any{api.Step{}, []api.Step(nil), api.Node{}} {
			_, e := asPut(t, r.some(x))
			seen[e]++
		}
	}
	if seen[ok] < 3000 || seen[arg] < 3000 || seen[long] < 1000 {
		t.Errorf("errors: %v", seen)
	}
}

// Bytes with one, or a few, gone, doubled, or others.
func TestBytesByChance(t *testing.T) {
	t.Parallel()
	r := &chance{Rand: rand.New(rand.NewSource(17))}
	var seen [6]int
	for range 20000 {
		for _, x := range things() {
			b, _ := put(nil, r.some(x))
			for range 1 + r.Intn(2) {
				i := r.Intn(len(b) + 1)
				j := min(len(b), i+r.Intn(3))
				switch r.Intn(5) {
				case 0:
					b = join(b[:i], b[j:])
				case 1:
					b = join(b[:j], b[i:])
				case 2:
					p := pieces()
					b = join(b[:i], p[r.Intn(len(p))], b[j:])
				case 3:
					b = b[:i]
				case 4:
					if i < len(b) {
						b[i] = byte(r.Intn(8))
					}
				}
			}
			_, e := asRead(t, x, b)
			seen[e]++
		}
	}
	if seen[ok] < 5000 || seen[long] < 1000 || seen[bad] < 10000 || seen[more] < 10000 {
		t.Errorf("errors: %v", seen)
	}
}

// No two things have the same bytes, and none has bytes that others begin with.
func TestNoBytesTellTwoThings(t *testing.T) {
	r := &chance{Rand: rand.New(rand.NewSource(18))}
	for _, sort := range things() {
		seen := map[string]any{}
		for range 3000 {
			x := r.some(sort)
			b, _ := put(nil, x)
			if y, is := seen[string(b)]; is && !alike(reflect.ValueOf(x), reflect.ValueOf(y)) {
				t.Fatalf("%s tell %s and %s", shownBytes(b), shown(x), shown(y))
			}
			seen[string(b)] = x
			for i := range b {
				if y, is := seen[string(b[:i])]; is {
					t.Fatalf("%s of %s begin with those of %s", shownBytes(b), shown(x), shown(y))
				}
			}
		}
	}
}

// The greatest row there may be is put, and read again, as are many steps.
func TestGreatThings(t *testing.T) {
	r := &chance{Rand: rand.New(rand.NewSource(19))}
	mid := make([]api.Token, 1<<16)
	for i := range mid {
		mid[i] = char(byte(r.Intn(256)), mark("em"))
	}
	kids := make([]api.Node, 1<<16)
	for i := range kids {
		kids[i] = api.Node{Type: "text", Text: r.text(), Marks: []api.Mark{mark("em")}}
	}
	for _, x := range []any{api.Step{Kind: 1, From: most, To: most, Mid: mid}, []api.Step{{Kind: 6, Mid: mid}, {Kind: 2, Mid: mid}}, tower(of("p", kids...), 14)} {
		if _, e := asPut(t, x); e != ok {
			t.Errorf("error %d", e)
		}
	}
	if _, e := asPut(t, tower(of("p", kids...), 15)); e != long {
		t.Errorf("17 deep: error %d", e)
	}
}

func FuzzRead(f *testing.F) {
	for _, x := range puttings() {
		f.Add(x.want)
	}
	for _, x := range full() {
		b, _ := put(nil, x.x)
		f.Add(b)
	}
	for _, p := range pieces() {
		f.Add(p)
	}
	for _, s := range []string{"\x07\x00", "\x01\x01\x03\x01\x02\x00", "\x01\x01", strings.Repeat("\x00\x00\x00\x00\x01", 17), "\x01\x00\x00\x01\x04\x80\x02\x00", "\x01\x00\x00\x00\x02\x00\x00\x00\x00"} {
		f.Add([]byte(s))
	}
	f.Fuzz(func(t *testing.T, b []byte) {
		for _, x := range things() {
			got, e := asRead(t, x, b)
			if e != ok {
				continue
			}
			if _, e := asPut(t, got); e != ok {
				t.Fatalf("%T of %s: %s, put again error %d", x, shownBytes(b), shown(got), e)
			}
		}
	})
}
