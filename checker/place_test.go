package checker

import (
	"math/big"
	"math/rand/v2"
	"reflect"
	"slices"
	"strconv"
	"strings"
	"testing"

	"stele/api"
	"stele/parser"
)

// P21.2: scalars and arrays

func TestScalars(t *testing.T) {
	for src, want := range map[string]string{
		"":                                 "",
		"func main() { }":                  "",
		"var a; func main() { }":           "a",
		"var b, a, b; array t[3];":         "b a b",
		"func main() { var z, a; }":        "main.z main.a",
		"func f(b, a) { } func main() { }": "f.b f.a",
		"func f(b, a) { var c; var d; } var x; func g(e) { } var y, a;": "x y a f.b f.a f.c f.d g.e",
		"func f(a, a) { } func f(a) { var f; }":                         "f.a f.a f.a f.f",
	} {
		if got := Scalars(mustParse(t, src)); !slices.Equal(got, strings.Fields(want)) {
			t.Errorf("%q: %q", src, got)
		}
	}
	p := api.Program{Vars: []string{"", "\xff"}, Funcs: []api.Func{{Name: "", Params: []string{"", "."}}, {Name: "f.g", Locals: []string{"h.i"}}}}
	if got := Scalars(p); !slices.Equal(got, []string{"", "\xff", ".", "..", "f.g.h.i"}) {
		t.Errorf("%q", got)
	}
	if got := Scalars(api.Program{}); len(got) != 0 {
		t.Errorf("%q", got)
	}
}

func expectArrays(t *testing.T, at int, arrays []api.Array, want []api.Symbol, e api.Errno) {
	t.Helper()
	for _, o := range []api.Origins{{Arrays: at}, {Code: -5, Scalars: 1 << 40, Arrays: at}} {
		got, err := Arrays(api.Program{Arrays: arrays, Vars: []string{"x"}}, o)
		if !slices.Equal(got, want) || err != e {
			t.Errorf("%v at %d: %v %d", arrays, at, got, err)
		}
	}
}

func TestArrays(t *testing.T) {
	const huge, words = 1<<63 - 1, memoryWords
	a := func(sizes ...int) []api.Array {
		var list []api.Array
		for i, n := range sizes {
			list = append(list, api.Array{Name: string(rune('a' + i)), Size: n})
		}
		return list
	}
	for _, at := range []int{0, 1, 100, words - 1, words, words + 1, -1, huge, -huge - 1} {
		expectArrays(t, at, nil, nil, api.OK)
		expectArrays(t, at, []api.Array{}, nil, api.OK)
		for _, size := range []int{1, 2, words - 1, words, words + 1, huge, huge - 1, 0, -1, -huge, -huge - 1} {
			// In arbitrary numbers nothing overflows.
			end := new(big.Int).Add(big.NewInt(int64(at)), big.NewInt(int64(size)))
			if at >= 0 && size > 0 && end.Cmp(big.NewInt(words)) <= 0 {
				expectArrays(t, at, a(size), []api.Symbol{{Name: "a", At: at}}, api.OK)
			} else {
				expectArrays(t, at, a(size), nil, api.ErrRange)
				expectArrays(t, at, a(size, 1), nil, api.ErrRange)
			}
		}
	}
	expectArrays(t, 10, a(3, 5, 1), []api.Symbol{{Name: "a", At: 10}, {Name: "b", At: 13}, {Name: "c", At: 18}}, api.OK)
	expectArrays(t, words-9, a(3, 5, 1), []api.Symbol{{Name: "a", At: words - 9}, {Name: "b", At: words - 6}, {Name: "c", At: words - 1}}, api.OK)
	expectArrays(t, words-8, a(3, 5, 1), nil, api.ErrRange)
	expectArrays(t, words-9, a(3, 5, 1, 1), nil, api.ErrRange)
	expectArrays(t, 0, a(words, 1), nil, api.ErrRange)
	expectArrays(t, 0, a(words-1, 1), []api.Symbol{{Name: "a", At: 0}, {Name: "b", At: words - 1}}, api.OK)
	expectArrays(t, 0, a(5, 0, 5), nil, api.ErrRange)
	expectArrays(t, 0, a(5, -1, 5), nil, api.ErrRange)
	expectArrays(t, 0, a(5, huge, 5), nil, api.ErrRange)
	expectArrays(t, 0, a(5, -huge-1, 5), nil, api.ErrRange)
	// More than an array may have in a valid program, and the same name twice: no rule is checked here.
	expectArrays(t, 0, []api.Array{{Name: "?", Size: 200000}, {Name: "?", Size: 1}}, []api.Symbol{{Name: "?", At: 0}, {Name: "?", At: 200000}}, api.OK)
}

func TestRandomArrays(t *testing.T) {
	r := rand.New(rand.NewPCG(21, 4))
	for range 5000 {
		p := api.Program{}
		o := api.Origins{Arrays: r.IntN(300000) - 1000}
		end := o.Arrays
		bad := false
		var want []api.Symbol
		for i := range r.IntN(8) {
			size := 1 + r.IntN(1<<r.IntN(18))
			if r.IntN(40) == 0 {
				size = -r.IntN(5)
			}
			p.Arrays = append(p.Arrays, api.Array{Name: strconv.Itoa(i), Size: size})
			want = append(want, api.Symbol{Name: strconv.Itoa(i), At: end})
			end += size
			bad = bad || size < 1 || end > memoryWords || o.Arrays < 0
		}
		e := api.OK
		if bad {
			want, e = nil, api.ErrRange
		}
		if got, err := Arrays(p, o); !slices.Equal(got, want) || err != e {
			t.Fatalf("%v %v: %v %d", p.Arrays, o, got, err)
		}
	}
}

// P21.3: what keeps a program valid

func TestRemovingTheLastStatement(t *testing.T) {
	r := rand.New(rand.NewPCG(21, 5))
	for range 3000 {
		p := newAuthor(r).program()
		if _, e := Check(p); e != api.OK {
			continue
		}
		for i, f := range p.Funcs {
			q := copyProgram(p)
			for n := len(f.Body) - 1; n >= 0; n-- {
				q.Funcs[i].Body = f.Body[:n]
				expect(t, q, "", api.OK)
			}
		}
	}
}

func TestAddingAVariable(t *testing.T) {
	r := rand.New(rand.NewPCG(21, 6))
	for range 3000 {
		p := newAuthor(r).program()
		if _, e := Check(p); e != api.OK {
			continue
		}
		for _, name := range []string{"new", "q", "abcdefghijklmnopqrstuvwy"} {
			q := copyProgram(p)
			for _, list := range placesOf(&q).lists {
				if len(q.Funcs) > 0 && list == &q.Funcs[len(q.Funcs)-1].Params {
					continue // main has no parameters
				}
				if isParams(q, list) {
					continue // another parameter would need another argument
				}
				before := *list
				*list = slices.Insert(slices.Clone(before), r.IntN(len(before)+1), name)
				expect(t, q, "", api.OK)
				*list = before
			}
		}
	}
}

func isParams(p api.Program, list *[]string) bool {
	for i := range p.Funcs {
		if list == &p.Funcs[i].Params {
			return true
		}
	}
	return false
}

func TestScalarsOfValidProgramsAreDistinct(t *testing.T) {
	r := rand.New(rand.NewPCG(21, 7))
	for range 5000 {
		p := newAuthor(r).program()
		change(r, &p)
		if _, e := Check(p); e != api.OK {
			continue
		}
		list := Scalars(p)
		slices.Sort(list)
		if len(slices.Compact(list)) != len(Scalars(p)) {
			t.Fatalf("%.900q: %q", parser.Format(p), list)
		}
	}
}

// Rules R1 and R3

func TestArgumentsAreNotChanged(t *testing.T) {
	r := rand.New(rand.NewPCG(21, 8))
	for range 2000 {
		p := newAuthor(r).program()
		for range r.IntN(3) {
			change(r, &p)
		}
		before := copyProgram(p)
		Check(p)
		symbols, _ := Arrays(p, api.Origins{Arrays: 5})
		scalars := Scalars(p)
		for i := range symbols {
			symbols[i].Name = "changed"
		}
		for i := range scalars {
			scalars[i] = "changed"
		}
		if !reflect.DeepEqual(p, before) {
			t.Fatalf("%#v has changed", before)
		}
	}
}

// TestNilAndEmptySlices: they are equivalent.
func TestNilAndEmptySlices(t *testing.T) {
	s := api.Stmt{Kind: api.IfStmt, Index: []api.Expr{}, Value: []api.Expr{{Op: "num", Args: []api.Expr{}}}, Then: []api.Stmt{}, Else: []api.Stmt{}}
	p := api.Program{Vars: []string{}, Arrays: []api.Array{}, Funcs: []api.Func{{Name: "main", Params: []string{}, Locals: []string{}, Body: []api.Stmt{s}}}}
	expect(t, p, "", api.OK)
	if l := Scalars(p); len(l) != 0 {
		t.Error(l)
	}
	if l, e := Arrays(p, api.Origins{}); len(l) != 0 || e != api.OK {
		t.Error(l, e)
	}
}

// TestManyChanges calls the functions with programs that are damaged beyond recognition.
func TestManyChanges(t *testing.T) {
	r := rand.New(rand.NewPCG(21, 9))
	for range 3000 {
		p := newAuthor(r).program()
		for range 30 {
			change(r, &p)
		}
		name, e := otherCheck(p)
		expect(t, p, name, e)
		Scalars(p)
		Arrays(p, api.Origins{Arrays: int(r.Uint64())})
	}
}

func TestDeepPrograms(t *testing.T) {
	const depth = 1 << 16
	expect(t, inMain(returning(worth(depth))), "main", api.ErrLimit)
	x := num(1)
	for range depth {
		x = operation("not", x)
	}
	expect(t, inMain(returning(x)), "", api.OK)
	s := api.Stmt{Kind: api.HaltStmt}
	for range depth {
		s = api.Stmt{Kind: api.WhileStmt, Value: []api.Expr{num(1)}, Then: []api.Stmt{s}}
	}
	if name, e := Check(inMain(s)); name != "" || e != api.OK {
		t.Error(name, e)
	}
}
