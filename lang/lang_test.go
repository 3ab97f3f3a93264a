package lang

import (
	"math"
	"reflect"
	"testing"

	"grainstore/agg"
	"grainstore/api"
)

// wrongIs holds Print, too: it says what Wrong does.
func wrongIs(t *testing.T, name string, e api.Expr, want api.Errno) {
	t.Helper()
	if got := Wrong(e); got != want {
		t.Errorf("%s: %v, not %v", name, got, want)
	}
	if s, err := Print(e); want != api.OK && (s != "" || err != want) {
		t.Errorf("%s is printed: %q %v, not %v", name, s, err, want)
	}
}

// E3: kinds, kids and numbers.
func TestWrong(t *testing.T) {
	one, bad := num(1), num(-1)
	for _, c := range []struct {
		name string
		e    api.Expr
		want api.Errno
	}{
		{"nothing", api.Expr{}, api.ErrKind},
		{"below the kinds", api.Expr{Kind: -1}, api.ErrKind},
		{"above the kinds", api.Expr{Kind: 5}, api.ErrKind},
		{"far below", api.Expr{Kind: math.MinInt}, api.ErrKind},
		{"far above", api.Expr{Kind: math.MaxInt}, api.ErrKind},
		{"no kind comes ahead of its kids", api.Expr{Kind: 5, Kids: []api.Expr{one, bad, bad}}, api.ErrKind},
		{"0", num(0), api.OK},
		{"the greatest number", num(api.MaxNum), api.OK},
		{"below 0", bad, api.ErrRange},
		{"too great", num(api.MaxNum + 1), api.ErrRange},
		{"far too small", num(math.MinInt), api.ErrRange},
		{"far too great", num(math.MaxInt), api.ErrRange},
		{"a number with what it has not", api.Expr{Kind: api.ENum, N: 1, Range: -1, Word: "?", Matches: make([]api.Match, 9), By: make([]string, 9)}, api.OK},
		{"a number with a kid", api.Expr{Kind: api.ENum, N: 1, Kids: []api.Expr{one}}, api.ErrMany},
		{"a kid comes ahead of the number", api.Expr{Kind: api.ENum, N: -1, Kids: []api.Expr{one}}, api.ErrMany},
		{"a window with a kid", api.Expr{Kind: api.EWindow, Word: "?", Kids: []api.Expr{one}}, api.ErrMany},
		{"an EAll without kids", api.Expr{Kind: api.EAll, Word: "?"}, api.ErrMany},
		{"an EAll with two", api.Expr{Kind: api.EAll, Word: "sum", Kids: []api.Expr{one, one}}, api.ErrMany},
		{"an EBin without kids", api.Expr{Kind: api.EBin, Word: "?"}, api.ErrMany},
		{"an EBin with one", api.Expr{Kind: api.EBin, Word: "+", Kids: []api.Expr{one}}, api.ErrMany},
		{"an EBin with three", api.Expr{Kind: api.EBin, Word: "+", Kids: []api.Expr{one, one, one}}, api.ErrMany},
		{"+", bin("+", one, one), api.OK},
		{"-", bin("-", one, one), api.OK},
		{"*", bin("*", one, one), api.OK},
		{"/", bin("/", one, one), api.ErrName},
		{"no sign", bin("", one, one), api.ErrName},
		{"a sign and a blank", bin("+ ", one, one), api.ErrName},
		{"two signs", bin("++", one, one), api.ErrName},
		{"a word", bin("sum", one, one), api.ErrName},
		{"no sign comes ahead of the kids", bin("/", bad, bad), api.ErrName},
		{"the left kid comes ahead", bin("+", bad, api.Expr{}), api.ErrRange},
		{"the left kid's kids too", bin("+", bin("+", one, bad), api.Expr{}), api.ErrRange},
		{"the right kid", bin("+", one, api.Expr{}), api.ErrKind},
		{"an EBin with what it has not", api.Expr{Kind: api.EBin, Word: "+", N: -1, Range: -1, Matches: make([]api.Match, 9), By: make([]string, 9), Kids: []api.Expr{one, one}}, api.OK},
	} {
		wrongIs(t, c.name, c.e, c.want)
	}
}

// E3.
func TestWrongWindow(t *testing.T) {
	for _, word := range agg.Words() {
		wrongIs(t, word, window(word, 1), api.OK)
	}
	six := make([]api.Match, 6)
	for _, c := range []struct {
		name string
		e    api.Expr
		want api.Errno
	}{
		{"no word", window("", 5), api.ErrName},
		{"another word", window("total", 5), api.ErrName},
		{"all", window("all", 5), api.ErrName},
		{"a great word", window("Sum", 5), api.ErrName},
		{"no word comes first", window("x", 0, six...), api.ErrName},
		{"as many matches as may be", window("sum", 5, has("a"), has("a"), lacks("a"), is("a", "b"), isNot("a", "b")), api.OK},
		{"one too many", window("sum", 5, has("a"), has("a"), lacks("a"), is("a", "b"), isNot("a", "b"), has("a")), api.ErrMany},
		{"too many come ahead of no kind", window("sum", 0, six...), api.ErrMany},
		{"no kind of match", window("sum", 5, api.Match{Key: "a", Val: "b"}), api.ErrKind},
		{"below the kinds", window("sum", 5, api.Match{Kind: -1, Key: "a", Val: "b"}), api.ErrKind},
		{"above the kinds", window("sum", 5, api.Match{Kind: 5, Key: "a", Val: "b"}), api.ErrKind},
		{"no kind comes ahead of no name", window("sum", 5, api.Match{Kind: 5}), api.ErrKind},
		{"no name comes ahead of the next one's kind", window("sum", 5, has(""), api.Match{Kind: 5}), api.ErrName},
		{"no kind comes ahead of the next one's name", window("sum", 5, has("a"), api.Match{Kind: 5}, has("")), api.ErrKind},
		{"matches come ahead of the range", window("sum", 0, has("A")), api.ErrName},
		{"Is, no key", window("sum", 5, is("", "b")), api.ErrName},
		{"Is, no value", window("sum", 5, is("a", "")), api.ErrName},
		{"IsNot, no key", window("sum", 5, isNot("1", "b")), api.ErrName},
		{"IsNot, no value", window("sum", 5, isNot("a", "_")), api.ErrName},
		{"Has, no key", window("sum", 5, has("a b")), api.ErrName},
		{"Lacks, no key", window("sum", 5, lacks("abcdefghijklm")), api.ErrName},
		{"the last one is wrong", window("sum", 5, has("a"), has("a"), has("a"), has("a"), is("a", "B")), api.ErrName},
		{"the longest names", window("sum", 5, is("abcdefghijkl", "a1_234567890")), api.OK},
		{"a value that is too long", window("sum", 5, is("a", "abcdefghijklm")), api.ErrName},
		{"Has has no value", window("sum", 5, api.Match{Kind: api.Has, Key: "a", Val: "?"}), api.OK},
		{"Lacks has no value", window("sum", 5, api.Match{Kind: api.Lacks, Key: "a", Val: "?"}), api.OK},
		{"range 1", window("sum", 1), api.OK},
		{"the greatest range", window("sum", api.MaxRange), api.OK},
		{"range 0", window("sum", 0), api.ErrRange},
		{"range below 0", window("sum", -1), api.ErrRange},
		{"range too great", window("sum", api.MaxRange+1), api.ErrRange},
		{"range far too great", window("sum", math.MaxInt), api.ErrRange},
		{"a window with what it has not", api.Expr{Kind: api.EWindow, Word: "sum", Range: 5, N: -1, By: make([]string, 9)}, api.OK},
	} {
		wrongIs(t, c.name, c.e, c.want)
	}
}

// E3.
func TestWrongAll(t *testing.T) {
	one, bad := num(1), num(-1)
	for _, word := range Totals() {
		wrongIs(t, word, all(word, one), api.OK)
	}
	for _, c := range []struct {
		name string
		e    api.Expr
		want api.Errno
	}{
		{"no word", all("", one), api.ErrName},
		{"one of Words alone", all("avg", one), api.ErrName},
		{"another word", all("x", one, "", "", "", "", ""), api.ErrName},
		{"as many keys as may be", all("sum", one, "a", "b", "c", "d"), api.OK},
		{"keys in any order, and twice", all("sum", one, "d", "a", "a"), api.OK},
		{"one too many", all("sum", one, "a", "b", "c", "d", "e"), api.ErrMany},
		{"too many come ahead of no name", all("sum", one, "", "", "", "", ""), api.ErrMany},
		{"the first key is no name", all("sum", one, "A", "b"), api.ErrName},
		{"the last key is no name", all("sum", one, "a", "b", "c", ""), api.ErrName},
		{"a key that is too long", all("sum", one, "abcdefghijklm"), api.ErrName},
		{"the longest key", all("sum", one, "abcdefghijkl"), api.OK},
		{"no name comes ahead of the kid", all("sum", bad, "A"), api.ErrName},
		{"the kid", all("sum", bad, "a"), api.ErrRange},
		{"an EAll with what it has not", api.Expr{Kind: api.EAll, Word: "sum", N: -1, Range: -1, Matches: make([]api.Match, 9), Kids: []api.Expr{one}}, api.OK},
	} {
		wrongIs(t, c.name, c.e, c.want)
	}
}

// chained has n expressions in one another, the innermost one of all being e.
func chained(n int, e api.Expr) api.Expr {
	for range n - 1 {
		e = all("sum", e)
	}
	return e
}

// full has n numbers, and n - 1 EBins around them, nested as little as may be.
func full(n int, leaf func(i int) api.Expr) api.Expr {
	if n == 1 {
		return leaf(0)
	}
	half := n / 2
	return bin("+", full(half, leaf), full(n-half, func(i int) api.Expr { return leaf(half + i) }))
}

// E3: too deep, too many, and what comes ahead of it.
func TestWrongMuch(t *testing.T) {
	bad := num(-1)
	wrongIs(t, "as deep as may be", chained(api.MaxDeep, num(1)), api.OK)
	wrongIs(t, "one deeper", chained(api.MaxDeep+1, num(1)), api.ErrMuch)
	wrongIs(t, "too deep comes ahead of no kind", chained(api.MaxDeep+1, api.Expr{}), api.ErrMuch)
	wrongIs(t, "a deep one is wrong", chained(api.MaxDeep, bad), api.ErrRange)
	wrongIs(t, "what is left comes ahead of what is too deep", bin("+", bad, chained(api.MaxDeep, num(1))), api.ErrRange)
	wrongIs(t, "too deep comes ahead of what is right", bin("+", chained(api.MaxDeep, num(1)), bad), api.ErrMuch)
	ones := func(int) api.Expr { return num(1) }
	most := api.MaxNodes / 2
	wrongIs(t, "one less than as many as may be", full(most, ones), api.OK)
	wrongIs(t, "as many as may be", all("sum", full(most, ones)), api.OK)
	wrongIs(t, "one more", full(most+1, ones), api.ErrMuch)
	wrongIs(t, "one more, otherwise", all("sum", all("sum", full(most, ones))), api.ErrMuch)
	last := func(n int, e api.Expr) func(int) api.Expr {
		return func(i int) api.Expr {
			if i == n {
				return e
			}
			return num(1)
		}
	}
	wrongIs(t, "the hundredth one is wrong", all("sum", full(most, last(most-1, bad))), api.ErrRange)
	wrongIs(t, "too many come ahead of no kind", full(most+1, last(most, api.Expr{})), api.ErrMuch)
	wrongIs(t, "what is wrong comes ahead of one too many", full(most+1, last(most-1, bad)), api.ErrRange)
	wrongIs(t, "no kids that should not be are gone through", api.Expr{Kind: api.ENum, Kids: make([]api.Expr, 1<<20)}, api.ErrMany)
}

// E4.
func TestPrint(t *testing.T) {
	one, two, three := num(1), num(2), num(3)
	sum, term := bin("-", one, two), bin("*", one, two)
	for _, c := range []struct {
		e    api.Expr
		want string
	}{
		{num(0), "0"},
		{num(api.MaxNum), "1000000"},
		{bin("+", one, two), "1 + 2"},
		{sum, "1 - 2"},
		{term, "1 * 2"},
		{bin("+", sum, three), "1 - 2 + 3"},
		{bin("-", sum, three), "1 - 2 - 3"},
		{bin("-", three, sum), "3 - (1 - 2)"},
		{bin("+", three, sum), "3 + (1 - 2)"},
		{bin("-", three, bin("+", one, two)), "3 - (1 + 2)"},
		{bin("*", sum, three), "(1 - 2) * 3"},
		{bin("*", three, sum), "3 * (1 - 2)"},
		{bin("*", bin("+", one, two), sum), "(1 + 2) * (1 - 2)"},
		{bin("+", term, three), "1 * 2 + 3"},
		{bin("-", three, term), "3 - 1 * 2"},
		{bin("*", term, three), "1 * 2 * 3"},
		{bin("*", three, term), "3 * (1 * 2)"},
		{bin("-", term, term), "1 * 2 - 1 * 2"},
		{bin("*", term, term), "1 * 2 * (1 * 2)"},
		{bin("-", sum, sum), "1 - 2 - (1 - 2)"},
		{bin("*", bin("*", sum, three), bin("+", term, three)), "(1 - 2) * 3 * (1 * 2 + 3)"},
		{bin("-", one, bin("-", two, bin("*", three, bin("*", one, two)))), "1 - (2 - 3 * (1 * 2))"},
		{window("sum", 60), "sum({}[60])"},
		{window("rise", 1, has("a")), "rise({a}[1])"},
		{window("sum", 60, is("a", "b"), isNot("c", "d"), has("e"), lacks("f")), "sum({a=b,c!=d,e,!f}[60])"},
		{window("sum", 100000, api.Match{Kind: api.Has, Key: "a", Val: "?"}, api.Match{Kind: api.Lacks, Key: "a", Val: "?"}), "sum({a,!a}[100000])"},
		{bin("*", window("avg", 5), window("min", 6)), "avg({}[5]) * min({}[6])"},
		{all("sum", one), "all sum (1)"},
		{all("sum", sum), "all sum (1 - 2)"},
		{all("max", term, "a"), "all max by a (1 * 2)"},
		{all("min", one, "b", "a"), "all min by b,a (1)"},
		{all("count", all("sum", one, "a", "b", "c", "d")), "all count (all sum by a,b,c,d (1))"},
		{bin("*", all("sum", sum), all("sum", one)), "all sum (1 - 2) * all sum (1)"},
		{bin("-", one, all("sum", sum, "a")), "1 - all sum by a (1 - 2)"},
		{bin("*", all("sum", window("rise", 60, is("job", "web"), lacks("test")), "host"), two), "all sum by host (rise({job=web,!test}[60])) * 2"},
		{api.Expr{Kind: api.ENum, N: 1, Range: -1, Word: "?", Matches: make([]api.Match, 9), By: []string{"a"}, Kids: []api.Expr{}}, "1"},
		{api.Expr{Kind: api.EAll, Word: "sum", N: 7, Range: 7, Matches: []api.Match{has("a")}, By: []string{}, Kids: []api.Expr{one}}, "all sum (1)"},
	} {
		if got, err := Print(c.e); got != c.want || err != api.OK {
			t.Errorf("%q %v, not %q", got, err, c.want)
		}
	}
}

// E4: what is too long to be read again is not printed.
func TestPrintLong(t *testing.T) {
	long := is("abcdefghijkl", "abcdefghijkl")
	hundred := window("max", 1, long, long, long, has("abcdefghijkl"))
	for _, c := range []struct {
		key  string
		size int
	}{{"abcdef", 1999}, {"abcdefg", 2000}, {"abcdefgh", 2001}} {
		// Nineteen windows of a hundred bytes, with three between, and a smaller one.
		e := hundred
		for range 18 {
			e = bin("+", e, hundred)
		}
		e = bin("-", e, window("max", 1, long, has(c.key)))
		s, err := Print(e)
		if c.size <= api.MaxText {
			if len(s) != c.size || err != api.OK {
				t.Errorf("%d bytes: %d bytes, %v", c.size, len(s), err)
			}
			reads(t, s, e)
		} else if s != "" || err != api.ErrMuch {
			t.Errorf("%d bytes: %d bytes, %v", c.size, len(s), err)
		}
		if Wrong(e) != api.OK {
			t.Errorf("%d bytes: %v", c.size, Wrong(e))
		}
	}
}

// E4.
func TestVectorAndTyped(t *testing.T) {
	one, w := num(1), window("sum", 5)
	nothing := api.Expr{}
	for _, c := range []struct {
		name   string
		e      api.Expr
		vector bool
		typed  api.Errno
	}{
		{"nothing", nothing, false, api.OK},
		{"a number", one, false, api.OK},
		{"a window", w, true, api.OK},
		{"a window that is wrong", api.Expr{Kind: api.EWindow}, true, api.OK},
		{"numbers", bin("+", one, bin("*", one, one)), false, api.OK},
		{"a window at the left", bin("+", bin("-", w, one), one), true, api.OK},
		{"a window at the right", bin("+", one, bin("*", one, w)), true, api.OK},
		{"all of a window", all("sum", w), true, api.OK},
		{"all of a number", all("sum", one), true, api.ErrFit},
		{"all of numbers", all("sum", bin("+", one, one), "a"), true, api.ErrFit},
		{"all of a number and a window", all("sum", bin("+", one, w)), true, api.OK},
		{"all of all of a window", all("sum", all("max", w)), true, api.OK},
		{"all of all of a number", all("sum", all("max", one)), true, api.ErrFit},
		{"all of a number at the left", bin("+", all("sum", one), w), true, api.ErrFit},
		{"all of a number at the right", bin("+", w, all("sum", one)), true, api.ErrFit},
		{"all of a number far within", all("sum", bin("+", w, bin("-", one, all("sum", one)))), true, api.ErrFit},
		{"all of a number beside all of a window", bin("+", all("sum", w), all("sum", one)), true, api.ErrFit},
		{"all of nothing", api.Expr{Kind: api.EAll, Word: "sum"}, true, api.OK},
		{"all of what is nothing", all("sum", nothing), true, api.ErrFit},
		{"all of two numbers", api.Expr{Kind: api.EAll, Kids: []api.Expr{one, one}}, true, api.OK},
		{"all of two, one of them all of a number", api.Expr{Kind: api.EAll, Kids: []api.Expr{w, all("sum", one)}}, true, api.ErrFit},
		{"a wrong word", all("?", one), true, api.ErrFit},
		{"a window that is wrong within", all("sum", api.Expr{Kind: api.EWindow}), true, api.OK},
		{"all of all of nothing", all("sum", api.Expr{Kind: api.EAll}), true, api.OK},
		{"an EBin of one kid", api.Expr{Kind: api.EBin, Kids: []api.Expr{w}}, true, api.OK},
		{"an EBin of three kids", api.Expr{Kind: api.EBin, Kids: []api.Expr{one, one, all("sum", one)}}, true, api.ErrFit},
		{"a window in a number", api.Expr{Kind: api.ENum, Kids: []api.Expr{w}}, true, api.OK},
		{"all of a number in what is no kind", api.Expr{Kind: 9, Kids: []api.Expr{all("sum", one)}}, true, api.ErrFit},
	} {
		if got := Vector(c.e); got != c.vector {
			t.Errorf("%s: Vector %v, not %v", c.name, got, c.vector)
		}
		if got := Typed(c.e); got != c.typed {
			t.Errorf("%s: Typed %v, not %v", c.name, got, c.typed)
		}
	}
}

// Z1: as many parts nested in one another as a program may be given.
func TestDeepest(t *testing.T) {
	for _, c := range []struct {
		inner api.Expr
		typed api.Errno
	}{{num(1), api.ErrFit}, {window("sum", 5), api.OK}} {
		e := chained(1<<16, c.inner)
		if s, err := Print(e); Wrong(e) != api.ErrMuch || s != "" || err != api.ErrMuch || !Vector(e) || Typed(e) != c.typed {
			t.Errorf("EAlls: %v, %q %v, %v %v", Wrong(e), s, err, Vector(e), Typed(e))
		}
		e = c.inner
		for range 1<<16 - 1 {
			e = bin("+", num(1), e)
		}
		if Wrong(e) != api.ErrMuch || Vector(e) != (c.typed == api.OK) || Typed(e) != api.OK || Typed(all("sum", e)) != c.typed {
			t.Errorf("EBins: %v, %v %v %v", Wrong(e), Vector(e), Typed(e), Typed(all("sum", e)))
		}
	}
}

// Z2: what is handed in is only read, neither it nor the spare room behind it changed.
func TestOnlyRead(t *testing.T) {
	build := func() api.Expr {
		matches := append(make([]api.Match, 0, 4), is("a", "b"), has("c"))
		by := append(make([]string, 0, 4), "b", "a")
		kids := append(make([]api.Expr, 0, 4), api.Expr{Kind: api.EWindow, Word: "sum", Range: 5, Matches: matches}, num(1))
		return api.Expr{Kind: api.EAll, Word: "sum", By: by, Kids: append(make([]api.Expr, 0, 3), api.Expr{Kind: api.EBin, Word: "*", Kids: kids})}
	}
	whole := func(e api.Expr) []any {
		kid := e.Kids[0]
		w := kid.Kids[0]
		return []any{e, e.By[:4], e.Kids[:3], kid.Kids[:4], w.Matches[:4]}
	}
	e := build()
	if s, err := Print(e); s != "all sum by b,a (sum({a=b,c}[5]) * 1)" || err != api.OK {
		t.Errorf("%q %v", s, err)
	}
	if Wrong(e) != api.OK || !Vector(e) || Typed(e) != api.OK {
		t.Error("it is wrong")
	}
	if !reflect.DeepEqual(whole(e), whole(build())) {
		t.Error("what was handed in is changed")
	}
}

// Z2: an answer is the caller's, and shares no list with another one.
func TestNewMemory(t *testing.T) {
	const s = "all sum by a,b (sum({a=b,c}[5]) * max({a=b,c}[5]))"
	first, _ := Parse(s)
	want, _ := Parse(s)
	spoil(first)
	if second, _ := Parse(s); !reflect.DeepEqual(second, want) {
		t.Error("one answer changes the next one")
	}
	first, _ = Parse(s)
	spoil(first.Kids[0].Kids[0])
	if got := first.Kids[0].Kids[1]; !same(got, want.Kids[0].Kids[1]) {
		t.Errorf("one window changes the other one: %+v", got)
	}
}

// spoil changes all lists of an expression, with their spare room.
func spoil(e api.Expr) {
	for _, kid := range e.Kids {
		spoil(kid)
	}
	clear(e.Kids[:cap(e.Kids)])
	clear(e.By[:cap(e.By)])
	clear(e.Matches[:cap(e.Matches)])
}
