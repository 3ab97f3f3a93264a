package mean

import (
	"math"
	"slices"
	"strings"
	"testing"

	"grainstore/agg"
	"grainstore/api"
	"grainstore/lang"
)

// series reads labels as `host=a job=web`.
func series(s string) api.Series {
	var out api.Series
	for _, x := range strings.Fields(s) {
		key, val, _ := strings.Cut(x, "=")
		out = append(out, api.Label{Key: key, Val: val})
	}
	return out
}

// line has samples by turns of a time and a value.
func line(s string, l ...int) api.Line {
	x := api.Line{Series: series(s)}
	for i := 0; i+1 < len(l); i += 2 {
		x.Samples = append(x.Samples, api.Sample{Time: l[i], Value: l[i+1]})
	}
	return x
}

func cell(s string, v int) api.Cell { return api.Cell{Series: series(s), Value: v} }

// many has n samples, at times from 0 on, all with one value.
func many(n, v int) []int {
	var l []int
	for i := range n {
		l = append(l, i, v)
	}
	return l
}

// read parses a text that the tests have right.
func read(t *testing.T, text string) api.Expr {
	t.Helper()
	e, f := lang.Parse(text)
	if f.Err != api.OK {
		t.Fatalf("%s: %v", text, f)
	}
	return e
}

// same tells whether cells are the same, nil and empty being so (Z3).
func same(a, b []api.Cell) bool {
	return slices.EqualFunc(a, b, func(x, y api.Cell) bool { return x.Value == y.Value && slices.Equal(x.Series, y.Series) })
}

func askIs(t *testing.T, l []api.Line, text string, time int, want ...api.Cell) {
	t.Helper()
	got, err := Ask(l, read(t, text), time)
	if err != api.OK || !same(got, want) {
		t.Errorf("%s at %d: %v %v, not %v", text, time, got, err, want)
	}
}

// askFails holds Z4, too: beside an error there are no cells.
func askFails(t *testing.T, l []api.Line, text string, time int, want api.Errno) {
	t.Helper()
	got, err := Ask(l, read(t, text), time)
	if err != want || len(got) != 0 {
		t.Errorf("%s at %d: %v %v, not %v", text, time, got, err, want)
	}
}

// F1: what is wrong with lines, where, and which error is told first.
func TestWrong(t *testing.T) {
	right := []api.Line{line(""), line("a=a"), line("a=b"), line("a=b c=a"), line("a=c"), line("b=a"), line("c=a"), line("d=a")}
	late := line("z=z", 5, 5, 5, 6)
	nameless := line("z=")
	big := line("z=z", 0, api.MaxValue+1)
	for _, c := range []struct {
		name string
		l    []api.Line
		want api.Fault
	}{
		{"none", nil, api.Fault{}},
		{"empty", []api.Line{}, api.Fault{}},
		{"one without labels", []api.Line{{}}, api.Fault{}},
		{"one with samples", []api.Line{line("a=b", 0, api.MaxValue, api.MaxTime, -api.MaxValue)}, api.Fault{}},
		{"as many as may be", right, api.Fault{}},
		{"as many samples as may be", []api.Line{line("a=b", many(api.MaxSamples, 1)...)}, api.Fault{}},
		{"one too many", append(slices.Clone(right), line("e=a")), api.Fault{Err: api.ErrMany}},
		{"too many come ahead of all else", append([]api.Line{nameless, late}, right...), api.Fault{Err: api.ErrMany}},
		{"no name", []api.Line{nameless}, api.Fault{Err: api.ErrName}},
		{"no name further on", []api.Line{line("a=a"), line("a=b"), nameless}, api.Fault{Err: api.ErrName, At: 2}},
		{"too many labels", []api.Line{line("a=a"), line("a=b b=b c=c d=d e=e")}, api.Fault{Err: api.ErrMany, At: 1}},
		{"keys that fall", []api.Line{line("b=a a=b")}, api.Fault{Err: api.ErrForm}},
		{"keys that fall further on", []api.Line{line("a=a"), line("b=a a=b")}, api.Fault{Err: api.ErrForm, At: 1}},
		{"samples that stand", []api.Line{late}, api.Fault{Err: api.ErrForm}},
		{"samples that stand, told by the line", []api.Line{line("a=a", 1, 1, 2, 2), late}, api.Fault{Err: api.ErrForm, At: 1}},
		{"a value that is too great", []api.Line{line("a=a"), line("a=b"), big}, api.Fault{Err: api.ErrRange, At: 2}},
		{"a value that is too small", []api.Line{line("a=a", 3, -api.MaxValue-1)}, api.Fault{Err: api.ErrRange}},
		{"a time below 0", []api.Line{line("a=a", -1, 1)}, api.Fault{Err: api.ErrRange}},
		{"a time too late", []api.Line{line("a=a", api.MaxTime+1, 1)}, api.Fault{Err: api.ErrRange}},
		{"too many samples", []api.Line{line("a=a"), line("b=a", many(api.MaxSamples+1, 1)...)}, api.Fault{Err: api.ErrMany, At: 1}},
		{"series that fall", []api.Line{line("host=b"), line("host=a")}, api.Fault{Err: api.ErrForm, At: 1}},
		{"a series twice", []api.Line{line("a=a"), line("a=b"), line("a=b")}, api.Fault{Err: api.ErrForm, At: 2}},
		{"no labels twice", []api.Line{{}, {Series: api.Series{}}}, api.Fault{Err: api.ErrForm, At: 1}},
		{"one that ends first, behind", []api.Line{line("a=b c=d"), line("a=b")}, api.Fault{Err: api.ErrForm, At: 1}},
		{"no labels, behind", []api.Line{line("a=a"), line("")}, api.Fault{Err: api.ErrForm, At: 1}},
		{"no name comes ahead of samples", []api.Line{{Series: series("z="), Samples: big.Samples}}, api.Fault{Err: api.ErrName}},
		{"samples come ahead of falling", []api.Line{line("zz=z"), big}, api.Fault{Err: api.ErrRange, At: 1}},
		{"no name comes ahead of falling", []api.Line{line("zz=z"), nameless}, api.Fault{Err: api.ErrName, At: 1}},
		{"a line comes ahead of the next one", []api.Line{line("b=a"), line("a=a"), nameless}, api.Fault{Err: api.ErrForm, At: 1}},
		{"its samples too", []api.Line{big, nameless}, api.Fault{Err: api.ErrRange}},
	} {
		if got := Wrong(c.l); got != c.want {
			t.Errorf("%s: %v, not %v", c.name, got, c.want)
		}
		if got, err := Ask(c.l, api.Expr{Kind: api.ENum}, 0); err != c.want.Err || err != api.OK && len(got) != 0 {
			t.Errorf("%s is asked: %v %v, not %v", c.name, got, err, c.want.Err)
		}
	}
}

// F1: each error of Check ahead of those behind it; and Ask tells it, too.
func TestCheck(t *testing.T) {
	num := api.Expr{Kind: api.ENum, N: 1}
	all := api.Expr{Kind: api.EAll, Word: "sum", Kids: []api.Expr{num}}
	window := api.Expr{Kind: api.EWindow, Word: "sum", Range: 1}
	for _, c := range []struct {
		name string
		e    api.Expr
		time int
		want api.Errno
	}{
		{"a number", num, 0, api.OK},
		{"at the last time", num, api.MaxTime, api.OK},
		{"ahead of the first time", num, -1, api.ErrRange},
		{"behind the last time", num, api.MaxTime + 1, api.ErrRange},
		{"far ahead", window, math.MinInt, api.ErrRange},
		{"far behind", window, math.MaxInt, api.ErrRange},
		{"nothing", api.Expr{}, 5, api.ErrKind},
		{"no kind comes ahead of the time", api.Expr{Kind: 5}, -1, api.ErrKind},
		{"a number that is too great", api.Expr{Kind: api.ENum, N: api.MaxNum + 1}, 5, api.ErrRange},
		{"no word", api.Expr{Kind: api.EWindow, Word: "?", Range: 1}, 5, api.ErrName},
		{"no range", api.Expr{Kind: api.EWindow, Word: "sum"}, 5, api.ErrRange},
		{"all of a number", all, 5, api.ErrFit},
		{"all of a number comes ahead of the time", all, -1, api.ErrFit},
		{"what is wrong comes ahead of all of a number", api.Expr{Kind: api.EBin, Word: "+", Kids: []api.Expr{all, {}}}, -1, api.ErrKind},
		{"all of a number and a window", api.Expr{Kind: api.EAll, Word: "sum", Kids: []api.Expr{{Kind: api.EBin, Word: "+", Kids: []api.Expr{num, window}}}}, 5, api.OK},
	} {
		if got := Check(c.e, c.time); got != c.want {
			t.Errorf("%s: %v, not %v", c.name, got, c.want)
		}
		if got, err := Ask(nil, c.e, c.time); err != c.want || err != api.OK && len(got) != 0 {
			t.Errorf("%s is asked: %v %v, not %v", c.name, got, err, c.want)
		}
		if got, err := Ask([]api.Line{line("a=")}, c.e, c.time); err != api.ErrName || len(got) != 0 {
			t.Errorf("%s is asked of a wrong line: %v %v", c.name, got, err)
		}
	}
}

// F1, F2: a number is one cell without labels, whatever lines and time are.
func TestNumber(t *testing.T) {
	for _, l := range [][]api.Line{nil, {line("", 1, 1)}, {line("a=b", 1, 1), line("a=c")}} {
		for _, time := range []int{0, 2, api.MaxTime} {
			askIs(t, l, "0", time, cell("", 0))
			askIs(t, l, "1000000", time, cell("", api.MaxNum))
			askIs(t, l, "2 + 3 * 4", time, cell("", 14))
			askIs(t, l, "(2 + 3) * 4", time, cell("", 20))
			askIs(t, l, "2 - 3 - 4", time, cell("", -5))
			askIs(t, l, "2 - (3 - 4)", time, cell("", 3))
			askIs(t, l, "(0 - 2) * (1 - 4)", time, cell("", 6))
		}
	}
}

// F2: a window has its first time, and not its last one.
func TestWindowEdges(t *testing.T) {
	l := []api.Line{line("a=b", 0, 1, 10, 2, 20, 4, 30, 8, api.MaxTime, 16)}
	for _, c := range []struct {
		text string
		time int
		want int
	}{
		{"sum({}[1])", 0, 0}, {"sum({}[1])", 1, 1}, {"sum({}[1])", 2, 0},
		{"sum({}[100000])", 0, 0}, {"sum({}[100000])", 1, 1}, {"sum({}[100000])", 10, 1}, {"sum({}[100000])", 11, 3},
		{"sum({}[10])", 10, 1}, {"sum({}[10])", 11, 2}, {"sum({}[10])", 20, 2}, {"sum({}[11])", 21, 6}, {"sum({}[10])", 21, 4},
		{"sum({}[20])", 30, 6}, {"sum({}[19])", 30, 4}, {"sum({}[21])", 30, 6}, {"sum({}[30])", 30, 7}, {"sum({}[31])", 31, 15},
		{"sum({}[100000])", 100000, 15}, {"sum({}[100000])", 100001, 14}, {"sum({}[99970])", 100000, 8}, {"sum({}[99969])", 100000, 0},
		{"sum({}[100000])", api.MaxTime, 0},
	} {
		if c.want == 0 {
			askIs(t, l, c.text, c.time)
			continue
		}
		askIs(t, l, c.text, c.time, cell("a=b", c.want))
	}
}

// F2: each word; a cell whose value is 0 is one.
func TestWindowWords(t *testing.T) {
	l := []api.Line{line("", 0, 50, 5, 5, 6, 9, 7, 2, 8, -9, 9, 70), line("a=b", 5, 0), line("c=d", 9, 1)}
	want := map[string]int{"avg": 1, "count": 4, "first": 5, "last": -9, "max": 9, "min": -9, "rise": 4 + 2 - 9, "sum": 7}
	for _, word := range agg.Words() {
		other := 0
		if word == "count" {
			other = 1
		}
		askIs(t, l, word+"({}[4])", 9, cell("", want[word]), cell("a=b", other))
	}
}

// F2: lines whose series match, as they stand.
func TestWindowMatches(t *testing.T) {
	l := []api.Line{line("", 1, 1), line("host=a", 1, 2), line("host=a job=web", 1, 3), line("host=b job=web", 1, 4), line("job=db", 1, 5)}
	for _, c := range []struct {
		matches string
		want    []int
	}{
		{"", []int{0, 1, 2, 3, 4}},
		{"host", []int{1, 2, 3}},
		{"!host", []int{0, 4}},
		{"host=a", []int{1, 2}},
		{"host!=a", []int{0, 3, 4}},
		{"job=web,host!=a", []int{3}},
		{"job,!host", []int{4}},
		{"!job,!host", []int{0}},
		{"job,!job", nil},
		{"zz", nil},
		{"!zz", []int{0, 1, 2, 3, 4}},
	} {
		var want []api.Cell
		for _, i := range c.want {
			want = append(want, api.Cell{Series: l[i].Series, Value: i + 1})
		}
		askIs(t, l, "sum({"+c.matches+"}[9])", 5, want...)
	}
}

// F2: a number and cells, in both orders; a cell without labels is no number.
func TestBinNumber(t *testing.T) {
	l := []api.Line{line("", 1, 7), line("a=b", 1, -3), line("a=c", 1, 0)}
	three := func(x, y, z int) []api.Cell { return []api.Cell{cell("", x), cell("a=b", y), cell("a=c", z)} }
	askIs(t, l, "sum({}[5]) + 2", 2, three(9, -1, 2)...)
	askIs(t, l, "2 + sum({}[5])", 2, three(9, -1, 2)...)
	askIs(t, l, "sum({}[5]) - 2", 2, three(5, -5, -2)...)
	askIs(t, l, "2 - sum({}[5])", 2, three(-5, 5, 2)...)
	askIs(t, l, "sum({}[5]) * 2", 2, three(14, -6, 0)...)
	askIs(t, l, "(1 - 3) * sum({}[5])", 2, three(-14, 6, 0)...)
	askIs(t, l, "0 * sum({}[5])", 2, three(0, 0, 0)...)
	askIs(t, l, "2 - sum({}[5])", 1)
	askIs(t, l, "sum({}[5]) - 2", 1)
	askIs(t, l, "sum({!a}[5]) + sum({}[5])", 2, cell("", 14))
	askIs(t, l, "sum({}[5]) + sum({!a}[5])", 2, cell("", 14))
	askIs(t, l, "sum({}[5]) * all sum (sum({}[5]))", 2, cell("", 28))
	askIs(t, l, "all sum (sum({}[5])) - sum({}[5])", 2, cell("", -3))
	askIs(t, l, "all sum (sum({a}[5])) - sum({a}[5])", 2)
}

// F2: cells and cells go by the first one's, where the second one has the series.
func TestBinCells(t *testing.T) {
	l := []api.Line{line("a=b", 1, 2, 8, 100), line("a=b c=d", 1, 3), line("a=c", 8, 5), line("b=b", 1, 7, 8, 11), line("c=c", 1, 13)}
	askIs(t, l, "sum({}[9]) - sum({}[9])", 9, cell("a=b", 0), cell("a=b c=d", 0), cell("a=c", 0), cell("b=b", 0), cell("c=c", 0))
	askIs(t, l, "sum({}[9]) - sum({}[2])", 9, cell("a=b", 2), cell("a=c", 0), cell("b=b", 7))
	askIs(t, l, "sum({}[2]) - sum({}[9])", 9, cell("a=b", -2), cell("a=c", 0), cell("b=b", -7))
	askIs(t, l, "first({}[9]) * last({a}[9])", 9, cell("a=b", 200), cell("a=b c=d", 9), cell("a=c", 25))
	askIs(t, l, "sum({a=b}[9]) + sum({a=c}[9])", 9)
	askIs(t, l, "sum({c}[9]) + sum({!c}[9])", 9)
	askIs(t, l, "sum({}[1]) + sum({}[9])", 8)
	askIs(t, l, "all sum by c (sum({}[9])) - sum({c=c}[9])", 9, cell("c=c", 0))
	askIs(t, l, "all count by a (sum({}[9])) * all max by a (last({}[9]))", 9, cell("", 26), cell("a=b", 200), cell("a=c", 5))
}

// greatest is a text whose number is MaxCell, and root, times itself, too.
const (
	greatest = "(1024 * 1024 * 1024 * 1024 * 1024)"
	root     = "(1024 * 1024 * 32)"
)

// F2: values up to MaxCell, and down to its opposite; products that go over Go's int.
func TestBinBounds(t *testing.T) {
	l := []api.Line{line("a=a", 1, 0), line("a=b", 1, 1), line("b=b", 1, -1)}
	askIs(t, l, greatest, 5, cell("", api.MaxCell))
	askIs(t, l, "0 - "+greatest, 5, cell("", -api.MaxCell))
	askIs(t, l, root+" * "+root, 5, cell("", api.MaxCell))
	askIs(t, l, "(0 - "+root+") * "+root, 5, cell("", -api.MaxCell))
	askIs(t, l, root+" * ("+root+" - 1)", 5, cell("", api.MaxCell-1<<25))
	askIs(t, l, greatest+" + (1 - 1)", 5, cell("", api.MaxCell))
	askIs(t, l, greatest+" - "+greatest, 5, cell("", 0))
	askIs(t, l, greatest+" * (0 - 1)", 5, cell("", -api.MaxCell))
	askIs(t, l, "(0 - 1) * "+greatest, 5, cell("", -api.MaxCell))
	askIs(t, l, "(0 - 1) * (0 - "+greatest+")", 5, cell("", api.MaxCell))
	askIs(t, l, greatest+" * (1 - 1)", 5, cell("", 0))
	askIs(t, l, "(1 - 1) * "+greatest, 5, cell("", 0))
	askIs(t, l, "sum({a}[5]) * "+greatest, 5, cell("a=a", 0), cell("a=b", api.MaxCell))
	askIs(t, l, greatest+" * sum({}[5])", 5, cell("a=a", 0), cell("a=b", api.MaxCell), cell("b=b", -api.MaxCell))
	askIs(t, l, greatest+" - sum({a}[5])", 5, cell("a=a", api.MaxCell), cell("a=b", api.MaxCell-1))
	askIs(t, l, greatest+" * sum({zz}[5]) * "+greatest, 5)
	askIs(t, l, greatest+" * sum({a=a}[5]) * "+greatest, 5, cell("a=a", 0))
	for _, text := range []string{
		greatest + " + 1", "1 + " + greatest, "0 - " + greatest + " - 1", "(0 - 1) - " + greatest, greatest + " - (0 - 1)",
		greatest + " * 2", "2 * " + greatest, "(0 - 2) * " + greatest, greatest + " * (0 - 2)",
		greatest + " * " + greatest, "(0 - " + greatest + ") * " + greatest, greatest + " * 16384", greatest + " * (8192 + 1)", greatest + " * 4096",
		root + " * (" + root + " + 1)", "(0 - 1 - " + root + ") * " + root, "sum({}[5]) + " + greatest, greatest + " - sum({}[5])", "sum({b}[5]) - " + greatest,
		"sum({}[5]) * " + greatest + " * 2", "sum({a}[5]) * " + greatest + " + sum({}[5])", "1000000 * 1000000 * 1126",
		"0 * (" + greatest + " + 1)", "(" + greatest + " + 1) * sum({zz}[5])", "sum({zz}[5]) + " + greatest + " * 2",
	} {
		askFails(t, l, text, 5, api.ErrRange)
	}
}

// F2: all at once, and by labels; cells rise by what is left of their series, though their lines stand otherwise.
func TestAll(t *testing.T) {
	l := []api.Line{line("", 1, 6), line("a=a c=y", 1, 5), line("a=b b=z", 1, -2), line("a=b b=z c=x", 1, 1), line("a=c b=y", 1, 9), line("b=x", 1, 0)}
	askIs(t, l, "all sum (sum({}[5]))", 5, cell("", 19))
	askIs(t, l, "all max (sum({}[5]))", 5, cell("", 9))
	askIs(t, l, "all min (sum({}[5]))", 5, cell("", -2))
	askIs(t, l, "all count (sum({}[5]))", 5, cell("", 6))
	askIs(t, l, "all sum by b (sum({}[5]))", 5, cell("", 11), cell("b=x", 0), cell("b=y", 9), cell("b=z", -1))
	askIs(t, l, "all count by b (sum({}[5]))", 5, cell("", 2), cell("b=x", 1), cell("b=y", 1), cell("b=z", 2))
	askIs(t, l, "all max by b (sum({}[5]))", 5, cell("", 6), cell("b=x", 0), cell("b=y", 9), cell("b=z", 1))
	askIs(t, l, "all min by b (sum({}[5]))", 5, cell("", 5), cell("b=x", 0), cell("b=y", 9), cell("b=z", -2))
	askIs(t, l, "all sum by c (sum({}[5]))", 5, cell("", 13), cell("c=x", 1), cell("c=y", 5))
	askIs(t, l, "all sum by c,b (sum({}[5]))", 5, cell("", 6), cell("b=x", 0), cell("b=y", 9), cell("b=z", -2), cell("b=z c=x", 1), cell("c=y", 5))
	askIs(t, l, "all sum by b,c,b (sum({}[5]))", 5, cell("", 6), cell("b=x", 0), cell("b=y", 9), cell("b=z", -2), cell("b=z c=x", 1), cell("c=y", 5))
	askIs(t, l, "all min by zz (sum({}[5]))", 5, cell("", -2))
	askIs(t, l, "all sum by a,b,c (sum({a}[5]))", 5, cell("a=a c=y", 5), cell("a=b b=z", -2), cell("a=b b=z c=x", 1), cell("a=c b=y", 9))
	askIs(t, l, "all count (all count by b (sum({}[5])))", 5, cell("", 4))
	askIs(t, l, "all max (1 - sum({}[5]))", 5, cell("", 3))
	askIs(t, l, "all min (sum({a=a}[5]))", 5, cell("", 5))
	askIs(t, l, "all max (sum({a=b,!c}[5]))", 5, cell("", -2))
	askIs(t, l, "all count (sum({b=x}[5]))", 5, cell("", 1))
	for _, word := range lang.Totals() {
		askIs(t, l, "all "+word+" (sum({}[5]))", 1)
		askIs(t, l, "all "+word+" by a (sum({zz}[5]))", 5)
	}
}

// F2: example 6.
func TestExample(t *testing.T) {
	l := []api.Line{line("host=a", 5, 7, 15, 9), line("host=b", 5, 1)}
	askIs(t, l, "all sum (sum({}[60]))", 60, cell("", 17))
}

// F2: sums so far are looked at behind each cell, though the last one would do; other words stay within.
func TestAllBounds(t *testing.T) {
	l := []api.Line{line("a=a b=x", 1, 1), line("a=a b=y", 1, 1), line("a=a b=z", 1, -1), line("a=b b=x", 1, -1), line("a=b b=z", 1, -1), line("a=c", 1, 1)}
	times := " * sum({}[5]))"
	askFails(t, l, "all sum ("+greatest+times, 5, api.ErrRange)
	askFails(t, l, "all sum by a ("+greatest+times, 5, api.ErrRange)
	askFails(t, l, "all sum by b ("+greatest+times, 5, api.ErrRange)
	askIs(t, l, "all max ("+greatest+times, 5, cell("", api.MaxCell))
	askIs(t, l, "all min ("+greatest+times, 5, cell("", -api.MaxCell))
	askIs(t, l, "all count ("+greatest+times, 5, cell("", 6))
	askIs(t, l, "all sum by a,b ("+greatest+" * sum({a=a}[5]))", 5, cell("a=a b=x", api.MaxCell), cell("a=a b=y", api.MaxCell), cell("a=a b=z", -api.MaxCell))
	askFails(t, l, "all sum ("+greatest+" * sum({a=a}[5]))", 5, api.ErrRange)
	askIs(t, l, "all sum ("+greatest+" * sum({a=a,b!=x}[5]))", 5, cell("", 0))
	askFails(t, l, "all sum ("+greatest+" * sum({a=b}[5]))", 5, api.ErrRange)
	askFails(t, l, "all sum ((0 - "+greatest+") * sum({a=b}[5]))", 5, api.ErrRange)
	half := "(512 * 1024 * 1024 * 1024 * 1024)"
	askIs(t, l, "all sum ("+half+" * sum({a=b}[5]))", 5, cell("", -api.MaxCell))
	askIs(t, l, "all sum ("+half+" * sum({a=a,b!=z}[5]))", 5, cell("", api.MaxCell))
	askFails(t, l, "all sum (("+half+" + 1) * sum({a=b}[5]))", 5, api.ErrRange)
	askFails(t, l, "all sum (("+half+" + 1) * sum({a=a,b!=z}[5]))", 5, api.ErrRange)
	askFails(t, l, "0 * all sum ("+greatest+" * sum({a=b}[5]))", 5, api.ErrRange)
	askFails(t, l, "all count (all sum ("+greatest+" * sum({a=b}[5])))", 5, api.ErrRange)
}

// F2: the most that lines may come to is within a cell's bounds.
func TestMost(t *testing.T) {
	var l []api.Line
	for i := range api.MaxSeries {
		l = append(l, line("a=a"+string(rune('a'+i)), many(api.MaxSamples, api.MaxValue)...))
	}
	all := api.MaxSeries * api.MaxSamples * api.MaxValue
	askIs(t, l, "all sum (sum({}[1000]))", 1000, cell("", all))
	askIs(t, l, "all count by a (sum({}[1000])) - 1", 1000, cell("a=aa", 0), cell("a=ab", 0), cell("a=ac", 0), cell("a=ad", 0), cell("a=ae", 0), cell("a=af", 0), cell("a=ag", 0), cell("a=ah", 0))
	askIs(t, l, "all sum (avg({}[1000]) + count({}[1000]) + rise({}[1000]))", 1000, cell("", api.MaxSeries*(api.MaxValue+api.MaxSamples)))
}

// F2: windows are asked for in turn, series by series of those that match, from 0 on at the least; what is refused is told in its turn, and nothing behind it is asked for.
func TestOver(t *testing.T) {
	l := []api.Series{series("a=a"), series("a=b"), series("b=b")}
	const great = "(1000000 * 1000000 * 1000000)"
	for _, c := range []struct {
		text  string
		gone  int // the series of which nothing is kept
		asked [][3]int
		err   api.Errno
		want  []api.Cell
	}{
		{"1", 0, nil, api.OK, []api.Cell{cell("", 1)}},
		{"sum({}[10])", -1, [][3]int{{0, 40, 50}, {1, 40, 50}, {2, 40, 50}}, api.OK, []api.Cell{cell("a=b", 1), cell("b=b", 2)}},
		{"sum({a}[50])", -1, [][3]int{{0, 0, 50}, {1, 0, 50}}, api.OK, []api.Cell{cell("a=b", 1)}},
		{"sum({b}[51])", -1, [][3]int{{2, 0, 50}}, api.OK, []api.Cell{cell("b=b", 2)}},
		{"sum({b}[100000])", 1, [][3]int{{2, 0, 50}}, api.OK, []api.Cell{cell("b=b", 2)}},
		{"sum({}[10])", 1, [][3]int{{0, 40, 50}, {1, 40, 50}}, api.ErrGone, nil},
		{"sum({zz}[10])", 1, nil, api.OK, nil},
		{"sum({b}[1]) - sum({a=b}[2])", -1, [][3]int{{2, 49, 50}, {1, 48, 50}}, api.OK, nil},
		{"all sum (sum({b}[1])) + all sum (sum({a=b}[2]))", -1, [][3]int{{2, 49, 50}, {1, 48, 50}}, api.OK, []api.Cell{cell("", 3)}},
		{"all sum (sum({b}[1]) + sum({a}[2])) + sum({}[3])", 0, [][3]int{{2, 49, 50}, {0, 48, 50}}, api.ErrGone, nil},
		{"sum({a}[1]) + " + great, 0, [][3]int{{0, 49, 50}}, api.ErrGone, nil},
		{great + " + sum({a}[1])", 0, nil, api.ErrRange, nil},
		{"sum({b}[1]) * " + great + " + sum({a}[1])", 0, [][3]int{{2, 49, 50}}, api.ErrRange, nil},
	} {
		var asked [][3]int
		got, err := Over(l, read(t, c.text), 50, func(i, from, to int) (api.Sum, api.Errno) {
			asked = append(asked, [3]int{i, from, to})
			if i == c.gone {
				return agg.One(77), api.ErrGone
			}
			if i == 0 {
				return api.Sum{}, api.OK
			}
			return agg.One(i), api.OK
		})
		if err != c.err || !same(got, c.want) || !slices.Equal(asked, c.asked) {
			t.Errorf("%s, %d gone: %v %v by %v", c.text, c.gone, got, err, asked)
		}
	}
}

// F1, Z1, Z2: what Check refuses is asked of nobody; there may be nobody to ask; cells' labels are new memory.
func TestOverChecks(t *testing.T) {
	l := []api.Series{series("a=a")}
	sum := func(i, from, to int) (api.Sum, api.Errno) { return agg.One(5), api.OK }
	never := func(i, from, to int) (api.Sum, api.Errno) {
		t.Error("it is asked")
		return api.Sum{}, api.OK
	}
	window := read(t, "sum({}[5])")
	for _, c := range []struct {
		e    api.Expr
		time int
		want api.Errno
	}{
		{window, -1, api.ErrRange},
		{window, api.MaxTime + 1, api.ErrRange},
		{api.Expr{}, 5, api.ErrKind},
		{api.Expr{Kind: api.EBin, Word: "+", Kids: []api.Expr{window}}, 5, api.ErrMany},
		{api.Expr{Kind: api.EBin, Word: "+", Kids: []api.Expr{window, {Kind: api.EAll, Word: "sum", Kids: []api.Expr{{Kind: api.ENum}}}}}, 5, api.ErrFit},
	} {
		if got, err := Over(l, c.e, c.time, never); err != c.want || len(got) != 0 {
			t.Errorf("%v at %d: %v %v, not %v", c.e, c.time, got, err, c.want)
		}
	}
	if got, err := Over(l, window, 5, nil); err != api.OK || len(got) != 0 {
		t.Errorf("nobody is asked: %v %v", got, err)
	}
	got, err := Over(l, window, 5, sum)
	clear(l[0])
	if err != api.OK || !same(got, []api.Cell{cell("a=a", 5)}) {
		t.Errorf("%v %v", got, err)
	}
}
