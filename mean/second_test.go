package mean

import (
	"errors"
	"math"
	"math/big"
	"math/rand"
	"reflect"
	"slices"
	"strings"
	"testing"

	"grainstore/agg"
	"grainstore/api"
	"grainstore/lang"
)

// told is what an expression comes to by the document's words: a number, or values by their series' texts. Numbers are as great as they like.
type told struct {
	number *big.Int
	cells  map[string]*big.Int
}

var errTooGreat = errors.New("too great")

// textOf has labels as `host=a job=web `.
func textOf(s api.Series) string {
	text := ""
	for _, x := range s {
		text += x.Key + "=" + x.Val + " "
	}
	return text
}

func labelOf(s api.Series, key string) string {
	for _, x := range s {
		if x.Key == key {
			return x.Val
		}
	}
	return ""
}

// secondMatch takes a label that is not there as an empty one, as no value is empty.
func secondMatch(s api.Series, l []api.Match) bool {
	for _, m := range l {
		val := labelOf(s, m.Key)
		if m.Kind == api.Is && val != m.Val || m.Kind == api.IsNot && val == m.Val || m.Kind == api.Has && val == "" || m.Kind == api.Lacks && val != "" {
			return false
		}
	}
	return true
}

// secondValue answers what a word asks of values that are there.
func secondValue(word string, l []int) int {
	sum, rise := 0, 0
	for i, v := range l {
		sum += v
		if i > 0 && v < l[i-1] {
			rise += v
		} else if i > 0 {
			rise += v - l[i-1]
		}
	}
	return map[string]int{"avg": sum / len(l), "count": len(l), "first": l[0], "last": l[len(l)-1], "max": slices.Max(l), "min": slices.Min(l), "rise": rise, "sum": sum}[word]
}

func secondWindow(l []api.Line, e api.Expr, time int) told {
	out := told{cells: map[string]*big.Int{}}
	for _, x := range l {
		var values []int
		for _, s := range x.Samples {
			if s.Time >= time-e.Range && s.Time < time {
				values = append(values, s.Value)
			}
		}
		if secondMatch(x.Series, e.Matches) && len(values) > 0 {
			out.cells[textOf(x.Series)] = big.NewInt(int64(secondValue(e.Word, values)))
		}
	}
	return out
}

func within(n *big.Int) error {
	if new(big.Int).Abs(n).Cmp(big.NewInt(api.MaxCell)) > 0 {
		return errTooGreat
	}
	return nil
}

func secondSign(sign string, a, b *big.Int) *big.Int {
	switch sign {
	case "+":
		return new(big.Int).Add(a, b)
	case "-":
		return new(big.Int).Sub(a, b)
	}
	return new(big.Int).Mul(a, b)
}

func secondBin(sign string, a, b told) (told, error) {
	if a.number != nil && b.number != nil {
		n := secondSign(sign, a.number, b.number)
		return told{number: n}, within(n)
	}
	out := told{cells: map[string]*big.Int{}}
	switch {
	case a.number != nil:
		for s, v := range b.cells {
			out.cells[s] = secondSign(sign, a.number, v)
		}
	case b.number != nil:
		for s, v := range a.cells {
			out.cells[s] = secondSign(sign, v, b.number)
		}
	default:
		for s, v := range a.cells {
			if w := b.cells[s]; w != nil {
				out.cells[s] = secondSign(sign, v, w)
			}
		}
	}
	for _, v := range out.cells {
		if err := within(v); err != nil {
			return told{}, err
		}
	}
	return out, nil
}

// secondAll goes through the kid's cells as they rise, as sums so far hang on that.
func secondAll(e api.Expr, kid told) (told, error) {
	groups := map[string][]*big.Int{}
	for _, s := range risen(kid) {
		left := ""
		for _, x := range strings.Fields(s) {
			if key, _, _ := strings.Cut(x, "="); slices.Contains(e.By, key) {
				left += x + " "
			}
		}
		groups[left] = append(groups[left], kid.cells[s])
	}
	out := told{cells: map[string]*big.Int{}}
	for s, l := range groups {
		far := new(big.Int)
		for i, v := range l {
			switch {
			case e.Word == "count":
				far = big.NewInt(int64(i + 1))
			case i == 0 || e.Word == "max" && v.Cmp(far) > 0 || e.Word == "min" && v.Cmp(far) < 0:
				far = v
			case e.Word == "sum":
				far = new(big.Int).Add(far, v)
			}
			if err := within(far); i > 0 && err != nil {
				return told{}, err
			}
		}
		out.cells[s] = far
	}
	return out, nil
}

// risen answers the texts of cells, as their series rise: label by label; who ends first comes first.
func risen(x told) []string {
	var out []string
	for s := range x.cells {
		out = append(out, s)
	}
	slices.SortFunc(out, func(a, b string) int {
		return slices.CompareFunc(strings.Fields(a), strings.Fields(b), func(x, y string) int {
			return slices.Compare(strings.Split(x, "="), strings.Split(y, "="))
		})
	})
	return out
}

func second(l []api.Line, e api.Expr, time int) (told, error) {
	var kids []told
	for _, kid := range e.Kids {
		x, err := second(l, kid, time)
		if err != nil {
			return told{}, err
		}
		kids = append(kids, x)
	}
	switch e.Kind {
	case api.ENum:
		return told{number: big.NewInt(int64(e.N))}, nil
	case api.EWindow:
		return secondWindow(l, e, time), nil
	case api.EAll:
		return secondAll(e, kids[0])
	}
	return secondBin(e.Word, kids[0], kids[1])
}

func secondCells(x told) []api.Cell {
	if x.number != nil {
		return []api.Cell{{Value: int(x.number.Int64())}}
	}
	var out []api.Cell
	for _, s := range risen(x) {
		out = append(out, cell(s, int(x.cells[s].Int64())))
	}
	return out
}

func one[T any](r *rand.Rand, l ...T) T { return l[r.Intn(len(l))] }

// someLines has right lines, of so few labels that series have them in common.
func someLines(r *rand.Rand) []api.Line {
	var l []api.Line
	for range r.Intn(20) {
		var x api.Line
		for _, key := range []string{"a", "a1", "b", "c_d"} {
			if r.Intn(2) == 0 {
				x.Series = append(x.Series, api.Label{Key: key, Val: one(r, "a", "b", "b1", "b_")})
			}
		}
		for time := r.Intn(20); len(x.Samples) < 6 && time < 60; time += 1 + r.Intn(20) {
			x.Samples = append(x.Samples, api.Sample{Time: time, Value: one(r, 0, 1, -1, r.Intn(9), -r.Intn(9), api.MaxValue, -api.MaxValue)})
		}
		l = append(l, x)
	}
	order := func(a, b api.Line) int {
		return slices.CompareFunc(a.Series, b.Series, func(x, y api.Label) int {
			return slices.Compare([]string{x.Key, x.Val}, []string{y.Key, y.Val})
		})
	}
	slices.SortFunc(l, order)
	l = slices.CompactFunc(l, func(a, b api.Line) bool { return order(a, b) == 0 })
	r.Shuffle(len(l), func(i, j int) { l[i], l[j] = l[j], l[i] })
	l = l[:min(len(l), api.MaxSeries)]
	slices.SortFunc(l, order)
	return l
}

func someKey(r *rand.Rand) string { return one(r, "a", "a1", "b", "c_d", "zz") }

func someWindow(r *rand.Rand) api.Expr {
	e := api.Expr{Kind: api.EWindow, Word: one(r, agg.Words()...), Range: one(r, 1, 5, 20, 60, api.MaxRange)}
	for range one(r, 0, 0, 1, 2) {
		e.Matches = append(e.Matches, api.Match{Kind: 1 + r.Intn(4), Key: someKey(r), Val: one(r, "a", "b", "b1", "b_")})
	}
	return e
}

// someExpr has an expression that is right but for an EAll of numbers, at times.
func someExpr(r *rand.Rand, deep int) api.Expr {
	kind := r.Intn(8)
	switch {
	case deep == 0 && kind < 2 || kind == 0:
		return api.Expr{Kind: api.ENum, N: one(r, 0, 1, 2, 1000, api.MaxNum, api.MaxNum)}
	case deep == 0 || kind < 3:
		return someWindow(r)
	case kind < 5:
		e := api.Expr{Kind: api.EAll, Word: one(r, lang.Totals()...), Kids: []api.Expr{someExpr(r, deep-1)}}
		for range r.Intn(4) {
			e.By = append(e.By, someKey(r))
		}
		return e
	}
	return api.Expr{Kind: api.EBin, Word: one(r, "+", "-", "*", "*"), Kids: []api.Expr{someExpr(r, deep-1), someExpr(r, deep-1)}}
}

// F1, F2: Ask answers what the document's words, taken one by one, do; often enough of each kind.
func TestSecond(t *testing.T) {
	r := rand.New(rand.NewSource(6))
	var full, none, great, unfit int
	for range 60000 {
		l, e, time := someLines(r), someExpr(r, r.Intn(5)), one(r, 0, r.Intn(60), 40, 60, 60, 60, api.MaxTime)
		got, err := Ask(l, e, time)
		if lang.Typed(e) != api.OK {
			unfit++
			if err != api.ErrFit || len(got) != 0 {
				t.Fatalf("%v of %v at %d: %v %v", e, l, time, got, err)
			}
			continue
		}
		x, no := second(l, e, time)
		if no != nil {
			great++
			if err != api.ErrRange || len(got) != 0 {
				t.Fatalf("%v of %v at %d: %v %v, not too great", e, l, time, got, err)
			}
			continue
		}
		want := secondCells(x)
		if len(want) == 0 {
			none++
		} else {
			full++
		}
		if err != api.OK || !same(got, want) {
			t.Fatalf("%v of %v at %d: %v %v, not %v", e, l, time, got, err, want)
		}
	}
	t.Log("with cells, without, too great, unfit:", full, none, great, unfit)
	if min(full, none, great, unfit) < 500 {
		t.Error("too few of a kind")
	}
}

// roomy copies lines, so that each list in them has spare room with marks.
func roomy(l []api.Line) []api.Line {
	out := append(slices.Clone(l), api.Line{Series: api.Series{{Key: "mark", Val: "mark"}}})[:len(l)]
	for i, x := range out {
		out[i].Series = append(slices.Clone(x.Series), api.Label{Key: "mark", Val: "mark"})[:len(x.Series)]
		out[i].Samples = append(slices.Clone(x.Samples), api.Sample{Time: -7, Value: -7})[:len(x.Samples)]
	}
	return out
}

// whole answers lines with one place of the spare room of each list.
func whole(l []api.Line) []api.Line {
	out := slices.Clone(l[:len(l)+1])
	for i, x := range l {
		out[i] = api.Line{Series: slices.Clone(x.Series[:len(x.Series)+1]), Samples: slices.Clone(x.Samples[:len(x.Samples)+1])}
	}
	return out
}

// Z2: what is handed in stays, its spare room too; it may be changed behind the answer, and the answer may be.
func TestMemory(t *testing.T) {
	r := rand.New(rand.NewSource(2))
	for range 4000 {
		l, e := roomy(someLines(r)), someExpr(r, r.Intn(4))
		before, text := whole(l), textOfExpr(e)
		got, _ := Ask(l, e, 50)
		kept := copied(got)
		for i := range got {
			s := got[i].Series[:cap(got[i].Series)]
			for j := range s {
				s[j] = api.Label{Key: "changed", Val: "changed"}
			}
			for j, x := range got {
				if j > i && !slices.Equal(x.Series, kept[j].Series) {
					t.Fatalf("%s: cells %d and %d share labels", text, i, j)
				}
			}
		}
		for i := range got[:cap(got)] {
			got[:cap(got)][i] = api.Cell{Value: -77}
		}
		if !reflect.DeepEqual(whole(l), before) || textOfExpr(e) != text {
			t.Fatalf("%s: what was handed in is changed", text)
		}
		again, _ := Ask(l, e, 50)
		for i := range l {
			clear(l[i].Series)
			clear(l[i].Samples)
		}
		if !same(again, kept) {
			t.Fatalf("%s: %v, then %v", text, kept, again)
		}
	}
}

func textOfExpr(e api.Expr) string {
	s, _ := lang.Print(e)
	return s
}

func copied(l []api.Cell) []api.Cell {
	out := slices.Clone(l)
	for i := range out {
		out[i].Series = slices.Clone(out[i].Series)
	}
	return out
}

// Z5: what a kind has not means nothing.
func TestOtherFields(t *testing.T) {
	l := []api.Line{line("a=b", 1, 5), line("a=c", 1, 6)}
	other := func(e api.Expr) api.Expr {
		odd := api.Expr{Kind: e.Kind, N: -9, Range: -9, Word: "?", Matches: make([]api.Match, 9), By: []string{"", "a"}, Kids: e.Kids}
		switch e.Kind {
		case api.ENum:
			odd.N = e.N
		case api.EWindow:
			odd.Word, odd.Range, odd.Matches = e.Word, e.Range, e.Matches
		case api.EAll:
			odd.Word, odd.By = e.Word, e.By
		case api.EBin:
			odd.Word = e.Word
		}
		return odd
	}
	var deep func(e api.Expr) api.Expr
	deep = func(e api.Expr) api.Expr {
		e.Kids = slices.Clone(e.Kids)
		for i, kid := range e.Kids {
			e.Kids[i] = deep(kid)
		}
		return other(e)
	}
	for _, text := range []string{"7", "sum({a}[5])", "all sum (sum({}[5]))", "all count by a (sum({}[5]) + 1)", "2 - 3 * sum({a=c}[5])"} {
		e := read(t, text)
		want, _ := Ask(l, e, 5)
		if got, err := Ask(l, deep(e), 5); err != api.OK || !same(got, want) {
			t.Errorf("%s: %v %v, not %v", text, got, err, want)
		}
	}
	has := api.Expr{Kind: api.EWindow, Word: "sum", Range: 5, Matches: []api.Match{{Kind: api.Has, Key: "a", Val: "?"}, {Kind: api.Lacks, Key: "b", Val: "?"}}}
	if got, err := Ask(l, has, 5); err != api.OK || !same(got, []api.Cell{cell("a=b", 5), cell("a=c", 6)}) {
		t.Errorf("%v %v", got, err)
	}
}

// Z1: no panic, whatever comes, and an end, though an expression is within itself.
func TestAnything(t *testing.T) {
	r := rand.New(rand.NewSource(1))
	number := func() int { return one(r, 0, 1, 2, 3, 4, 5, -1, 60, api.MaxTime, math.MaxInt, math.MinInt, r.Int()) }
	word := func() string {
		return one(r, "", "a", "b", "sum", "max", "+", "*", "A", "\xff", strings.Repeat("a", 50))
	}
	var expr func(deep int) api.Expr
	expr = func(deep int) api.Expr {
		e := api.Expr{Kind: 1 + r.Intn(4), N: number(), Range: number(), Word: word()}
		for range r.Intn(3) {
			e.Matches = append(e.Matches, api.Match{Kind: r.Intn(6), Key: word(), Val: word()})
			e.By = append(e.By, word())
		}
		for range r.Intn(4) {
			if deep > 0 {
				e.Kids = append(e.Kids, expr(deep-1))
			}
		}
		return e
	}
	for range 20000 {
		l := make([]api.Line, r.Intn(10))
		for i := range l {
			for range r.Intn(4) {
				l[i].Series = append(l[i].Series, api.Label{Key: word(), Val: word()})
				l[i].Samples = append(l[i].Samples, api.Sample{Time: number(), Value: number()})
			}
		}
		e, time := expr(3), number()
		want := Wrong(l).Err
		if want == api.OK {
			want = Check(e, time)
		}
		got, err := Ask(l, e, time)
		if want != api.OK && err != want || err != api.OK && len(got) != 0 {
			t.Fatalf("%v of %v at %d: %v %v, not %v", e, l, time, got, err, want)
		}
	}
	self := []api.Expr{{Kind: api.EAll, Word: "sum"}}
	self[0].Kids = self
	if got, err := Ask(nil, self[0], 5); err != api.ErrMuch || len(got) != 0 {
		t.Errorf("one within itself: %v %v", got, err)
	}
}

// Z1: expressions as deep, and as many, as may be.
func TestLargest(t *testing.T) {
	l := []api.Line{line("a=b", 1, 5), line("a=c", 1, 6)}
	deep := read(t, "sum({}[5])")
	for range api.MaxDeep - 1 {
		deep = api.Expr{Kind: api.EAll, Word: "sum", Kids: []api.Expr{deep}}
	}
	if got, err := Ask(l, deep, 5); err != api.OK || !same(got, []api.Cell{cell("", 11)}) {
		t.Errorf("deep: %v %v", got, err)
	}
	if _, err := Ask(l, api.Expr{Kind: api.EAll, Word: "sum", Kids: []api.Expr{deep}}, 5); err != api.ErrMuch {
		t.Errorf("too deep: %v", err)
	}
	wide := []api.Expr{}
	for range api.MaxNodes / 2 {
		wide = append(wide, read(t, "sum({}[5])"))
	}
	for len(wide) > 1 {
		wide = append(wide[2:], api.Expr{Kind: api.EBin, Word: "+", Kids: []api.Expr{wide[0], wide[1]}})
	}
	if got, err := Ask(l, wide[0], 5); err != api.OK || !same(got, []api.Cell{cell("a=b", 250), cell("a=c", 300)}) {
		t.Errorf("wide: %v %v", got, err)
	}
}
