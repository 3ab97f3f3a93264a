package base

import (
	"cmp"
	"fmt"
	"math"
	"math/rand"
	"reflect"
	"slices"
	"strings"
	"testing"

	"grainstore/agg"
	"grainstore/api"
	"grainstore/codec"
	"grainstore/lang"
	"grainstore/mean"
	"grainstore/names"
	"grainstore/plan"
	"grainstore/shelf"
)

// some is one of those.
func some[T any](r *rand.Rand, l ...T) T { return l[r.Intn(len(l))] }

// second is a base by the document's words: shelves in any order, and, beside them, all that was ever taken.
type second struct {
	shelves []api.Shelf
	lines   []api.Line
	horizon int
}

func (b *second) of(s api.Series) int {
	return slices.IndexFunc(b.shelves, func(x api.Shelf) bool { return told(x.Series) == told(s) })
}

// append is I2, word by word.
func (b *second) append(s api.Series, x api.Sample) api.Errno {
	i := b.of(s)
	switch {
	case names.Wrong(s) != api.OK:
		return names.Wrong(s)
	case codec.Wrong([]api.Sample{x}).Err != api.OK:
		return codec.Wrong([]api.Sample{x}).Err
	case x.Time < b.horizon:
		return api.ErrLate
	case i < 0 && len(b.shelves) == api.MaxSeries:
		return api.ErrMany
	}
	if i < 0 {
		fresh, _ := shelf.Roll(shelf.New(s), b.horizon)
		fresh, err := shelf.Append(fresh, x)
		if err == api.OK {
			b.shelves = append(b.shelves, fresh)
			b.lines = append(b.lines, api.Line{Series: s, Samples: []api.Sample{x}})
		}
		return err
	}
	more, err := shelf.Append(b.shelves[i], x)
	if err == api.OK {
		b.shelves[i] = more
		b.lines[i].Samples = append(b.lines[i].Samples, x)
	}
	return err
}

// change is I2, word by word: of roll, or forget.
func (b *second) change(d api.Do) api.Errno {
	if d.To < 0 || d.To > api.MaxTime {
		return api.ErrRange
	}
	if d.Kind == api.DoForget && (d.Tier < 0 || d.Tier > 2) {
		return api.ErrKind
	}
	for i := range b.shelves {
		err := api.OK
		if d.Kind == api.DoRoll {
			b.shelves[i], err = shelf.Roll(b.shelves[i], d.To)
		} else {
			b.shelves[i], err = shelf.Forget(b.shelves[i], d.Tier, d.To)
		}
		if err != api.OK {
			panic("a shelf that has no more than a base may take refuses")
		}
	}
	for d.Kind == api.DoRoll && b.horizon+10 <= d.To {
		b.horizon += 10
	}
	return api.OK
}

// risen has lines as they rise.
func (b *second) risen() []api.Line {
	l := slices.Clone(b.lines)
	slices.SortFunc(l, func(x, y api.Line) int { return names.Compare(x.Series, y.Series) })
	return l
}

// looks is I3's windows, in turn: the first error, and at how much was looked. An error that is none of a kid is of the expression itself, so of all that was ever taken, too.
func (b *second) looks(e api.Expr, time int) (int, api.Errno) {
	cost := 0
	for _, kid := range e.Kids {
		n, err := b.looks(kid, time)
		if err != api.OK {
			return 0, err
		}
		cost += n
	}
	if e.Kind != api.EWindow {
		_, err := mean.Ask(b.risen(), e, time)
		return cost, err
	}
	from := time - e.Range
	if from < 0 {
		from = 0
	}
	for _, s := range b.shelves {
		if !names.Matches(s.Series, e.Matches) {
			continue
		}
		l, err := plan.Choose(s, from, time)
		if err != api.OK {
			return 0, err
		}
		_, n, _ := plan.Read(s, l)
		cost += n
	}
	return cost, api.OK
}

// ask has its cells of all that was ever taken, whatever was kept.
func (b *second) ask(text string, time int) api.Answer {
	e, f := lang.Parse(text)
	if f.Err != api.OK {
		return api.Answer{Err: f.Err, At: f.At}
	}
	if err := mean.Check(e, time); err != api.OK {
		return api.Answer{Err: err}
	}
	cost, err := b.looks(e, time)
	if err != api.OK {
		return api.Answer{Err: err}
	}
	cells, err := mean.Ask(b.risen(), e, time)
	return api.Answer{Err: err, Cells: cells, Cost: cost}
}

func (b *second) do(d api.Do) api.Answer {
	switch d.Kind {
	case api.DoAppend:
		return api.Answer{Err: b.append(d.Series, d.Sample)}
	case api.DoRoll, api.DoForget:
		return api.Answer{Err: b.change(d)}
	case api.DoAsk:
		return b.ask(d.Text, d.To)
	}
	return api.Answer{Err: api.ErrKind}
}

func (b *second) base() api.Base {
	l := slices.Clone(b.shelves)
	slices.SortFunc(l, func(x, y api.Shelf) int { return names.Compare(x.Series, y.Series) })
	return api.Base{Shelves: l, Horizon: b.horizon}
}

func someSeries(r *rand.Rand) string {
	return some(r, "", "a=a", "a=a", "a=b", "a=b b=c", "a=b b=d", "b=c", "b=d", "b=d c=e", "c=e", "a=A", "b=b a=a")
}

// someText is nearly always right.
func someText(r *rand.Rand, deep int) string {
	kind := r.Intn(40)
	switch {
	case kind == 0:
		return some(r, "oops", "1 +", "all sum (1)", "1000000 * 1000000 * 1000000")
	case kind < 5:
		return some(r, "0", "1", "7", "1000000")
	case deep == 0 || kind < 20:
		matches := some(r, "", "", "a", "!a", "a=b", "a!=b", "b=d,!c", "c=e", "zz")
		return fmt.Sprintf("%s({%s}[%d])", some(r, agg.Words()...), matches, some(r, 60, 60, 120, 10, 30, 1+r.Intn(100), api.MaxRange))
	case kind < 28:
		return fmt.Sprintf("all %s %s(%s)", some(r, lang.Totals()...), some(r, "", "by a ", "by a,b ", "by c "), someText(r, deep-1))
	}
	return fmt.Sprintf("(%s) %s (%s)", someText(r, deep-1), some(r, "+", "-", "*"), someText(r, deep-1))
}

// someDo goes on in time; now and then it is late, or wrong.
func someDo(r *rand.Rand, time *int) api.Do {
	near := func() int { return max(0, *time+r.Intn(80)-60) }
	back := func() int { return some(r, near(), r.Intn(*time+1), 10*r.Intn(*time/10+1), 60*r.Intn(*time/60+1)) }
	switch r.Intn(20) {
	case 0:
		return some(r, api.Do{}, api.Do{Kind: 5}, roll(-1), forget(3, 5), forget(0, api.MaxTime+1), roll(api.MaxTime+1), add("a=b", *time, api.MaxValue+1))
	case 1, 2:
		return roll(near())
	case 3, 4:
		return forget(some(r, api.Raw, api.Raw, api.Fine, api.Fine, api.Coarse), back())
	case 5, 6, 7, 8:
		return ask(someText(r, r.Intn(4)), some(r, near(), near(), back(), 10*(near()/10), 60*(near()/60)))
	case 9:
		return add(someSeries(r), back(), r.Intn(100))
	}
	*time += r.Intn(12)
	return add(someSeries(r), *time, some(r, r.Intn(200)-100, r.Intn(200)-100, r.Intn(2*api.MaxValue)-api.MaxValue))
}

func somePlay(r *rand.Rand) []api.Do {
	var l []api.Do
	time := r.Intn(20)
	for range some(r, r.Intn(20), 60, 120) {
		l = append(l, someDo(r, &time))
	}
	return l
}

// I1, I2, I3: rolled, forgotten, or not, each answer is of all that was ever taken, or says that some is gone; and all else is as the document's words have it.
func TestSecond(t *testing.T) {
	r := rand.New(rand.NewSource(9))
	came := map[string]int{}
	for range 3000 {
		l := somePlay(r)
		b, a := play(t, l...)
		var want second
		for i, d := range l {
			x := want.do(d)
			if told(a[i]) != told(x) {
				t.Fatalf("%v: the last one: %v, not %v", l[:i+1], a[i], x)
			}
			came[fmt.Sprint(d.Kind, " ", x.Err)]++
			if d.Kind == api.DoAsk && len(x.Cells) > 0 && x.Cost > 0 {
				came["cells"]++
			}
		}
		if told(b) != told(want.base()) {
			t.Fatalf("%v: %v, not %v", l, b, want.base())
		}
	}
	t.Log(came)
	for _, kind := range []string{"cells", "0 1", "1 0", "1 3", "1 5", "1 7", "1 2", "1 9", "2 0", "2 3", "3 0", "3 1", "3 3", "4 0", "4 2", "4 3", "4 7", "4 8", "4 10"} {
		if came[kind] < 200 {
			t.Error("too few of", kind)
		}
	}
}

// I1: one after the other: what comes first does not hang on what comes then.
func TestPieces(t *testing.T) {
	r := rand.New(rand.NewSource(10))
	for range 100 {
		l := somePlay(r)
		_, all := play(t, l...)
		for n := range l {
			_, a := play(t, l[:n]...)
			if told(a) != told(all[:n]) {
				t.Fatalf("%v: %v, not %v", l[:n], a, all[:n])
			}
		}
	}
}

// I3: rolled or not, the same is answered, and at no greater cost.
func TestRolledOrNot(t *testing.T) {
	r := rand.New(rand.NewSource(11))
	cheaper := 0
	for range 500 {
		var plain, rolled []api.Do
		for time := r.Intn(20); len(plain) < 40; time += 1 + r.Intn(9) {
			plain = append(plain, add(some(r, "a=a", "a=b", "b=c"), time, r.Intn(100)))
			rolled = append(rolled, plain[len(plain)-1])
			if r.Intn(4) == 0 {
				rolled = append(rolled, roll(time))
			}
		}
		d := ask(someText(r, 2), 30*r.Intn(8))
		_, first := play(t, then(plain, d)...)
		_, then := play(t, then(rolled, d)...)
		x, y := first[len(first)-1], then[len(then)-1]
		if told(x.Cells) != told(y.Cells) || x.Err != y.Err || x.At != y.At || x.Cost < y.Cost {
			t.Fatalf("%v: %v, rolled %v", rolled, x, y)
		}
		if y.Cost < x.Cost {
			cheaper++
		}
	}
	if cheaper < 100 {
		t.Error("too few are cheaper:", cheaper)
	}
}

// roomy copies a list, so that each list in it has spare room with marks.
func roomy(l []api.Do) []api.Do {
	out := append(slices.Clone(l), api.Do{Kind: -7})[:len(l)]
	for i, d := range out {
		out[i].Series = append(slices.Clone(d.Series), api.Label{Key: "mark", Val: "mark"})[:len(d.Series)]
	}
	return out
}

// wholeOf has a list with one place of the spare room of each list.
func wholeOf(l []api.Do) []api.Do {
	out := slices.Clone(l[:len(l)+1])
	for i, d := range l {
		out[i].Series = slices.Clone(d.Series[:len(d.Series)+1])
	}
	return out
}

// Z2: what is handed in stays, its spare room too, and may be changed behind the answer.
func TestHandedIn(t *testing.T) {
	r := rand.New(rand.NewSource(12))
	for range 300 {
		l := roomy(somePlay(r))
		before := wholeOf(l)
		b, a := play(t, l...)
		if !reflect.DeepEqual(wholeOf(l), before) {
			t.Fatalf("%v: it was changed", before)
		}
		text := told(b) + told(a)
		for i := range l {
			clear(l[i].Series[:cap(l[i].Series)])
		}
		clear(l[:cap(l)])
		if told(b)+told(a) != text {
			t.Fatalf("%v: something of it was kept", before)
		}
	}
}

// span is where a list lies, its spare room too.
type span struct{ from, to uintptr }

// spans has where all lists of a value lie.
func spans(v reflect.Value) []span {
	var out []span
	switch v.Kind() {
	case reflect.Slice:
		if v.Cap() > 0 {
			from := v.Pointer()
			out = append(out, span{from, from + uintptr(v.Cap())*v.Type().Elem().Size()})
		}
		for i := range v.Len() {
			out = append(out, spans(v.Index(i))...)
		}
	case reflect.Struct:
		for i := range v.NumField() {
			out = append(out, spans(v.Field(i))...)
		}
	}
	return out
}

// Z2: no two lists of an answer share memory, spare room too, nor does one share any with what was handed in, nor with another call's answer.
func TestAnswered(t *testing.T) {
	r := rand.New(rand.NewSource(13))
	for range 300 {
		l := roomy(somePlay(r))
		b, a := play(t, l...)
		again, then := play(t, l...)
		all := spans(reflect.ValueOf(l))
		for _, x := range []any{b, a, again, then} {
			all = append(all, spans(reflect.ValueOf(x))...)
		}
		slices.SortFunc(all, func(x, y span) int { return cmp.Compare(x.from, y.from) })
		for i := range all[1:] {
			if all[i].to > all[i+1].from {
				t.Fatalf("%v: lists share memory", l)
			}
		}
	}
}

// Z1: what a call answers hangs on its arguments alone.
func TestAgain(t *testing.T) {
	r := rand.New(rand.NewSource(14))
	for range 100 {
		l := somePlay(r)
		b, a := play(t, l...)
		play(t, somePlay(r)...)
		if again, then := play(t, l...); told(b) != told(again) || told(a) != told(then) {
			t.Fatalf("%v: %v %v, then %v %v", l, b, a, again, then)
		}
	}
}

// Z5: what a kind has not means nothing.
func TestOtherFields(t *testing.T) {
	r := rand.New(rand.NewSource(15))
	for range 300 {
		l := somePlay(r)
		odd := slices.Clone(l)
		for i, d := range l {
			x := api.Do{Kind: d.Kind, Tier: -9, To: -9, Series: make(api.Series, 9), Sample: api.Sample{Time: -9, Value: math.MaxInt}, Text: "?"}
			switch d.Kind {
			case api.DoAppend:
				x.Series, x.Sample = d.Series, d.Sample
			case api.DoRoll:
				x.To = d.To
			case api.DoForget:
				x.To, x.Tier = d.To, d.Tier
			case api.DoAsk:
				x.To, x.Text = d.To, d.Text
			}
			odd[i] = x
		}
		b, a := play(t, l...)
		if other, then := play(t, odd...); told(b) != told(other) || told(a) != told(then) {
			t.Fatalf("%v: %v %v, then %v %v", l, b, a, other, then)
		}
	}
}

// Z1, Z4: no panic, whatever comes, and beside an error nothing else is told.
func TestAnything(t *testing.T) {
	r := rand.New(rand.NewSource(16))
	number := func() int {
		return some(r, 0, 1, 2, 3, 4, 10, 60, 61, -1, 5000, api.MaxTime, api.MaxTime-1, api.MaxTime+1, math.MaxInt, math.MinInt, r.Int())
	}
	word := func() string {
		return some(r, "", "a", "b", "c", "all", "\xff", "A", strings.Repeat("a", 12), strings.Repeat("a", 13))
	}
	for range 4000 {
		l := make([]api.Do, r.Intn(60))
		for i := range l {
			l[i] = api.Do{Kind: some(r, 1, 1, 2, 3, 4, number()), Tier: some(r, 0, 1, 2, number()), To: number(), Sample: api.Sample{Time: number(), Value: number()}}
			for range r.Intn(3) {
				l[i].Series = append(l[i].Series, api.Label{Key: word(), Val: word()})
			}
			text := someText(r, r.Intn(4))
			l[i].Text = some(r, text, text, text[:r.Intn(len(text))], text+word(), word())
		}
		b, a := play(t, l...)
		for i, x := range a {
			if x.Err != api.OK && (len(x.Cells) != 0 || x.Cost != 0) || x.At != 0 && (x.Err == api.OK || l[i].Kind != api.DoAsk) {
				t.Fatalf("%v: %v", l[:i+1], x)
			}
		}
		for i, s := range b.Shelves {
			if shelf.Wrong(s) != api.OK || s.FineTo != b.Horizon || len(s.Raw)+len(s.Fine)+len(s.Coarse) > 3*len(l) || i > 0 && names.Compare(b.Shelves[i-1].Series, s.Series) >= 0 {
				t.Fatalf("%v: %v", l, s)
			}
		}
	}
}

// manyWindows is as many windows of all series as an expression may have.
func manyWindows(n int) string {
	if n == 1 {
		return "sum({}[100000])"
	}
	return "(" + manyWindows(n/2) + " + " + manyWindows(n-n/2) + ")"
}

// Z1: as much as may be asked ends soon, though no coarse bucket is left.
func TestMuch(t *testing.T) {
	var l []api.Do
	for i := range api.MaxSeries {
		l = append(l, add("a="+string(rune('a'+i)), 950005, 1), add("a="+string(rune('a'+i)), 950005+10*i+10, 1))
	}
	l = append(l, roll(api.MaxTime), forget(api.Coarse, api.MaxTime))
	for len(l) < api.MaxDo {
		l = append(l, ask(manyWindows(api.MaxNodes/2), api.MaxTime-1))
	}
	_, a := play(t, l...)
	x := a[len(a)-1]
	if x.Err != api.OK || x.Cost != api.MaxNodes/2*2*api.MaxSeries || len(x.Cells) != api.MaxSeries || x.Cells[7].Value != api.MaxNodes {
		t.Errorf("%v", x)
	}
}
