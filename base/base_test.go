package base

import (
	"fmt"
	"math"
	"slices"
	"strings"
	"testing"

	"grainstore/agg"
	"grainstore/api"
	"grainstore/shelf"
)

// series reads labels as `host=a job=web`.
func series(s string) api.Series {
	var out api.Series
	for _, x := range strings.Fields(s) {
		key, val, _ := strings.Cut(x, "=")
		out = append(out, api.Label{Key: key, Val: val})
	}
	return out
}

func add(s string, time, value int) api.Do {
	return api.Do{Kind: api.DoAppend, Series: series(s), Sample: api.Sample{Time: time, Value: value}}
}

func roll(to int) api.Do { return api.Do{Kind: api.DoRoll, To: to} }

func forget(tier, to int) api.Do { return api.Do{Kind: api.DoForget, Tier: tier, To: to} }

func ask(text string, time int) api.Do { return api.Do{Kind: api.DoAsk, Text: text, To: time} }

// told makes nil and empty the same (Z3).
func told(x any) string { return fmt.Sprintf("%+v", x) }

// play plays what may be played: there is an answer to each.
func play(t *testing.T, l ...api.Do) (api.Base, []api.Answer) {
	t.Helper()
	b, a, err := Play(l)
	if err != api.OK || len(a) != len(l) {
		t.Fatalf("%v: %v %v", l, a, err)
	}
	return b, a
}

// last is what comes of the last thing that is done; all ahead of it is taken.
func last(t *testing.T, l ...api.Do) api.Answer {
	t.Helper()
	_, a := play(t, l...)
	for i, x := range a[:len(a)-1] {
		if x.Err != api.OK {
			t.Fatalf("%v: %v", l[i], x)
		}
	}
	return a[len(a)-1]
}

// then does something behind a list that other cases go on from, too.
func then(l []api.Do, d ...api.Do) []api.Do { return append(slices.Clone(l), d...) }

func is(t *testing.T, name string, got, want api.Answer) {
	t.Helper()
	if told(got) != told(want) {
		t.Errorf("%s: %v, not %v", name, got, want)
	}
}

// fails holds Z4, too: beside an error that is not of a text all is zero.
func fails(t *testing.T, name string, got api.Answer, want api.Errno) {
	t.Helper()
	is(t, name, got, api.Answer{Err: want})
}

func cell(s string, v int) api.Cell { return api.Cell{Series: series(s), Value: v} }

func comes(cost int, l ...api.Cell) api.Answer { return api.Answer{Cells: l, Cost: cost} }

// kept is a base in which each tier has something, and has forgotten something: of host=b all is coarse up to 180, of new=n, that came behind, nothing was forgotten.
func kept() []api.Do {
	return []api.Do{
		add("host=b", 5, 1), add("host=b", 65, 2), add("host=b", 125, 4), add("host=b", 185, 8), add("host=b", 195, 16), add("host=b", 215, 32),
		add("host=a", 70, 64), add("host=a", 130, 128),
		roll(209), forget(api.Raw, 195), forget(api.Fine, 500), forget(api.Coarse, 119),
		add("new=n", 200, 256), add("new=n", 211, 512),
	}
}

// one is a bucket with one sample.
func one(at, v int) api.Bucket { return api.Bucket{At: at, Sum: agg.One(v)} }

// kept200 is the base that kept comes to.
func kept200() api.Base {
	a := api.Shelf{Series: series("host=a"), Coarse: []api.Bucket{one(60, 64), one(120, 128)}, RawFrom: 195, FineFrom: 180, FineTo: 200, CoarseFrom: 60, CoarseTo: 180}
	b := a
	b.Series, b.Raw = series("host=b"), []api.Sample{{Time: 195, Value: 16}, {Time: 215, Value: 32}}
	b.Fine, b.Coarse = []api.Bucket{one(180, 8), one(190, 16)}, []api.Bucket{one(60, 2), one(120, 4)}
	n := api.Shelf{Series: series("new=n"), Raw: []api.Sample{{Time: 200, Value: 256}, {Time: 211, Value: 512}}, FineTo: 200, CoarseTo: 180}
	return api.Base{Shelves: []api.Shelf{a, b, n}, Horizon: 200}
}

// I1: as many things as may be done, and one more.
func TestPlayMany(t *testing.T) {
	for _, n := range []int{0, 1, 2, api.MaxDo - 1, api.MaxDo} {
		l := []api.Do{}
		for i := range n {
			l = append(l, add("a=b", i, i))
		}
		b, a := play(t, l...)
		if told(a) != told(make([]api.Answer, n)) || n > 0 && (len(b.Shelves) != 1 || len(b.Shelves[0].Raw) != n) {
			t.Errorf("%d: %v %v", n, b, a)
		}
	}
	for _, n := range []int{api.MaxDo + 1, 2 * api.MaxDo} {
		for _, d := range []api.Do{{}, add("a=b", 5, 5), ask("1", 5)} {
			b, a, err := Play(slices.Repeat([]api.Do{d}, n))
			if err != api.ErrMany || told(b) != told(api.Base{}) || len(a) != 0 {
				t.Errorf("%d: %v %v %v", n, b, a, err)
			}
		}
	}
}

// I1: a base begins with nothing, and each call with a base of its own.
func TestPlayNothing(t *testing.T) {
	for range 2 {
		for _, l := range [][]api.Do{nil, {}} {
			if b, _ := play(t, l...); told(b) != told(api.Base{}) {
				t.Errorf("%v", b)
			}
		}
		is(t, "nothing is asked", last(t, ask("all count (sum({}[100]))", 100)), comes(0))
		play(t, kept()...)
	}
}

// I1, I2: the base then, in all its parts.
func TestPlayKept(t *testing.T) {
	b, a := play(t, kept()...)
	if told(b) != told(kept200()) {
		t.Errorf("%+v, not %+v", b, kept200())
	}
	for i, x := range a {
		is(t, told(kept()[i]), x, api.Answer{})
	}
	for _, s := range b.Shelves {
		if err := shelf.Wrong(s); err != api.OK {
			t.Errorf("%v: %v", s, err)
		}
	}
}

// refused has what a base as kept comes to refuses, and why.
func refused() map[api.Errno][]api.Do {
	return map[api.Errno][]api.Do{
		api.ErrKind: {{}, {Kind: -1}, {Kind: 5}, {Kind: math.MaxInt}, {Kind: math.MinInt}, forget(3, 300), forget(-1, 0), forget(api.FineStep, 0), forget(math.MaxInt, 0), forget(math.MinInt, 0)},
		api.ErrRange: {
			roll(-1), roll(api.MaxTime + 1), roll(math.MinInt), roll(math.MaxInt),
			forget(api.Raw, -1), forget(api.Fine, api.MaxTime+1), forget(api.Coarse, math.MaxInt), forget(3, -1), forget(-1, math.MinInt),
			add("host=a", -1, 0), add("host=a", api.MaxTime+1, 0), add("host=a", 300, api.MaxValue+1), add("host=a", 300, -api.MaxValue-1), add("host=c", math.MinInt, 0), add("host=c", math.MaxInt, math.MaxInt),
			ask("1", -1), ask("1", api.MaxTime+1), ask("sum({host}[60])", math.MinInt),
		},
		api.ErrName: {add("host=A", 300, 1), add("host=", 300, 1), add("=a", 300, 1), add("host=A", -1, 1), add("host=A", 5, 1), add("host=abcdefghijklm", 300, 1)},
		api.ErrMany: {add("a=a b=b c=c d=d e=e", 300, 1), add("a=a b=b c=c d=d e=e", -1, 1)},
		api.ErrForm: {add("job=a host=a", 300, 1), add("a=a a=b", 5, 1)},
		api.ErrLate: {
			add("host=a", 0, 1), add("host=a", 199, 1), add("host=b", 200, 1), add("host=b", 214, 1), add("host=b", 215, 1), add("host=c", 199, 1), add("", 0, 1), add("new=n", 211, 1), add("new=n", 199, 1),
		},
		api.ErrFit:  {ask("all sum (1)", 5), ask("all sum (1)", -1), ask("sum({}[60]) + all count (1 + 2)", 230)},
		api.ErrGone: {ask("sum({}[60])", 100), ask("sum({host}[1])", 1), ask("sum({host=a}[200])", 230)},
	}
}

// I1, I2, I3: what is refused changes nothing: the base stays, and what comes next comes as it would.
func TestRefused(t *testing.T) {
	next := []api.Do{add("host=a", 210, 3), add("other=o", 200, 1), ask("sum({}[60])", 240), roll(240), forget(api.Raw, 215), ask("sum({}[60])", 240)}
	wantBase, want := play(t, then(kept(), next...)...)
	want = want[len(kept()):]
	for err, l := range refused() {
		for _, d := range l {
			fails(t, told(d), last(t, then(kept(), d)...), err)
			if b, _ := play(t, then(kept(), d)...); told(b) != told(kept200()) {
				t.Errorf("%v: %v", d, b)
			}
			b, a := play(t, then(then(kept(), d), next...)...)
			if told(b) != told(wantBase) || told(a[len(kept())+1:]) != told(want) {
				t.Errorf("%v: %v %v, not %v %v", d, b, a, wantBase, want)
			}
		}
	}
}

// I2: a base that has nothing refuses what is wrong, too; what is right is done with none.
func TestOfNothing(t *testing.T) {
	for err, l := range refused() {
		for _, d := range l {
			if err != api.ErrLate && err != api.ErrGone {
				fails(t, told(d), last(t, d), err)
			}
		}
	}
	for _, tier := range []int{api.Raw, api.Fine, api.Coarse} {
		for _, to := range []int{0, 5, api.MaxTime} {
			b, a := play(t, forget(tier, to))
			if told(b) != told(api.Base{}) || a[0].Err != api.OK {
				t.Errorf("%d up to %d: %v %v", tier, to, b, a)
			}
		}
	}
}

// I2: a sample is late below Horizon, not at it, and of a series that has some up to the last one's time; new shelves are rolled up to Horizon.
func TestAppend(t *testing.T) {
	l := []api.Do{add("host=a", 5, 1), roll(129)}
	for _, c := range []struct {
		name string
		d    api.Do
		err  api.Errno
		n    int
	}{
		{"at Horizon", add("host=a", 120, 2), api.OK, 1},
		{"ahead of it", add("host=a", 119, 2), api.ErrLate, 1},
		{"a new one at Horizon", add("host=b", 120, 2), api.OK, 2},
		{"a new one ahead of it", add("host=b", 119, 2), api.ErrLate, 1},
		{"a new one at the last time", add("host=b", api.MaxTime, api.MaxValue), api.OK, 2},
		{"one without labels", add("", 121, -api.MaxValue), api.OK, 2},
	} {
		b, a := play(t, then(l, c.d)...)
		fails(t, c.name, a[2], c.err)
		if len(b.Shelves) != c.n {
			t.Errorf("%s: %v", c.name, b)
		}
		for _, s := range b.Shelves {
			if s.FineTo != 120 || s.CoarseTo != 120 || s.RawFrom != 0 || s.FineFrom != 0 || s.CoarseFrom != 0 {
				t.Errorf("%s: %v", c.name, s)
			}
		}
	}
	fails(t, "behind the last one", last(t, add("a=a", 5, 1), add("b=b", 9, 1), add("a=a", 6, 1)), api.OK)
	fails(t, "at the last one's time", last(t, add("a=a", 5, 1), add("b=b", 4, 1), add("a=a", 5, 1)), api.ErrLate)
	fails(t, "ahead of the last one", last(t, add("a=a", 5, 1), add("b=b", 3, 1), add("a=a", 4, 1)), api.ErrLate)
}

// I2: each error of what is taken ahead of those behind it.
func TestAppendOrder(t *testing.T) {
	var full []api.Do
	for i := range api.MaxSeries {
		full = append(full, add("a="+string(rune('b'+i)), 100, 1))
	}
	full = append(full, roll(55))
	for _, c := range []struct {
		name string
		d    api.Do
		want api.Errno
	}{
		{"no name, then no time, late, one too many", add("A=a", -1, 1), api.ErrName},
		{"five labels, then no name", add("A=a b=b c=c d=d e=e", 5, 1), api.ErrMany},
		{"labels that fall, then late, one too many", add("b=b a=a", 5, 1), api.ErrForm},
		{"no time, then one too many", add("a=z", -1, 1), api.ErrRange},
		{"too great a value, then late", add("a=b", 5, api.MaxValue+1), api.ErrRange},
		{"late, then one too many", add("a=z", 49, 1), api.ErrLate},
		{"one too many", add("a=z", 50, 1), api.ErrMany},
		{"one too many, ahead of all", add("", 200, 1), api.ErrMany},
		{"one too many, between", add("a=b c=d", 200, 1), api.ErrMany},
		{"not behind the last one", add("a=b", 100, 1), api.ErrLate},
		{"below Horizon", add("a=b", 49, 1), api.ErrLate},
		{"one that is there", add("a=b", 101, 1), api.OK},
		{"the last one that is there", add("a=i", 101, 1), api.OK},
	} {
		fails(t, c.name, last(t, then(full, c.d)...), c.want)
	}
}

// I2: shelves rise by series, whichever comes first.
func TestRise(t *testing.T) {
	rising := []string{"", "a=a", "a=a b=a", "a=b", "a1=a", "b=a", "b=a c=d e=f g=h", "b=b"}
	for _, order := range [][]int{{0, 1, 2, 3, 4, 5, 6, 7}, {7, 6, 5, 4, 3, 2, 1, 0}, {4, 0, 6, 2, 7, 1, 5, 3}, {3, 7, 1, 5, 0, 2, 6, 4}} {
		var l []api.Do
		for i, x := range order {
			l = append(l, add(rising[x], 10*i, x), roll(10*i))
		}
		b, _ := play(t, l...)
		for i, s := range b.Shelves {
			if told(s.Series) != told(series(rising[i])) || len(s.Raw) != 1 || s.Raw[0].Value != i {
				t.Errorf("%v at %d: %v", order, i, s)
			}
		}
		if len(b.Shelves) != len(rising) {
			t.Errorf("%v: %v", order, b)
		}
	}
}

// I2: Horizon is a multiple of FineStep, and never goes back; without shelves, too.
func TestHorizon(t *testing.T) {
	for _, c := range []struct {
		to   []int
		want int
	}{
		{nil, 0}, {[]int{0}, 0}, {[]int{9}, 0}, {[]int{10}, 10}, {[]int{19}, 10}, {[]int{20, 10}, 20}, {[]int{25, 29}, 20}, {[]int{25, 30, 0}, 30},
		{[]int{70}, 70}, {[]int{api.MaxTime}, api.MaxTime}, {[]int{api.MaxTime - 1}, api.MaxTime - 10}, {[]int{50, -1}, 50}, {[]int{50, api.MaxTime + 1}, 50}, {[]int{50, api.MaxTime + 10, 65}, 60},
	} {
		for _, l := range [][]api.Do{nil, {add("host=a", 5, 1)}, {add("host=a", 5, 1), add("host=b", 15, 1)}} {
			for _, to := range c.to {
				l = append(l, roll(to))
			}
			b, _ := play(t, l...)
			if b.Horizon != c.want {
				t.Errorf("%v: %d, not %d", c.to, b.Horizon, c.want)
			}
			for _, s := range b.Shelves {
				if s.FineTo != c.want || s.CoarseTo != c.want/60*60 {
					t.Errorf("%v: %v", c.to, s)
				}
			}
			fails(t, told(c.to), last(t, roll(c.want), add("new=n", c.want, 1)), api.OK)
		}
	}
	b, _ := play(t, add("host=a", 5, 1), forget(api.Raw, 100), forget(api.Fine, 100), forget(api.Coarse, 100), ask("1", 100))
	if b.Horizon != 0 || b.Shelves[0].RawFrom != 0 || len(b.Shelves[0].Raw) != 1 {
		t.Errorf("nothing but a roll moves it: %v", b)
	}
}

// I2: all shelves are rolled, and forget, tier by tier, as far as they may.
func TestAllShelves(t *testing.T) {
	l := []api.Do{add("host=a", 5, 1), add("host=b", 7, 2), add("host=c", 68, 3), roll(75)}
	for _, c := range []struct {
		tier, to         int
		raw, fine, coars [3]int
		from             [3]int
	}{
		{api.Raw, 0, [3]int{1, 1, 1}, [3]int{1, 1, 1}, [3]int{1, 1, 0}, [3]int{0, 0, 0}},
		{api.Raw, 6, [3]int{0, 1, 1}, [3]int{1, 1, 1}, [3]int{1, 1, 0}, [3]int{6, 0, 0}},
		{api.Raw, 8, [3]int{0, 0, 1}, [3]int{1, 1, 1}, [3]int{1, 1, 0}, [3]int{8, 0, 0}},
		{api.Raw, api.MaxTime, [3]int{0, 0, 0}, [3]int{1, 1, 1}, [3]int{1, 1, 0}, [3]int{70, 0, 0}},
		{api.Fine, 9, [3]int{1, 1, 1}, [3]int{1, 1, 1}, [3]int{1, 1, 0}, [3]int{0, 0, 0}},
		{api.Fine, 10, [3]int{1, 1, 1}, [3]int{0, 0, 1}, [3]int{1, 1, 0}, [3]int{0, 10, 0}},
		{api.Fine, 100, [3]int{1, 1, 1}, [3]int{0, 0, 1}, [3]int{1, 1, 0}, [3]int{0, 60, 0}},
		{api.Coarse, 59, [3]int{1, 1, 1}, [3]int{1, 1, 1}, [3]int{1, 1, 0}, [3]int{0, 0, 0}},
		{api.Coarse, 60, [3]int{1, 1, 1}, [3]int{1, 1, 1}, [3]int{0, 0, 0}, [3]int{0, 0, 60}},
	} {
		b, a := play(t, then(l, forget(c.tier, c.to))...)
		fails(t, told(c), a[4], api.OK)
		for i, s := range b.Shelves {
			if len(s.Raw) != c.raw[i] || len(s.Fine) != c.fine[i] || len(s.Coarse) != c.coars[i] || [3]int{s.RawFrom, s.FineFrom, s.CoarseFrom} != c.from || s.FineTo != 70 || s.CoarseTo != 60 {
				t.Errorf("%v: %v", c, s)
			}
		}
		if b.Horizon != 70 {
			t.Errorf("%v: %v", c, b.Horizon)
		}
	}
}

// I2: if one shelf refuses, none is changed, whichever it is. No list that may be played goes so far, so the base is given here.
func TestNoneIfOneRefuses(t *testing.T) {
	full := api.Shelf{Series: series("host=b"), FineTo: 5040, CoarseTo: 5040, Raw: []api.Sample{{Time: 5045, Value: 1}}}
	for i := range api.MaxSamples {
		full.Fine = append(full.Fine, one(10*i, 1))
	}
	odd := shelf.New(series("host=b"))
	odd.RawFrom = -1
	for _, c := range []struct {
		name string
		bad  api.Shelf
		d    api.Do
		want api.Errno
	}{
		{"too many buckets", full, roll(5100), api.ErrMany},
		{"a shelf that is wrong, rolled", odd, roll(60), api.ErrFit},
		{"a shelf that is wrong, forgets", odd, forget(api.Raw, 60), api.ErrFit},
	} {
		for at := range 3 {
			l := []api.Shelf{shelf.New(series("host=a")), shelf.New(series("host=c"))}
			for i := range l {
				l[i].Raw, l[i].FineTo = []api.Sample{{Time: 5, Value: 1}}, 10
				l[i].Fine = []api.Bucket{one(0, 1)}
			}
			b := going{api.Base{Shelves: slices.Insert(l, at, c.bad), Horizon: 10}}
			before := told(b.Base)
			fails(t, c.name, b.do(c.d), c.want)
			if told(b.Base) != before {
				t.Errorf("%s at %d: %v", c.name, at, b)
			}
		}
	}
}

// I3: a text's fault, and its place; ahead of what is wrong with the time.
func TestAskFault(t *testing.T) {
	for _, time := range []int{60, -1, api.MaxTime + 1} {
		for text, want := range map[string]api.Answer{
			"":                               {Err: api.ErrForm},
			"   ":                            {Err: api.ErrForm, At: 3},
			"1 +":                            {Err: api.ErrForm, At: 3},
			"1 + oops":                       {Err: api.ErrName, At: 4},
			"sum({}[0])":                     {Err: api.ErrRange, At: 7},
			"sum({}[60]) * 1000001":          {Err: api.ErrRange, At: 14},
			"sum({a,b,c,d,e,f}[60])":         {Err: api.ErrMany, At: 15},
			"all sum (1) )":                  {Err: api.ErrForm, At: 12},
			strings.Repeat("(", api.MaxDeep): {Err: api.ErrMuch, At: api.MaxDeep},
			strings.Repeat(" ", 2001):        {Err: api.ErrMuch},
		} {
			is(t, text, last(t, then(kept(), ask(text, time))...), want)
		}
		if time != 60 {
			fails(t, "a number", last(t, then(kept(), ask("1", time))...), api.ErrRange)
			fails(t, "a window", last(t, then(kept(), ask("sum({}[60])", time))...), api.ErrRange)
		}
		fails(t, "all of a number", last(t, then(kept(), ask("all sum (1)", time))...), api.ErrFit)
	}
}

// I3: what a base comes to, from whichever tiers, and at how many samples and buckets it looked.
func TestAsk(t *testing.T) {
	for _, c := range []struct {
		text string
		time int
		want api.Answer
	}{
		{"7", 0, comes(0, cell("", 7))},
		{"2 - 3", api.MaxTime, comes(0, cell("", -1))},
		{"sum({zz}[60])", 60, comes(0)},
		{"sum({host}[60])", 120, comes(2, cell("host=a", 64), cell("host=b", 2))},
		{"sum({host}[120])", 180, comes(4, cell("host=a", 192), cell("host=b", 6))},
		{"count({host=b}[130])", 190, comes(3, cell("host=b", 3))},
		{"sum({host=b}[130])", 190, comes(3, cell("host=b", 14))},
		{"sum({}[30])", 210, comes(3, cell("host=b", 24), cell("new=n", 256))},
		{"sum({}[21])", 211, comes(2, cell("host=b", 16), cell("new=n", 256))},
		{"sum({}[15])", 210, comes(2, cell("host=b", 16), cell("new=n", 256))},
		{"sum({}[20])", 215, comes(3, cell("host=b", 16), cell("new=n", 768))},
		{"sum({}[20])", 216, comes(3, cell("host=b", 32), cell("new=n", 768))},
		{"sum({new}[1000])", 211, comes(1, cell("new=n", 256))},
		{"sum({new}[1000])", 212, comes(2, cell("new=n", 768))},
		{"sum({new}[1000])", 0, comes(0)},
		{"sum({host=b}[1])", 200, comes(0)},
		{"last({}[100000])", api.MaxTime, comes(0)},
		{"all sum (sum({}[30]))", 210, comes(3, cell("", 280))},
		{"all count by host (last({}[20]))", 216, comes(3, cell("", 1), cell("host=b", 1))},
		{"sum({host}[60]) - sum({host}[60])", 120, comes(4, cell("host=a", 0), cell("host=b", 0))},
		{"sum({host=a}[60]) * sum({host=b}[60])", 120, comes(2)},
		{"sum({host=b}[60]) + max({host=b}[120])", 180, comes(3, cell("host=b", 8))},
		{"0 * (sum({}[20]) + all sum (sum({}[20])))", 216, comes(6)},
	} {
		is(t, c.text, last(t, then(kept(), ask(c.text, c.time))...), c.want)
	}
}

// I3: where a window has something that is gone, its error is told in its turn: of the first one that fails.
func TestGone(t *testing.T) {
	const great, gone = "(1000000 * 1000000 * 1000000)", "sum({host=b}[10])"
	for _, c := range []struct {
		text string
		time int
		want api.Errno
	}{
		{gone, 60, api.ErrGone},
		{gone, 180, api.ErrGone},
		{gone, 190, api.OK},
		{gone, 191, api.ErrGone},
		{gone, 204, api.ErrGone},
		{gone, 205, api.OK},
		{gone, 0, api.OK},
		{"sum({}[10])", 60, api.ErrGone},
		{"sum({new}[10])", 60, api.OK},
		{"sum({zz}[10])", 60, api.OK},
		{"sum({host}[120])", 120, api.ErrGone},
		{"sum({host}[60])", 120, api.OK},
		{"0 * " + gone, 60, api.ErrGone},
		{"all count (" + gone + ")", 60, api.ErrGone},
		{"sum({zz}[10]) + " + gone, 60, api.ErrGone},
		{gone + " + " + great, 60, api.ErrGone},
		{great + " + " + gone, 60, api.ErrRange},
		{"all sum (" + gone + ") - " + great, 60, api.ErrGone},
		{"(1 + " + gone + ") * (" + great + " + 1)", 60, api.ErrGone},
		{"sum({new}[10]) * " + great, 60, api.ErrRange},
		{"all sum (sum({new}[10])) + " + gone + " + " + great, 60, api.ErrGone},
	} {
		got := last(t, then(kept(), ask(c.text, c.time))...)
		if c.want != api.OK {
			fails(t, c.text, got, c.want)
		} else if got.Err != api.OK {
			t.Errorf("%s at %d: %v", c.text, c.time, got)
		}
	}
}

// I3: Cost counts, beside an error nothing, though some was looked at.
func TestCostOfRefused(t *testing.T) {
	l := []api.Do{add("host=a", 5, 1), add("host=b", 5, 1), roll(60), forget(api.Coarse, 60), forget(api.Fine, 60), forget(api.Raw, 60), add("a=a", 61, 5)}
	is(t, "what is there", last(t, then(l, ask("sum({!host}[100]) ", 62))...), comes(1, cell("a=a", 5)))
	fails(t, "what is gone", last(t, then(l, ask("sum({}[100])", 62))...), api.ErrGone)
	fails(t, "what is too great", last(t, then(l, ask("sum({!host}[100]) * 1000000 * 1000000 * 1000", 62))...), api.ErrRange)
}

// I3: a window begins with time less Range, or 0, and ends ahead of time.
func TestWindowEdges(t *testing.T) {
	l := []api.Do{add("", 0, 1), add("", 9, 2), add("", 10, 4), add("", 59, 8), add("", 60, 16), add("", api.MaxTime-1, 32), add("", api.MaxTime, 64)}
	for _, c := range []struct{ span, time, want int }{
		{1, 0, 0}, {1, 1, 1}, {100000, 1, 1}, {100000, 9, 1}, {100000, 10, 3}, {100000, 11, 7}, {10, 10, 3}, {10, 11, 6}, {9, 10, 2}, {50, 60, 12}, {51, 60, 14}, {60, 60, 15}, {60, 61, 30}, {61, 61, 31},
		{100, 60, 15}, {1, 61, 16}, {100000, api.MaxTime, 32}, {1, api.MaxTime, 32}, {100000, 100060, 16}, {100000, 100061, 0},
	} {
		for _, before := range [][]api.Do{nil, {roll(10)}, {roll(65)}, {roll(api.MaxTime)}} {
			all := then(then(l, before...), ask(fmt.Sprintf("sum({}[%d])", c.span), c.time))
			got := last(t, all...)
			if c.want == 0 {
				is(t, told(c), got, comes(0))
			} else if got.Err != api.OK || len(got.Cells) != 1 || got.Cells[0].Value != c.want {
				t.Errorf("%v: %v", c, got)
			}
		}
	}
}

// Example 9: of two samples in one coarse bucket each series costs one.
func TestExample(t *testing.T) {
	l := []api.Do{add("host=a", 5, 1), add("host=a", 55, 2), add("host=b", 0, 3), add("host=b", 59, 4)}
	is(t, "raw", last(t, then(l, ask("sum({}[60])", 60))...), comes(4, cell("host=a", 3), cell("host=b", 7)))
	is(t, "coarse", last(t, then(l, roll(60), ask("sum({}[60])", 60))...), comes(2, cell("host=a", 3), cell("host=b", 7)))
	is(t, "fine", last(t, then(l, roll(50), ask("sum({}[60])", 60))...), comes(4, cell("host=a", 3), cell("host=b", 7)))
}
