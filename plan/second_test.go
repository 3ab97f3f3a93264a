package plan

import (
	"math"
	"math/rand"
	"slices"
	"testing"

	"grainstore/agg"
	"grainstore/api"
	"grainstore/shelf"
)

// some is one of those.
func some[T any](r *rand.Rand, l ...T) T { return l[r.Intn(len(l))] }

// between has the samples from a time on, below another one.
func between(l []api.Sample, from, to int) []api.Sample {
	var out []api.Sample
	for _, x := range l {
		if from <= x.Time && x.Time < to {
			out = append(out, x)
		}
	}
	return out
}

// trueShelf is a shelf that came by what is done with shelves, and all samples that ever came to it.
func trueShelf(t *testing.T, r *rand.Rand) (api.Shelf, []api.Sample) {
	s, err := shelf.New(nil), api.OK
	var all []api.Sample
	time, gap := r.Intn(30), 1+r.Intn(25)
	for range 10 + r.Intn(40) {
		switch r.Intn(10) {
		case 0, 1:
			s, err = shelf.Roll(s, r.Intn(time+20))
		case 2, 3:
			s, err = shelf.Forget(s, r.Intn(3), r.Intn(time+20)/some(r, 1, 2))
		default:
			time = max(time+1+r.Intn(gap), s.FineTo)
			all = append(all, api.Sample{Time: time, Value: r.Intn(200) - 100})
			s, err = shelf.Append(s, all[len(all)-1])
		}
		if err != api.OK {
			t.Fatal(err)
		}
	}
	return s, all
}

// somePieces are all ways on from a time: one tick of raw, one fine bucket, one coarse one, as far as H1 lets them be read.
func somePieces(s api.Shelf, from, to int) []api.Part {
	var out []api.Part
	if from >= s.RawFrom {
		out = append(out, api.Part{Tier: api.Raw, From: from, To: from + 1})
	}
	if from%10 == 0 && from >= s.FineFrom && from+10 <= s.FineTo {
		out = append(out, api.Part{Tier: api.Fine, From: from, To: from + 10})
	}
	if from%60 == 0 && from >= s.CoarseFrom && from+60 <= s.CoarseTo {
		out = append(out, api.Part{Tier: api.Coarse, From: from, To: from + 60})
	}
	return slices.DeleteFunc(out, func(p api.Part) bool { return p.To > to })
}

// costOf counts what a part has, entry by entry.
func costOf(s api.Shelf, p api.Part) int {
	n := 0
	for _, x := range s.Raw {
		if p.Tier == api.Raw && p.From <= x.Time && x.Time < p.To {
			n++
		}
	}
	for tier, l := range map[int][]api.Bucket{api.Fine: s.Fine, api.Coarse: s.Coarse} {
		for _, b := range l {
			if p.Tier == tier && p.From <= b.At && b.At < p.To {
				n++
			}
		}
	}
	return n
}

// cheapest tries all covers of a window, from its end on: the least cost, and whether there is one at all.
func cheapest(s api.Shelf, from, to int) (int, bool) {
	const never = math.MaxInt / 2
	best := make([]int, to-from+1)
	for at := to - 1; at >= from; at-- {
		best[at-from] = never
		for _, p := range somePieces(s, at, to) {
			best[at-from] = min(best[at-from], costOf(s, p)+best[p.To-from])
		}
	}
	return best[0], best[0] < never
}

// someCover is any cover of a window, its pieces now and then joined; it goes no way that leads to what is gone.
func someCover(r *rand.Rand, s api.Shelf, from, to int) []api.Part {
	var out []api.Part
	for from < to {
		l := slices.DeleteFunc(somePieces(s, from, to), func(p api.Part) bool {
			_, ok := cheapest(s, p.To, to)
			return !ok
		})
		p := some(r, l...)
		if n := len(out); n > 0 && out[n-1].Tier == p.Tier && r.Intn(3) > 0 {
			out[n-1].To = p.To
		} else {
			out = append(out, p)
		}
		from = p.To
	}
	return out
}

// H1, H2: what is chosen is a cover, and the cheapest one; if there is none, it is gone. Whichever tiers are read, it is exact: of all that ever came.
func TestExactAndCheap(t *testing.T) {
	r := rand.New(rand.NewSource(8))
	read, gone, tiers := 0, 0, [4]int{}
	for range 2500 {
		s, all := trueShelf(t, r)
		from := some(r, r.Intn(s.FineTo+20), r.Intn(s.RawFrom+20)/10*10, r.Intn(s.FineFrom+60)/60*60)
		to := from + some(r, r.Intn(200), 10*r.Intn(20), 60*r.Intn(4))
		least, ok := cheapest(s, from, to)
		l, err := Choose(s, from, to)
		if !ok {
			gone++
			if err != api.ErrGone || len(l) > 0 {
				t.Fatalf("%v from %d to %d: %v %v, and all is gone", s, from, to, l, err)
			}
			continue
		}
		if err != api.OK || !Covers(s, l, from, to) {
			t.Fatalf("%v from %d to %d: %v %v is no cover", s, from, to, l, err)
		}
		read++
		tiers[min(3, len(l))]++
		want := agg.Of(between(all, from, to))
		if got, n, err := Read(s, l); err != api.OK || got != want || n != least {
			t.Fatalf("%v from %d to %d by %v: %v %d %v, not %v %d", s, from, to, l, got, n, err, want, least)
		}
		any := someCover(r, s, from, to)
		cost := 0
		for _, p := range any {
			cost += costOf(s, p)
		}
		if got, n, err := Read(s, any); err != api.OK || got != want || n != cost || !Covers(s, any, from, to) {
			t.Fatalf("%v from %d to %d by %v: %v %d %v, not %v %d", s, from, to, any, got, n, err, want, cost)
		}
	}
	t.Log("read, gone, by how many parts:", read, gone, tiers)
	if min(read, gone) < 300 || min(tiers[1], tiers[2], tiers[3]) < 50 {
		t.Error("too few of a kind")
	}
}

// H2: nothing is gone until the coarse is: whatever raw and fine ones forget, from coarse buckets on up to the end of what is fine all can be read.
func TestGoneWithCoarse(t *testing.T) {
	r := rand.New(rand.NewSource(9))
	for range 500 {
		s, _ := trueShelf(t, r)
		if _, err := Choose(s, s.CoarseFrom, s.FineTo); err != api.OK {
			t.Fatalf("%v: %v", s, err)
		}
		if _, err := Choose(s, s.CoarseFrom, api.MaxTime); err != api.OK {
			t.Fatalf("%v: %v", s, err)
		}
	}
}

// secondMay is H1, word by word.
func secondMay(s api.Shelf, p api.Part) bool {
	if !(p.From < p.To) {
		return false
	}
	if p.Tier == api.Raw {
		return !(p.From < s.RawFrom) && !(p.To > 1000001)
	}
	if p.Tier == api.Fine {
		return p.From/10*10 == p.From && p.To/10*10 == p.To && !(p.From < s.FineFrom) && !(p.To > s.FineTo)
	}
	return p.Tier == api.Coarse && p.From/60*60 == p.From && p.To/60*60 == p.To && !(p.From < s.CoarseFrom) && !(p.To > s.CoarseTo)
}

// secondCovers is H1, word by word.
func secondCovers(s api.Shelf, l []api.Part, from, to int) bool {
	ahead := from
	for _, p := range l {
		if p.From != ahead || !secondMay(s, p) {
			return false
		}
		ahead = p.To
	}
	return ahead == to
}

// secondChoose is H2, word by word: step by step, and what is of one tier is joined only then.
func secondChoose(s api.Shelf, from, to int) ([]api.Part, api.Errno) {
	if err := shelf.Wrong(s); err != api.OK {
		return nil, err
	}
	if from < 0 || from > to || to > api.MaxTime {
		return nil, api.ErrRange
	}
	var steps []api.Part
	for from < to {
		coarse, fine := api.Part{Tier: api.Coarse, From: from, To: from + 60}, api.Part{Tier: api.Fine, From: from, To: from + 10}
		raw := api.Part{Tier: api.Raw, From: from, To: from + 1}
		for raw.To%10 != 0 && raw.To != to {
			raw.To++
		}
		switch {
		case coarse.To <= to && secondMay(s, coarse):
			steps = append(steps, coarse)
		case fine.To <= to && secondMay(s, fine):
			steps = append(steps, fine)
		case secondMay(s, raw):
			steps = append(steps, raw)
		default:
			return nil, api.ErrGone
		}
		from = steps[len(steps)-1].To
	}
	for i := len(steps) - 1; i > 0; i-- {
		if steps[i-1].Tier == steps[i].Tier {
			steps[i-1].To = steps[i].To
			steps = slices.Delete(steps, i, i+1)
		}
	}
	return steps, api.OK
}

// secondRead is H2, entry by entry.
func secondRead(s api.Shelf, l []api.Part) (api.Sum, int, api.Errno) {
	if err := shelf.Wrong(s); err != api.OK {
		return api.Sum{}, 0, err
	}
	var out api.Sum
	n := 0
	for i, p := range l {
		if !secondMay(s, p) || i > 0 && p.From != l[i-1].To {
			return api.Sum{}, 0, api.ErrFit
		}
		var part api.Sum
		for _, x := range s.Raw {
			if p.Tier == api.Raw && p.From <= x.Time && x.Time < p.To {
				part = agg.Join(part, agg.One(x.Value))
				n++
			}
		}
		for tier, l := range [][]api.Bucket{nil, s.Fine, s.Coarse} {
			for _, b := range l {
				if p.Tier == tier && p.From <= b.At && b.At < p.To {
					part = agg.Join(part, b.Sum)
					n++
				}
			}
		}
		out = agg.Join(out, part)
	}
	return out, n, api.OK
}

// someBuckets are right ones within a span, with sums that need not be of anything.
func someBuckets(r *rand.Rand, from, to, step int) []api.Bucket {
	var out []api.Bucket
	for at := from; at < to; at += step {
		if r.Intn(3) > 0 {
			out = append(out, api.Bucket{At: at, Sum: api.Sum{Count: 1 + r.Intn(step), Total: r.Intn(99), Min: r.Intn(9), Max: r.Intn(9), First: r.Intn(9), Last: r.Intn(9), Rise: r.Intn(9)}})
		}
	}
	return out
}

// someShelf is a shelf that need not have come by what is done with shelves, and now and then is a wrong one.
func someShelf(r *rand.Rand) api.Shelf {
	var s api.Shelf
	s.CoarseFrom = 60 * r.Intn(4)
	s.CoarseTo = s.CoarseFrom + 60*r.Intn(4)
	s.FineTo = s.CoarseTo + 10*r.Intn(15)
	s.FineFrom = 10 * r.Intn(s.CoarseTo/10+1)
	s.RawFrom = r.Intn(s.FineTo + 1)
	for time := s.RawFrom; time < s.FineTo+100; time += 1 + r.Intn(20) {
		s.Raw = append(s.Raw, api.Sample{Time: time, Value: r.Intn(20) - 10})
	}
	s.Fine = someBuckets(r, s.FineFrom, s.FineTo, api.FineStep)
	s.Coarse = someBuckets(r, s.CoarseFrom, s.CoarseTo, api.CoarseStep)
	if r.Intn(4) == 0 {
		bound := some(r, &s.RawFrom, &s.FineFrom, &s.FineTo, &s.CoarseFrom, &s.CoarseTo)
		*bound += some(r, -60, -10, -1, 1, 10, 60)
	}
	return s
}

// someParts follow each other, or nearly so.
func someParts(r *rand.Rand, s api.Shelf) []api.Part {
	var out []api.Part
	at := some(r, s.RawFrom, s.FineFrom, s.CoarseFrom, 10*r.Intn(30), r.Intn(300))
	for range r.Intn(5) {
		p := api.Part{Tier: r.Intn(3), From: at}
		step := []int{1 + r.Intn(20), 10, 60}[p.Tier]
		p.To = at + step*(1+r.Intn(3))
		switch r.Intn(25) {
		case 0:
			p.From += some(r, -60, -10, -1, 1, 10, 60)
		case 1:
			p.To += some(r, -60, -10, -1, 1, 10, 60)
		case 2:
			p.Tier = some(r, -1, 3)
		}
		out = append(out, p)
		at = p.To
	}
	return out
}

// H1, H2: on shelves that are right, and on such that may not be, the same comes as by the document's words.
func TestSecond(t *testing.T) {
	r := rand.New(rand.NewSource(10))
	came := map[api.Errno]int{}
	covers := 0
	for range 30000 {
		s := someShelf(r)
		from := some(r, r.Intn(400)-5, 10*r.Intn(40), 60*r.Intn(6), s.RawFrom, s.FineFrom, s.CoarseFrom)
		to := some(r, from+r.Intn(300)-5, from+10*r.Intn(30), 60*r.Intn(10), s.FineTo, s.CoarseTo)
		l, err := Choose(s, from, to)
		want, wantErr := secondChoose(s, from, to)
		if err != wantErr || !slices.Equal(l, want) {
			t.Fatalf("%v from %d to %d: %v %v, not %v %v", s, from, to, l, err, want, wantErr)
		}
		came[err]++
		for _, l := range [][]api.Part{l, someParts(r, s), someParts(r, s)} {
			sum, n, err := Read(s, l)
			wantSum, wantN, wantErr := secondRead(s, l)
			if err != wantErr || sum != wantSum || n != wantN {
				t.Fatalf("%v by %v: %v %d %v, not %v %d %v", s, l, sum, n, err, wantSum, wantN, wantErr)
			}
			if len(l) > 0 && r.Intn(3) > 0 {
				from, to = l[0].From, l[len(l)-1].To
			}
			got := Covers(s, l, from, to)
			if got != secondCovers(s, l, from, to) {
				t.Fatalf("%v by %v, from %d to %d: %v", s, l, from, to, got)
			}
			if got && len(l) > 0 {
				covers++
			}
		}
	}
	t.Log("covers, and what came:", covers, came)
	if min(covers, came[api.OK], came[api.ErrGone], came[api.ErrRange], came[api.ErrFit]) < 1000 {
		t.Error("too few of a kind")
	}
}

// Z1: no panic, whatever comes, and what is refused is refused by each.
func TestAnything(t *testing.T) {
	r := rand.New(rand.NewSource(11))
	number := func() int {
		return some(r, 0, 0, 0, 1, 5, 10, 60, 120, -1, -60, api.MaxTime, api.MaxTime+1, 999960, math.MaxInt, math.MinInt, r.Int())
	}
	buckets := func() []api.Bucket {
		out := make([]api.Bucket, r.Intn(3))
		for i := range out {
			out[i] = api.Bucket{At: number(), Sum: api.Sum{Count: number(), Total: number(), Rise: number()}}
		}
		return out
	}
	for range 50000 {
		s := api.Shelf{RawFrom: number(), FineFrom: number(), FineTo: number(), CoarseFrom: number(), CoarseTo: number()}
		for range r.Intn(3) {
			s.Raw = append(s.Raw, api.Sample{Time: number(), Value: number()})
		}
		s.Fine, s.Coarse = buckets(), buckets()
		var l []api.Part
		for range r.Intn(4) {
			l = append(l, api.Part{Tier: some(r, 0, 1, 2, number()), From: number(), To: number()})
		}
		from, to := number(), number()
		if got := Covers(s, l, from, to); got != secondCovers(s, l, from, to) {
			t.Fatalf("%v by %v, from %d to %d: %v", s, l, from, to, got)
		}
		wrong := shelf.Wrong(s)
		sum, n, err := Read(s, l)
		if wrong != api.OK && err != wrong || err != api.OK && (sum != api.Sum{} || n != 0) {
			t.Fatalf("%v by %v: %v %d %v", s, l, sum, n, err)
		}
		chosen, err := Choose(s, from, to)
		if wrong != api.OK && err != wrong || err != api.OK && len(chosen) > 0 || err == api.OK && !Covers(s, chosen, from, to) {
			t.Fatalf("%v from %d to %d: %v %v", s, from, to, chosen, err)
		}
	}
}

// Z1: as many parts as there can be, and all that may be kept, end soon.
func TestMuch(t *testing.T) {
	s := api.Shelf{FineTo: 5000, CoarseTo: 4980}
	for i := range api.MaxSamples {
		s.Raw = append(s.Raw, api.Sample{Time: 2000 * i, Value: 1})
		s.Fine = append(s.Fine, one(10*i, 1))
	}
	var l []api.Part
	for i := range api.MaxTime + 1 {
		l = append(l, api.Part{Tier: api.Raw, From: i, To: i + 1})
	}
	if sum, n, err := Read(s, l); err != api.OK || sum.Count != api.MaxSamples || n != api.MaxSamples {
		t.Errorf("%v %d %v", sum, n, err)
	}
	if !Covers(s, l, 0, api.MaxTime+1) {
		t.Error("no cover")
	}
	if l, err := Choose(s, 0, api.MaxTime); err != api.OK || !slices.Equal(l, parts(api.Coarse, 0, 4980, api.Fine, 4980, 5000, api.Raw, 5000, api.MaxTime)) {
		t.Errorf("%v %v", l, err)
	}
}

// H2: sums that go over Go's int are joined as Go has them, in turn.
func TestGreatSums(t *testing.T) {
	great := api.Sum{Count: 10, Total: math.MaxInt, Min: math.MinInt, Max: math.MaxInt, First: math.MinInt, Last: math.MaxInt, Rise: math.MaxInt}
	s := api.Shelf{Fine: []api.Bucket{{At: 0, Sum: great}, {At: 10, Sum: great}}, FineTo: 60}
	if got, n, err := Read(s, parts(api.Fine, 0, 10, api.Fine, 10, 20)); err != api.OK || got != agg.Join(great, great) || n != 2 {
		t.Errorf("%v %d %v", got, n, err)
	}
}
