package shelf

import (
	"math"
	"math/rand"
	"testing"

	"grainstore/agg"
	"grainstore/api"
	"grainstore/codec"
	"grainstore/names"
	"grainstore/roll"
)

// greatest counts up to the greatest multiple, as the document says it.
func greatest(step, upTo int) int {
	n := 0
	for n+step <= upTo {
		n += step
	}
	return n
}

// between has the samples from a time on, below another one.
func between(l []api.Sample, from, to int) []api.Sample {
	var out []api.Sample
	for _, x := range l {
		if from <= x.Time && x.Time < to {
			out = append(out, x)
		}
	}
	return out
}

// trueBuckets has what a tier must have of all that ever came, bucket by bucket.
func trueBuckets(all []api.Sample, from, to, step int) []api.Bucket {
	var out []api.Bucket
	for at := from; at < to; at += step {
		if l := between(all, at, at+step); len(l) > 0 {
			out = append(out, api.Bucket{At: at, Sum: agg.Of(l)})
		}
	}
	return out
}

// trueShelf is what a shelf must be, by its bounds and all that ever came.
func trueShelf(s api.Shelf, all []api.Sample) api.Shelf {
	s.Raw = between(all, s.RawFrom, api.MaxTime+1)
	s.Fine = trueBuckets(all, s.FineFrom, s.FineTo, api.FineStep)
	s.Coarse = trueBuckets(all, s.CoarseFrom, s.CoarseTo, api.CoarseStep)
	return s
}

// rolledBounds moves the bounds that Roll moves, by the document's words, and nothing else.
func rolledBounds(s api.Shelf, to int) api.Shelf {
	if n := greatest(api.FineStep, to); s.FineTo < n {
		s.FineTo = n
	}
	if n := greatest(api.CoarseStep, s.FineTo); s.CoarseTo < n {
		s.CoarseTo = n
	}
	return s
}

// forgottenBounds does likewise, for Forget.
func forgottenBounds(s api.Shelf, tier, to int) api.Shelf {
	end, step := s.CoarseTo, roll.Step(tier)
	from := &s.CoarseFrom
	switch tier {
	case api.Raw:
		from, end, step = &s.RawFrom, s.FineTo, 1
	case api.Fine:
		from = &s.FineFrom
	}
	if to < end {
		end = to
	}
	if n := greatest(step, end); n > *from {
		*from = n
	}
	return s
}

// G1, G2: what is kept is true: rolled, forgotten, or not, each tier has, within its bounds, what all that ever came comes to.
func TestKeptIsTrue(t *testing.T) {
	r := rand.New(rand.NewSource(7))
	rolled, forgot, coarse := 0, 0, 0
	for range 300 {
		s := New(series("host=a"))
		var all []api.Sample
		time, gap := r.Intn(100), 1+r.Intn(40)
		for range 60 {
			got, err, want := api.Shelf{}, api.OK, s
			switch r.Intn(8) {
			case 0, 1:
				to := r.Intn(time + 50)
				got, err = Roll(s, to)
				want = rolledBounds(s, to)
				rolled++
			case 2:
				tier, to := r.Intn(3), r.Intn(time+50)
				got, err = Forget(s, tier, to)
				want = forgottenBounds(s, tier, to)
				forgot++
			default:
				time = max(time+1+r.Intn(gap), s.FineTo)
				x := api.Sample{Time: time, Value: r.Intn(200) - 100}
				all = append(all, x)
				got, err = Append(s, x)
			}
			want = trueShelf(want, all)
			if err != api.OK || !same(got, want) || Wrong(got) != api.OK {
				t.Fatalf("%v %v (%v), not %v", got, err, Wrong(got), want)
			}
			coarse += min(1, len(got.Coarse))
			s = got
		}
	}
	t.Log("rolled, forgot, had coarse ones:", rolled, forgot, coarse)
	if min(rolled, forgot, coarse) < 1000 {
		t.Error("too few of a kind")
	}
}

// some is one of those.
func some[T any](r *rand.Rand, l ...T) T { return l[r.Intn(len(l))] }

// someSpan is a span of multiples, now and then without room.
func someSpan(r *rand.Rand, from, to, step int) (int, int) {
	a := from/step + r.Intn(to/step-from/step+1)
	b := a + r.Intn(to/step-a+1)
	return a * step, b * step
}

// someBuckets are right ones within a span, with sums that need not be of anything.
func someBuckets(r *rand.Rand, from, to, step int) []api.Bucket {
	var out []api.Bucket
	for at := from; at < to; at += step {
		if r.Intn(3) > 0 {
			out = append(out, api.Bucket{At: at, Sum: api.Sum{Count: 1 + r.Intn(step), Total: r.Intn(99), Min: r.Intn(9), Max: r.Intn(9), First: r.Intn(9), Last: r.Intn(9), Rise: r.Intn(9)}})
		}
	}
	return out
}

// someShelf is a right shelf, that need not have come by what was done with another one.
func someShelf(r *rand.Rand) api.Shelf {
	s := api.Shelf{Series: some(r, series(""), series("host=a"), series("a=b c=d e=f g=h"))}
	s.CoarseFrom, s.CoarseTo = someSpan(r, 0, 300, api.CoarseStep)
	s.FineTo = s.CoarseTo + 10*r.Intn(15)
	s.FineFrom = 10 * r.Intn(s.CoarseTo/10+1)
	s.RawFrom = r.Intn(s.FineTo + 1)
	for time := s.RawFrom; time < s.FineTo+100; time += 1 + r.Intn(20) {
		s.Raw = append(s.Raw, api.Sample{Time: time, Value: r.Intn(20) - 10})
	}
	s.Fine = someBuckets(r, s.FineFrom, s.FineTo, api.FineStep)
	s.Coarse = someBuckets(r, s.CoarseFrom, s.CoarseTo, api.CoarseStep)
	return s
}

// bent is a shelf with a thing or two that may be wrong.
func bent(r *rand.Rand, s api.Shelf) api.Shelf {
	for range r.Intn(3) {
		bound := some(r, &s.RawFrom, &s.FineFrom, &s.FineTo, &s.CoarseFrom, &s.CoarseTo)
		switch r.Intn(8) {
		case 0, 1:
			*bound += some(r, -60, -10, -1, 1, 10, 60)
		case 2, 3:
			*bound = some(r, -60, 0, s.RawFrom, s.FineFrom, s.FineTo, s.CoarseFrom, s.CoarseTo, 999960, api.MaxTime, 1000020)
		case 4:
			s.Series = some(r, series("b=b a=a"), series("a="), series("a=b c=d e=f g=h i=j"))
		case 5:
			if n := len(s.Raw); n > 0 {
				s.Raw[r.Intn(n)].Time += some(r, -20, -1, 1, 20, api.MaxTime)
			}
		case 6:
			if n := len(s.Fine); n > 0 {
				s.Fine[r.Intn(n)].At += some(r, -10, -1, 10, 60)
			}
		case 7:
			if n := len(s.Coarse); n > 0 {
				s.Coarse[r.Intn(n)].At += some(r, -60, -10, 60, 600)
			}
		}
	}
	return s
}

// isMultiple counts, as the document says it, what is from 0 to MaxTime.
func isMultiple(n, step int) bool { return n >= 0 && n <= api.MaxTime && n/step*step == n }

// secondWrong is G1, word by word.
func secondWrong(s api.Shelf) api.Errno {
	for _, err := range []api.Errno{names.Wrong(s.Series), codec.Wrong(s.Raw).Err, roll.Wrong(s.Fine, api.Fine).Err, roll.Wrong(s.Coarse, api.Coarse).Err} {
		if err != api.OK {
			return err
		}
	}
	if !isMultiple(s.FineFrom, 10) || !isMultiple(s.FineTo, 10) || s.FineFrom > s.FineTo {
		return api.ErrFit
	}
	if !isMultiple(s.CoarseFrom, 60) || !isMultiple(s.CoarseTo, 60) || s.CoarseFrom > s.CoarseTo {
		return api.ErrFit
	}
	if s.RawFrom < 0 || s.RawFrom > s.FineTo || s.FineFrom > s.CoarseTo || s.CoarseTo > s.FineTo {
		return api.ErrFit
	}
	for _, x := range s.Raw {
		if x.Time < s.RawFrom {
			return api.ErrFit
		}
	}
	for _, b := range s.Fine {
		if b.At < s.FineFrom || s.FineTo <= b.At {
			return api.ErrFit
		}
	}
	for _, b := range s.Coarse {
		if b.At < s.CoarseFrom || s.CoarseTo <= b.At {
			return api.ErrFit
		}
	}
	return api.OK
}

// secondAppend is G2, word by word.
func secondAppend(s api.Shelf, x api.Sample) (api.Shelf, api.Errno) {
	if err := secondWrong(s); err != api.OK {
		return api.Shelf{}, err
	}
	if x.Time < 0 || x.Time > api.MaxTime || x.Value < -api.MaxValue || x.Value > api.MaxValue {
		return api.Shelf{}, api.ErrRange
	}
	if x.Time < s.FineTo {
		return api.Shelf{}, api.ErrLate
	}
	for _, y := range s.Raw {
		if x.Time <= y.Time {
			return api.Shelf{}, api.ErrLate
		}
	}
	if len(s.Raw) == api.MaxSamples {
		return api.Shelf{}, api.ErrMany
	}
	s.Raw = append(append([]api.Sample{}, s.Raw...), x)
	return s, api.OK
}

// secondRoll is G2, bucket by bucket.
func secondRoll(s api.Shelf, to int) (api.Shelf, api.Errno) {
	if err := secondWrong(s); err != api.OK {
		return api.Shelf{}, err
	}
	if to < 0 || to > api.MaxTime {
		return api.Shelf{}, api.ErrRange
	}
	out := rolledBounds(s, to)
	out.Fine = append([]api.Bucket{}, s.Fine...)
	out.Fine = append(out.Fine, trueBuckets(s.Raw, s.FineTo, out.FineTo, 10)...)
	out.Coarse = append([]api.Bucket{}, s.Coarse...)
	for at := s.CoarseTo; at < out.CoarseTo; at += 60 {
		if x := roll.Of(out.Fine, at, at+60); x.Count > 0 {
			out.Coarse = append(out.Coarse, api.Bucket{At: at, Sum: x})
		}
	}
	if len(out.Fine) > api.MaxSamples || len(out.Coarse) > api.MaxSamples {
		return api.Shelf{}, api.ErrMany
	}
	return out, api.OK
}

// secondForget is G2, word by word.
func secondForget(s api.Shelf, tier, to int) (api.Shelf, api.Errno) {
	if err := secondWrong(s); err != api.OK {
		return api.Shelf{}, err
	}
	if to < 0 || to > api.MaxTime {
		return api.Shelf{}, api.ErrRange
	}
	if tier != api.Raw && tier != api.Fine && tier != api.Coarse {
		return api.Shelf{}, api.ErrKind
	}
	out := forgottenBounds(s, tier, to)
	for len(out.Raw) > 0 && out.Raw[0].Time < out.RawFrom {
		out.Raw = out.Raw[1:]
	}
	for len(out.Fine) > 0 && out.Fine[0].At < out.FineFrom {
		out.Fine = out.Fine[1:]
	}
	for len(out.Coarse) > 0 && out.Coarse[0].At < out.CoarseFrom {
		out.Coarse = out.Coarse[1:]
	}
	return out, api.OK
}

// G1, G2: on shelves that are right, and on such that may not be, the same comes as by the document's words.
func TestSecond(t *testing.T) {
	r := rand.New(rand.NewSource(5))
	right, wrong := 0, 0
	for range 8000 {
		s := bent(r, someShelf(r))
		err := Wrong(s)
		if want := secondWrong(s); err != want {
			t.Fatalf("%v: %v, not %v", s, err, want)
		}
		if err == api.OK {
			right++
		} else {
			wrong++
		}
		to, tier := some(r, -1, r.Intn(600), r.Intn(600), r.Intn(600), api.MaxTime, api.MaxTime+1), r.Intn(5)-1
		x := api.Sample{Time: to, Value: some(r, 0, -5, api.MaxValue, api.MaxValue+1)}
		got, err := Append(s, x)
		want, wantErr := secondAppend(s, x)
		if err != wantErr || !same(got, want) {
			t.Fatalf("%v and %v: %v %v, not %v %v", s, x, got, err, want, wantErr)
		}
		got, err = Roll(s, to)
		want, wantErr = secondRoll(s, to)
		if err != wantErr || !same(got, want) {
			t.Fatalf("%v rolled to %d: %v %v, not %v %v", s, to, got, err, want, wantErr)
		}
		got, err = Forget(s, tier, to)
		want, wantErr = secondForget(s, tier, to)
		if err != wantErr || !same(got, want) {
			t.Fatalf("%v, tier %d forgets to %d: %v %v, not %v %v", s, tier, to, got, err, want, wantErr)
		}
	}
	t.Log("right, wrong:", right, wrong)
	if min(right, wrong) < 2000 {
		t.Error("too few of a kind")
	}
}

// Z1: no panic, whatever comes; what comes of a right shelf is one again.
func TestAnything(t *testing.T) {
	r := rand.New(rand.NewSource(6))
	number := func() int {
		return some(r, 0, 0, 0, 1, 5, 10, 60, 120, -1, -60, api.MaxTime, 999960, math.MaxInt, math.MinInt, r.Int())
	}
	word := func() string { return some(r, "", "a", "b", "A", "\xff") }
	buckets := func() []api.Bucket {
		out := make([]api.Bucket, r.Intn(3))
		for i := range out {
			out[i] = api.Bucket{At: number(), Sum: api.Sum{Count: number(), Total: number(), Min: number(), Max: number(), First: number(), Last: number(), Rise: number()}}
		}
		return out
	}
	holds := func(s, got api.Shelf, err api.Errno) {
		t.Helper()
		if want := Wrong(s); want != api.OK && err != want {
			t.Fatalf("%v: %v, not %v", s, err, want)
		}
		if err != api.OK && !same(got, api.Shelf{}) || err == api.OK && Wrong(got) != api.OK {
			t.Fatalf("%v: %v %v", s, got, err)
		}
	}
	for range 50000 {
		s := empty(number(), number(), number(), number(), number())
		for range r.Intn(3) {
			s.Series = append(s.Series, api.Label{Key: word(), Val: word()})
			s.Raw = append(s.Raw, api.Sample{Time: number(), Value: number()})
		}
		s.Fine, s.Coarse = buckets(), buckets()
		New(s.Series)
		got, err := Append(s, api.Sample{Time: number(), Value: number()})
		holds(s, got, err)
		got, err = Roll(s, number())
		holds(s, got, err)
		got, err = Forget(s, number(), number())
		holds(s, got, err)
	}
}

// Z1: sums that go over Go's int are still joined, and end.
func TestGreatSums(t *testing.T) {
	great := api.Sum{Count: 10, Total: math.MaxInt, Min: math.MinInt, Max: math.MaxInt, First: math.MinInt, Last: math.MaxInt, Rise: math.MaxInt}
	s := api.Shelf{Fine: []api.Bucket{{At: 0, Sum: great}, {At: 10, Sum: great}}, FineTo: 60}
	got, err := Roll(s, 60)
	want := s
	want.Coarse, want.CoarseTo = []api.Bucket{{At: 0, Sum: agg.Join(great, great)}}, 60
	is(t, "great sums", got, err, want)
}
