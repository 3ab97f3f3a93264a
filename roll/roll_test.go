package roll

import (
	"math"
	"math/rand"
	"slices"
	"testing"

	"grainstore/agg"
	"grainstore/api"
	"grainstore/codec"
)

// at is a bucket that only Wrong may look at: what its samples come to, beside their Count, is not told.
func at(time, count int) api.Bucket {
	return api.Bucket{At: time, Sum: api.Sum{Count: count}}
}

// bucket is what values come to, from a time on.
func bucket(time int, values ...int) api.Bucket {
	var l []api.Sample
	for i, v := range values {
		l = append(l, api.Sample{Time: time + i, Value: v})
	}
	return api.Bucket{At: time, Sum: agg.Of(l)}
}

// row has n fine buckets, one behind the other.
func row(n int) []api.Bucket {
	var out []api.Bucket
	for i := range n {
		out = append(out, at(i*api.FineStep, 1))
	}
	return out
}

// C1.
func TestStep(t *testing.T) {
	for _, c := range []struct{ tier, want int }{
		{api.Raw, 0}, {api.Fine, api.FineStep}, {api.Coarse, api.CoarseStep},
		{3, 0}, {-1, 0}, {10, 0}, {60, 0}, {math.MinInt, 0}, {math.MaxInt, 0},
	} {
		if got := Step(c.tier); got != c.want {
			t.Errorf("of %d: %d, not %d", c.tier, got, c.want)
		}
	}
}

// C1: what is wrong with one bucket, by its tier.
func TestWrongBucket(t *testing.T) {
	for _, c := range []struct {
		name         string
		b            api.Bucket
		fine, coarse api.Errno
	}{
		{"first", at(0, 1), api.OK, api.OK},
		{"second fine one", at(10, 1), api.OK, api.ErrRange},
		{"second coarse one", at(60, 1), api.OK, api.OK},
		{"last fine one", at(api.MaxTime, 1), api.OK, api.ErrRange},
		{"last coarse one", at(999960, 1), api.OK, api.OK},
		{"behind the last fine one", at(api.MaxTime+10, 1), api.ErrRange, api.ErrRange},
		{"behind the last coarse one", at(1000020, 1), api.ErrRange, api.ErrRange},
		{"ahead of 0", at(-60, 1), api.ErrRange, api.ErrRange},
		{"one tick late", at(61, 1), api.ErrRange, api.ErrRange},
		{"one tick early", at(59, 1), api.ErrRange, api.ErrRange},
		{"halfway", at(5, 1), api.ErrRange, api.ErrRange},
		{"least time", at(math.MinInt, 1), api.ErrRange, api.ErrRange},
		{"greatest time", at(math.MaxInt, 1), api.ErrRange, api.ErrRange},
		{"no samples", at(0, 0), api.ErrRange, api.ErrRange},
		{"fewer than none", at(0, -1), api.ErrRange, api.ErrRange},
		{"fine one is full", at(0, 10), api.OK, api.OK},
		{"one too many for fine", at(0, 11), api.ErrRange, api.OK},
		{"coarse one is full", at(0, 60), api.ErrRange, api.OK},
		{"one too many for coarse", at(0, 61), api.ErrRange, api.ErrRange},
		{"least Count", at(0, math.MinInt), api.ErrRange, api.ErrRange},
		{"greatest Count", at(0, math.MaxInt), api.ErrRange, api.ErrRange},
		{"only Count is asked", api.Bucket{Sum: api.Sum{Count: 1, Total: math.MaxInt, Min: 5, Max: -5, First: 9, Last: math.MinInt, Rise: -1}}, api.OK, api.OK},
	} {
		for tier, want := range []api.Errno{api.Fine: c.fine, api.Coarse: c.coarse} {
			if tier == api.Raw {
				want = api.ErrKind
			}
			if got := Wrong([]api.Bucket{c.b}, tier); got != (api.Fault{Err: want}) {
				t.Errorf("%s, tier %d: %v, not %v", c.name, tier, got, want)
			}
		}
	}
}

// C1: what is wrong with several buckets, and which error is told first.
func TestWrongList(t *testing.T) {
	last := row(api.MaxSamples)
	last[api.MaxSamples-1].At = 1
	for _, c := range []struct {
		name string
		l    []api.Bucket
		tier int
		want api.Fault
	}{
		{"none", nil, api.Fine, api.Fault{}},
		{"empty", []api.Bucket{}, api.Coarse, api.Fault{}},
		{"none of raw", nil, api.Raw, api.Fault{Err: api.ErrKind}},
		{"none of no tier", nil, 3, api.Fault{Err: api.ErrKind}},
		{"none of a tier below 0", nil, -1, api.Fault{Err: api.ErrKind}},
		{"no tier comes ahead of too many", row(api.MaxSamples + 1), api.Raw, api.Fault{Err: api.ErrKind}},
		{"no tier comes ahead of a wrong one", []api.Bucket{at(0, 1), at(5, 1)}, 3, api.Fault{Err: api.ErrKind}},
		{"as many as may be", row(api.MaxSamples), api.Fine, api.Fault{}},
		{"one too many", row(api.MaxSamples + 1), api.Fine, api.Fault{Err: api.ErrMany}},
		{"too many come ahead of wrong ones", make([]api.Bucket, api.MaxSamples+1), api.Coarse, api.Fault{Err: api.ErrMany}},
		{"rising", []api.Bucket{at(0, 1), at(10, 1), at(60, 10)}, api.Fine, api.Fault{}},
		{"rising with gaps", []api.Bucket{at(60, 60), at(600, 1)}, api.Coarse, api.Fault{}},
		{"twice", []api.Bucket{at(60, 1), at(60, 1)}, api.Coarse, api.Fault{Err: api.ErrForm, At: 1}},
		{"falling", []api.Bucket{at(0, 1), at(20, 1), at(10, 1)}, api.Fine, api.Fault{Err: api.ErrForm, At: 2}},
		{"out of range comes ahead of falling", []api.Bucket{at(60, 1), at(0, 0)}, api.Coarse, api.Fault{Err: api.ErrRange, At: 1}},
		{"the first one that is wrong", []api.Bucket{at(0, 1), at(0, 1), at(5, 1)}, api.Fine, api.Fault{Err: api.ErrForm, At: 1}},
		{"the first one that is wrong, by range", []api.Bucket{at(20, 1), at(30, 11), at(10, 1)}, api.Fine, api.Fault{Err: api.ErrRange, At: 1}},
		{"the last one", last, api.Fine, api.Fault{Err: api.ErrRange, At: api.MaxSamples - 1}},
	} {
		if got := Wrong(c.l, c.tier); got != c.want {
			t.Errorf("%s: %v, not %v", c.name, got, c.want)
		}
	}
}

// C2.
func TestUp(t *testing.T) {
	l := []api.Sample{{Time: 5, Value: 5}, {Time: 9, Value: 9}, {Time: 10, Value: 2}, {Time: 59, Value: 4}, {Time: 60, Value: -3}, {Time: 180, Value: 1}}
	edge := []api.Sample{{Time: 999959, Value: 1}, {Time: 999960, Value: 2}, {Time: api.MaxTime, Value: 7}}
	for _, c := range []struct {
		name string
		l    []api.Sample
		tier int
		want []api.Bucket
	}{
		{"none", nil, api.Fine, nil},
		{"empty", []api.Sample{}, api.Coarse, nil},
		{"example 3", l[:2], api.Fine, []api.Bucket{bucket(0, 5, 9)}},
		{"fine", l, api.Fine, []api.Bucket{bucket(0, 5, 9), bucket(10, 2), bucket(50, 4), bucket(60, -3), bucket(180, 1)}},
		{"coarse", l, api.Coarse, []api.Bucket{bucket(0, 5, 9, 2, 4), bucket(60, -3), bucket(180, 1)}},
		{"raw", l, api.Raw, nil},
		{"no tier", l, 3, nil},
		{"a tier below 0", l, -1, nil},
		{"fine ones at the end of time", edge, api.Fine, []api.Bucket{bucket(999950, 1), bucket(999960, 2), bucket(1000000, 7)}},
		{"coarse ones at the end of time", edge, api.Coarse, []api.Bucket{bucket(999900, 1), bucket(999960, 2, 7)}},
	} {
		if got := Up(c.l, c.tier); !slices.Equal(got, c.want) {
			t.Errorf("%s: %v, not %v", c.name, got, c.want)
		}
	}
}

// C2.
func TestGreater(t *testing.T) {
	for _, c := range []struct {
		name    string
		l, want []api.Bucket
	}{
		{"none", nil, nil},
		{"empty", []api.Bucket{}, nil},
		{"one", []api.Bucket{bucket(50, 5, 9)}, []api.Bucket{{At: 0, Sum: bucket(0, 5, 9).Sum}}},
		{"in turn", []api.Bucket{bucket(0, 5, 9), bucket(10, 2), bucket(50, 4)}, []api.Bucket{bucket(0, 5, 9, 2, 4)}},
		{"two, and a gap", []api.Bucket{bucket(50, 5), bucket(60, 9), bucket(110, 1), bucket(240, 2)}, []api.Bucket{bucket(0, 5), bucket(60, 9, 1), bucket(240, 2)}},
		{"at the end of time", []api.Bucket{bucket(999950, 1), bucket(999960, 2), bucket(1000000, 7)}, []api.Bucket{bucket(999900, 1), bucket(999960, 2, 7)}},
		{"what was told is joined, whatever it is",
			[]api.Bucket{{At: 0, Sum: api.Sum{Count: 2, Total: math.MaxInt, Min: 7, Max: 1, First: 3, Last: 8, Rise: 4}}, {At: 10, Sum: api.Sum{Count: 3, Total: 1, Min: 6, Max: 2, First: 5, Last: 9, Rise: 1}}},
			[]api.Bucket{{At: 0, Sum: api.Sum{Count: 5, Total: math.MinInt, Min: 6, Max: 2, First: 3, Last: 9, Rise: 10}}}},
	} {
		if got := Greater(c.l); !slices.Equal(got, c.want) {
			t.Errorf("%s: %v, not %v", c.name, got, c.want)
		}
	}
}

// C2.
func TestOf(t *testing.T) {
	l := []api.Bucket{bucket(0, 5, 9), bucket(10, 2), bucket(60, 4)}
	for _, c := range []struct {
		name     string
		l        []api.Bucket
		from, to int
		want     api.Sum
	}{
		{"none", nil, 0, 100, api.Sum{}},
		{"empty", []api.Bucket{}, 0, 100, api.Sum{}},
		{"all", l, 0, 61, bucket(0, 5, 9, 2, 4).Sum},
		{"far beyond both ends", l, math.MinInt, math.MaxInt, bucket(0, 5, 9, 2, 4).Sum},
		{"to is not within", l, 0, 60, bucket(0, 5, 9, 2).Sum},
		{"from is within", l, 10, 61, bucket(0, 2, 4).Sum},
		{"what begins ahead of from is not, though it ends behind", l, 1, 61, bucket(0, 2, 4).Sum},
		{"what begins ahead of to is, though it ends behind", l, 0, 11, bucket(0, 5, 9, 2).Sum},
		{"one", l, 10, 11, bucket(0, 2).Sum},
		{"a gap", l, 20, 60, api.Sum{}},
		{"from to itself", l, 10, 10, api.Sum{}},
		{"backwards", l, 60, 0, api.Sum{}},
		{"all ahead", l, 61, math.MaxInt, api.Sum{}},
		{"all behind", l, math.MinInt, 0, api.Sum{}},
	} {
		if got := Of(c.l, c.from, c.to); got != c.want {
			t.Errorf("%s: %v, not %v", c.name, got, c.want)
		}
	}
}

// within has the samples from a time on, ahead of another one.
func within(l []api.Sample, from, to int) []api.Sample {
	var out []api.Sample
	for _, x := range l {
		if x.Time >= from && x.Time < to {
			out = append(out, x)
		}
	}
	return out
}

// told has the buckets by the document's words: of each one that could be what is in it, if there is anything.
func told(l []api.Sample, step int) []api.Bucket {
	var out []api.Bucket
	for from := 0; len(l) > 0 && from <= l[len(l)-1].Time; from += step {
		if in := within(l, from, from+step); len(in) > 0 {
			out = append(out, api.Bucket{At: from, Sum: agg.Of(in)})
		}
	}
	return out
}

// some are right samples, now close, now far from each other.
func some(r *rand.Rand) []api.Sample {
	var out []api.Sample
	gap := 1 + r.Intn(40)
	time := r.Intn(100) - 1
	for range r.Intn(60) {
		time += 1 + r.Intn(gap)
		out = append(out, api.Sample{Time: time, Value: r.Intn(2*api.MaxValue+1) - api.MaxValue})
	}
	return out
}

// C2: by way of fine buckets or at once, and of each window what its samples come to; what comes is right (C1).
func TestByTheWords(t *testing.T) {
	r := rand.New(rand.NewSource(3))
	for range 500 {
		l := some(r)
		if f := codec.Wrong(l); f != (api.Fault{}) {
			t.Fatalf("%v: not right: %v", l, f)
		}
		for i, step := range []int{api.FineStep, api.CoarseStep} {
			tier := api.Fine + i
			up := Up(l, tier)
			if want := told(l, step); !slices.Equal(up, want) {
				t.Fatalf("%v up to tier %d: %v, not %v", l, tier, up, want)
			}
			if f := Wrong(up, tier); f != (api.Fault{}) {
				t.Fatalf("%v up to tier %d: not right: %v", l, tier, f)
			}
			from, to := r.Intn(9)*step, r.Intn(30)*step
			if got, want := Of(up, from, to), agg.Of(within(l, from, to)); got != want {
				t.Fatalf("%v, tier %d from %d to %d: %v, not %v", l, tier, from, to, got, want)
			}
		}
		if got, want := Greater(Up(l, api.Fine)), Up(l, api.Coarse); !slices.Equal(got, want) {
			t.Fatalf("%v: by way of fine buckets %v, at once %v", l, got, want)
		}
	}
}

// C1, C2: each tick has a sample, so that buckets are as full as they may be.
func TestFull(t *testing.T) {
	var l []api.Sample
	for i := range api.MaxSamples {
		l = append(l, api.Sample{Time: i, Value: i % 7})
	}
	fine, coarse := Up(l, api.Fine), Up(l, api.Coarse)
	if len(fine) != 50 || fine[49].Sum.Count != api.FineStep || Wrong(fine, api.Fine) != (api.Fault{}) {
		t.Errorf("fine: %v", fine)
	}
	if len(coarse) != 9 || coarse[0].Sum.Count != api.CoarseStep || coarse[8].Sum.Count != 20 || Wrong(coarse, api.Coarse) != (api.Fault{}) {
		t.Errorf("coarse: %v", coarse)
	}
}

// Z1: what isn't right is not promised anything, but an end.
func TestNoPanic(t *testing.T) {
	odd := []int{math.MinInt, -61, -60, -1, 0, 5, 10, api.MaxTime + 1, math.MaxInt, 3, 3}
	var samples []api.Sample
	var buckets []api.Bucket
	for _, a := range odd {
		for _, b := range odd {
			samples = append(samples, api.Sample{Time: a, Value: b})
			buckets = append(buckets, api.Bucket{At: a, Sum: api.Sum{Count: b, Total: a, First: b, Last: a}})
		}
	}
	for _, tier := range odd {
		Up(samples, tier)
		Wrong(buckets, tier)
		for _, to := range odd {
			Of(buckets, tier, to)
		}
	}
	Greater(buckets)
}

// Z2: neither lists nor the spare room behind them are changed or looked at, and answers are new memory.
func TestMemory(t *testing.T) {
	samples := []api.Sample{{Time: 5, Value: 5}, {Time: 9, Value: 9}, {Time: 60, Value: 1}, {Time: 61, Value: 8}}
	buckets := []api.Bucket{bucket(0, 5), bucket(10, 9), bucket(60, 1), bucket(70, 8)}
	oldSamples, oldBuckets := slices.Clone(samples), slices.Clone(buckets)
	fine, coarse := Up(samples[:3], api.Fine), Greater(buckets[:3])
	if Wrong(buckets[:3], api.Fine) != (api.Fault{}) || Of(buckets[:3], 0, 100) != bucket(0, 5, 9, 1).Sum {
		t.Error("the spare room was looked at")
	}
	wantFine, wantCoarse := []api.Bucket{bucket(0, 5, 9), bucket(60, 1)}, []api.Bucket{bucket(0, 5, 9), bucket(60, 1)}
	if !slices.Equal(fine, wantFine) || !slices.Equal(coarse, wantCoarse) {
		t.Errorf("the spare room was looked at: %v, %v", fine, coarse)
	}
	for _, l := range [][]api.Bucket{fine, coarse} {
		for i := range l[:cap(l)] {
			l[:cap(l)][i] = at(-1, -1)
		}
	}
	if !slices.Equal(samples, oldSamples) || !slices.Equal(buckets, oldBuckets) {
		t.Error("what was handed in was changed")
	}
	fine, coarse = Up(samples[:3], api.Fine), Greater(buckets[:3])
	clear(samples)
	clear(buckets)
	if !slices.Equal(fine, wantFine) || !slices.Equal(coarse, wantCoarse) {
		t.Error("what was handed in was kept")
	}
}
