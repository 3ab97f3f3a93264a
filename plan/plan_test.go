package plan

import (
	"math"
	"reflect"
	"slices"
	"testing"

	"grainstore/agg"
	"grainstore/api"
	"grainstore/shelf"
)

// parts has parts by turns of a tier, where it begins, and where it ends.
func parts(l ...int) []api.Part {
	var out []api.Part
	for i := 0; i+2 < len(l); i += 3 {
		out = append(out, api.Part{Tier: l[i], From: l[i+1], To: l[i+2]})
	}
	return out
}

// raw has samples by turns of a time and a value.
func raw(l ...int) []api.Sample {
	var out []api.Sample
	for i := 0; i+1 < len(l); i += 2 {
		out = append(out, api.Sample{Time: l[i], Value: l[i+1]})
	}
	return out
}

// one is a bucket with one sample.
func one(at, v int) api.Bucket {
	return api.Bucket{At: at, Sum: agg.One(v)}
}

// sum is what values come to.
func sum(l ...int) api.Sum {
	var out []api.Sample
	for _, v := range l {
		out = append(out, api.Sample{Value: v})
	}
	return agg.Of(out)
}

// kept200 is a right shelf, in which each tier has something, and has forgotten something. Its values tell tiers apart: samples have units, fine buckets tens, coarse ones hundreds.
func kept200() api.Shelf {
	return api.Shelf{
		Series:     api.Series{{Key: "host", Val: "a"}},
		Raw:        raw(155, 1, 169, 2, 170, 3, 215, 4),
		Fine:       []api.Bucket{one(90, 10), one(120, 20), one(150, 30), one(160, 40), one(170, 50)},
		Coarse:     []api.Bucket{one(60, 100), one(120, 200)},
		RawFrom:    155,
		FineFrom:   90,
		FineTo:     200,
		CoarseFrom: 60,
		CoarseTo:   180,
	}
}

// but is kept200 with something else.
func but(f func(s *api.Shelf)) api.Shelf {
	s := kept200()
	f(&s)
	return s
}

// whole is a shelf that has forgotten nothing, of samples at 0, 7, 14 and so on, up to 294, rolled up to a time.
func whole(t *testing.T, to int) api.Shelf {
	t.Helper()
	s := shelf.New(nil)
	for i := range 43 {
		s.Raw = append(s.Raw, api.Sample{Time: 7 * i, Value: i * 5 % 11})
	}
	s, err := shelf.Roll(s, to)
	if err != api.OK {
		t.Fatal(err)
	}
	return s
}

// H1: which parts may be read: Covers of one part, at its own bounds, tells it, and so does Read.
func TestMayBeRead(t *testing.T) {
	const end = api.MaxTime
	for _, c := range []struct {
		name           string
		tier, from, to int
		ok             bool
	}{
		{"raw", api.Raw, 160, 170, true},
		{"raw, from RawFrom on", api.Raw, 155, 156, true},
		{"raw, from ahead of it", api.Raw, 154, 170, false},
		{"raw, ahead of it", api.Raw, 100, 120, false},
		{"raw, up to the last time", api.Raw, 155, end + 1, true},
		{"raw, the last time alone", api.Raw, end, end + 1, true},
		{"raw, behind the last time", api.Raw, end, end + 2, false},
		{"raw, far behind it", api.Raw, end + 1, end + 2, false},
		{"raw, of nothing", api.Raw, 160, 160, false},
		{"raw, back", api.Raw, 170, 160, false},
		{"raw, below 0", api.Raw, -10, 160, false},
		{"raw, all there is", api.Raw, math.MinInt, math.MaxInt, false},
		{"raw, up to all there is", api.Raw, 155, math.MaxInt, false},
		{"raw, back by all there is", api.Raw, math.MaxInt, math.MinInt, false},
		{"fine", api.Fine, 100, 130, true},
		{"fine, all of it", api.Fine, 90, 200, true},
		{"fine, the first one", api.Fine, 90, 100, true},
		{"fine, the last one", api.Fine, 190, 200, true},
		{"fine, ahead of the first one", api.Fine, 80, 100, false},
		{"fine, behind the last one", api.Fine, 190, 210, false},
		{"fine, far behind", api.Fine, 200, 210, false},
		{"fine, begins between", api.Fine, 95, 110, false},
		{"fine, ends between", api.Fine, 100, 111, false},
		{"fine, begins and ends between", api.Fine, 101, 111, false},
		{"fine, of nothing", api.Fine, 100, 100, false},
		{"fine, back", api.Fine, 110, 100, false},
		{"fine, below 0", api.Fine, -10, 100, false},
		{"fine, all there is", api.Fine, math.MinInt, math.MaxInt, false},
		{"coarse", api.Coarse, 60, 120, true},
		{"coarse, all of it", api.Coarse, 60, 180, true},
		{"coarse, the last one", api.Coarse, 120, 180, true},
		{"coarse, ahead of the first one", api.Coarse, 0, 120, false},
		{"coarse, behind the last one", api.Coarse, 120, 240, false},
		{"coarse, begins between", api.Coarse, 70, 120, false},
		{"coarse, ends between", api.Coarse, 60, 110, false},
		{"coarse, begins and ends between", api.Coarse, 70, 130, false},
		{"coarse, of nothing", api.Coarse, 120, 120, false},
		{"coarse, back", api.Coarse, 180, 120, false},
		{"coarse, below 0", api.Coarse, -60, 120, false},
		{"coarse, all there is", api.Coarse, math.MinInt, math.MaxInt, false},
		{"no tier", 3, 160, 170, false},
		{"a tier below 0", -1, 160, 170, false},
		{"a step as a tier", api.FineStep, 160, 170, false},
		{"the greatest tier", math.MaxInt, 120, 180, false},
		{"the least tier", math.MinInt, 120, 180, false},
	} {
		l := parts(c.tier, c.from, c.to)
		if got := Covers(kept200(), l, c.from, c.to); got != c.ok {
			t.Errorf("%s: %v, not %v", c.name, got, c.ok)
		}
		want := api.ErrFit
		if c.ok {
			want = api.OK
		}
		if got, n, err := Read(kept200(), l); err != want || !c.ok && (got != api.Sum{} || n != 0) {
			t.Errorf("%s: read %v %d %v, not %v", c.name, got, n, err, want)
		}
	}
}

// H1: parts lie one behind the other, and make up just the window.
func TestCovers(t *testing.T) {
	three := parts(api.Coarse, 60, 180, api.Fine, 180, 200, api.Raw, 200, 215)
	for _, c := range []struct {
		name     string
		l        []api.Part
		from, to int
		want     bool
	}{
		{"three parts", three, 60, 215, true},
		{"begins earlier", three, 61, 215, false},
		{"begins later", three, 59, 215, false},
		{"ends earlier", three, 60, 216, false},
		{"ends later", three, 60, 214, false},
		{"the first one alone", three[:1], 60, 180, true},
		{"the first one alone does not end there", three[:1], 60, 215, false},
		{"the last one alone does not begin there", three[2:], 60, 215, false},
		{"a gap", parts(api.Coarse, 60, 120, api.Fine, 130, 200), 60, 200, false},
		{"twice", parts(api.Coarse, 60, 180, api.Fine, 170, 200), 60, 200, false},
		{"falling", parts(api.Fine, 180, 200, api.Coarse, 60, 180), 60, 200, false},
		{"falling, by the window's bounds", parts(api.Fine, 180, 200, api.Coarse, 60, 180), 180, 180, false},
		{"of one tier, one behind the other", parts(api.Fine, 90, 100, api.Fine, 100, 200), 90, 200, true},
		{"tiers by turns", parts(api.Fine, 90, 120, api.Coarse, 120, 180, api.Raw, 180, 190, api.Fine, 190, 200), 90, 200, true},
		{"the first one may not be read", parts(api.Raw, 60, 120, api.Coarse, 120, 180), 60, 180, false},
		{"one between may not be read", parts(api.Fine, 90, 120, api.Coarse, 120, 240, api.Raw, 240, 300), 90, 300, false},
		{"the last one may not be read", parts(api.Coarse, 60, 180, api.Fine, 180, 210), 60, 210, false},
		{"one between is of nothing", parts(api.Fine, 90, 120, api.Fine, 120, 120, api.Fine, 120, 130), 90, 130, false},
		{"one goes back", parts(api.Fine, 90, 120, api.Fine, 120, 100, api.Fine, 100, 130), 90, 130, false},
		{"no parts, of nothing", nil, 100, 100, true},
		{"no parts, of nothing, empty", []api.Part{}, 100, 100, true},
		{"no parts, of something", nil, 100, 101, false},
		{"no parts, back", nil, 101, 100, false},
		{"no parts, anywhere", nil, math.MinInt, math.MinInt, true},
		{"a part, of nothing", parts(api.Fine, 100, 110), 100, 100, false},
	} {
		if got := Covers(kept200(), c.l, c.from, c.to); got != c.want {
			t.Errorf("%s: %v, not %v", c.name, got, c.want)
		}
	}
}

// H1: Covers goes by a shelf's bounds alone, whatever else is wrong with it.
func TestCoversByBounds(t *testing.T) {
	for _, c := range []struct {
		name string
		s    api.Shelf
		l    []api.Part
		want bool
	}{
		{"raw from below 0", api.Shelf{RawFrom: -5}, parts(api.Raw, -5, 5), true},
		{"raw from below that", api.Shelf{RawFrom: -5}, parts(api.Raw, -6, 5), false},
		{"raw from behind FineTo", api.Shelf{RawFrom: 50}, parts(api.Raw, 50, 60), true},
		{"fine below 0", api.Shelf{FineFrom: -20}, parts(api.Fine, -20, 0), true},
		{"fine from between", api.Shelf{FineFrom: 5, FineTo: 35}, parts(api.Fine, 10, 30), true},
		{"fine from between, not whole", api.Shelf{FineFrom: 5, FineTo: 35}, parts(api.Fine, 5, 35), false},
		{"coarse below 0", api.Shelf{CoarseFrom: -60, CoarseTo: 60}, parts(api.Coarse, -60, 60), true},
		{"fine ends behind all time", api.Shelf{FineTo: math.MaxInt}, parts(api.Fine, 0, 2*api.MaxTime), true},
		{"no names", api.Shelf{Series: api.Series{{}}}, parts(api.Raw, 0, 5), true},
		{"a sample ahead", but(func(s *api.Shelf) { s.Raw[0].Time = 5 }), parts(api.Raw, 155, 160), true},
	} {
		if shelf.Wrong(c.s) == api.OK {
			t.Errorf("%s: nothing is wrong", c.name)
		}
		if got := Covers(c.s, c.l, c.l[0].From, c.l[0].To); got != c.want {
			t.Errorf("%s: %v, not %v", c.name, got, c.want)
		}
	}
}

// H2: example 8, and what is chosen of a shelf that has all.
func TestChooseOfAll(t *testing.T) {
	seventy, far := whole(t, 70), whole(t, 195)
	for _, c := range []struct {
		name     string
		s        api.Shelf
		from, to int
		want     []api.Part
	}{
		{"example 8", seventy, 0, 75, parts(api.Coarse, 0, 60, api.Fine, 60, 70, api.Raw, 70, 75)},
		{"up to a coarse one's end", seventy, 0, 60, parts(api.Coarse, 0, 60)},
		{"just ahead of it", seventy, 0, 59, parts(api.Fine, 0, 50, api.Raw, 50, 59)},
		{"just behind it", seventy, 0, 61, parts(api.Coarse, 0, 60, api.Raw, 60, 61)},
		{"just behind a coarse one's begin", seventy, 1, 60, parts(api.Raw, 1, 10, api.Fine, 10, 60)},
		{"a fine one", seventy, 60, 70, parts(api.Fine, 60, 70)},
		{"just ahead of its end", seventy, 60, 69, parts(api.Raw, 60, 69)},
		{"just behind its begin", seventy, 61, 70, parts(api.Raw, 61, 70)},
		{"within a fine one", seventy, 23, 27, parts(api.Raw, 23, 27)},
		{"over a fine one's end", seventy, 23, 32, parts(api.Raw, 23, 32)},
		{"behind all buckets", seventy, 70, 300, parts(api.Raw, 70, 300)},
		{"nothing", seventy, 30, 30, nil},
		{"nothing at 0", seventy, 0, 0, nil},
		{"nothing at the end", seventy, api.MaxTime, api.MaxTime, nil},
		{"all", seventy, 0, api.MaxTime, parts(api.Coarse, 0, 60, api.Fine, 60, 70, api.Raw, 70, api.MaxTime)},
		{"coarse ones are one", far, 0, 180, parts(api.Coarse, 0, 180)},
		{"four parts", far, 55, 195, parts(api.Raw, 55, 60, api.Coarse, 60, 180, api.Fine, 180, 190, api.Raw, 190, 195)},
		{"fine ones, ahead and behind", far, 50, 190, parts(api.Fine, 50, 60, api.Coarse, 60, 180, api.Fine, 180, 190)},
		{"fine ones, no coarse one between", far, 70, 170, parts(api.Fine, 70, 170)},
		{"raw on both sides", far, 65, 125, parts(api.Raw, 65, 70, api.Fine, 70, 120, api.Raw, 120, 125)},
		{"no buckets at all", whole(t, 0), 0, 300, parts(api.Raw, 0, 300)},
		{"nothing on it", shelf.New(nil), 3, 200, parts(api.Raw, 3, 200)},
	} {
		got, err := Choose(c.s, c.from, c.to)
		if err != api.OK || !slices.Equal(got, c.want) {
			t.Errorf("%s: %v %v, not %v", c.name, got, err, c.want)
		}
		if !Covers(c.s, got, c.from, c.to) {
			t.Errorf("%s: %v is no cover", c.name, got)
		}
	}
}

// H2: what is chosen of a shelf that has forgotten, or that some of it is gone.
func TestChooseOfKept(t *testing.T) {
	const end = api.MaxTime
	for _, c := range []struct {
		name     string
		s        api.Shelf
		from, to int
		want     []api.Part
		err      api.Errno
	}{
		{"all that is kept", kept200(), 60, 215, parts(api.Coarse, 60, 180, api.Fine, 180, 200, api.Raw, 200, 215), api.OK},
		{"ahead of the coarse ones", kept200(), 0, 180, nil, api.ErrGone},
		{"just ahead of the coarse ones", kept200(), 59, 180, nil, api.ErrGone},
		{"a coarse one that would end behind", kept200(), 60, 119, nil, api.ErrGone},
		{"between coarse ones, ahead of the fine ones", kept200(), 80, 180, nil, api.ErrGone},
		{"from the first fine one on", kept200(), 90, 180, parts(api.Fine, 90, 120, api.Coarse, 120, 180), api.OK},
		{"a fine one that would end behind", kept200(), 90, 125, nil, api.ErrGone},
		{"within a fine one, ahead of raw", kept200(), 95, 180, nil, api.ErrGone},
		{"within a fine one, just ahead of raw", kept200(), 154, 180, nil, api.ErrGone},
		{"from the first raw one on", kept200(), 155, 180, parts(api.Raw, 155, 160, api.Fine, 160, 180), api.OK},
		{"raw is gone at the end", kept200(), 120, 154, nil, api.ErrGone},
		{"raw is there at the end", kept200(), 120, 165, parts(api.Fine, 120, 160, api.Raw, 160, 165), api.OK},
		{"raw at the end begins ahead of RawFrom", kept200(), 120, 158, nil, api.ErrGone},
		{"up to the last time", kept200(), 200, end, parts(api.Raw, 200, end), api.OK},
		{"nothing, where all is gone", kept200(), 5, 5, nil, api.OK},
		{"coarse ones, though fine ones are gone", but(func(s *api.Shelf) { s.Fine, s.FineFrom = nil, 180 }), 60, 200, parts(api.Coarse, 60, 180, api.Fine, 180, 200), api.OK},
		{"fine ones, though coarse ones are gone", but(func(s *api.Shelf) { s.Coarse, s.CoarseFrom = nil, 180 }), 90, 200, parts(api.Fine, 90, 200), api.OK},
		{"fine ones up to where coarse ones begin", but(func(s *api.Shelf) { s.Coarse, s.CoarseFrom = nil, 120 }), 90, 200, parts(api.Fine, 90, 120, api.Coarse, 120, 180, api.Fine, 180, 200), api.OK},
		{"raw, though both are gone", but(func(s *api.Shelf) { s.Coarse, s.CoarseFrom, s.Fine, s.FineFrom = nil, 180, nil, 180 }), 160, 180, parts(api.Raw, 160, 180), api.OK},
		{"raw up to where fine ones begin", but(func(s *api.Shelf) { s.Coarse, s.CoarseFrom, s.Fine, s.FineFrom = nil, 180, nil, 170 }), 160, 180, parts(api.Raw, 160, 170, api.Fine, 170, 180), api.OK},
		{"all is gone but what comes", api.Shelf{RawFrom: end, FineFrom: 999960, FineTo: end, CoarseFrom: 999960, CoarseTo: 999960}, 999960, end, parts(api.Fine, 999960, end), api.OK},
		{"all is gone, and it is asked for", api.Shelf{RawFrom: end, FineFrom: 999960, FineTo: end, CoarseFrom: 999960, CoarseTo: 999960}, 999959, end, nil, api.ErrGone},
	} {
		got, err := Choose(c.s, c.from, c.to)
		if err != c.err || !slices.Equal(got, c.want) {
			t.Errorf("%s: %v %v, not %v %v", c.name, got, err, c.want, c.err)
		}
	}
}

// H2: which windows are none, and which error is told first.
func TestChooseErrors(t *testing.T) {
	const end = api.MaxTime
	wrong := but(func(s *api.Shelf) { s.Series = api.Series{{Key: "A", Val: "b"}} })
	for _, c := range []struct {
		name     string
		s        api.Shelf
		from, to int
		want     api.Errno
	}{
		{"from below 0", shelf.New(nil), -1, 5, api.ErrRange},
		{"both below 0", shelf.New(nil), -1, -1, api.ErrRange},
		{"from above to", shelf.New(nil), 6, 5, api.ErrRange},
		{"to above MaxTime", shelf.New(nil), 0, end + 1, api.ErrRange},
		{"both above MaxTime", shelf.New(nil), end + 1, end + 1, api.ErrRange},
		{"the least and the greatest number", shelf.New(nil), math.MinInt, math.MaxInt, api.ErrRange},
		{"the greatest number", shelf.New(nil), 0, math.MaxInt, api.ErrRange},
		{"back by all there is", shelf.New(nil), math.MaxInt, math.MinInt, api.ErrRange},
		{"range ahead of gone", kept200(), 0, end + 1, api.ErrRange},
		{"wrong ahead of range", wrong, -1, 5, api.ErrName},
		{"wrong ahead of gone", wrong, 0, 5, api.ErrName},
		{"wrong, of nothing", wrong, 5, 5, api.ErrName},
		{"samples fall", but(func(s *api.Shelf) { s.Raw[1].Time = 155 }), 200, 300, api.ErrForm},
		{"bounds do not fit", but(func(s *api.Shelf) { s.RawFrom = 201 }), 60, 120, api.ErrFit},
	} {
		if got, err := Choose(c.s, c.from, c.to); err != c.want || len(got) != 0 {
			t.Errorf("%s: %v %v, not %v", c.name, got, err, c.want)
		}
	}
}

// H2: what parts come to, and what they cost. The shelf's tiers have values of their own, so that it shows which one was read.
func TestRead(t *testing.T) {
	for _, c := range []struct {
		name string
		l    []api.Part
		want api.Sum
		cost int
	}{
		{"none", nil, api.Sum{}, 0},
		{"none, empty", []api.Part{}, api.Sum{}, 0},
		{"raw", parts(api.Raw, 155, 216), sum(1, 2, 3, 4), 4},
		{"raw, just up to one", parts(api.Raw, 155, 215), sum(1, 2, 3), 3},
		{"raw, just from one on", parts(api.Raw, 169, 170), sum(2), 1},
		{"raw, just behind one", parts(api.Raw, 156, 169), api.Sum{}, 0},
		{"raw, up to the last time", parts(api.Raw, 170, api.MaxTime+1), sum(3, 4), 2},
		{"fine", parts(api.Fine, 90, 200), sum(10, 20, 30, 40, 50), 5},
		{"fine, just up to one", parts(api.Fine, 90, 170), sum(10, 20, 30, 40), 4},
		{"fine, just from one on", parts(api.Fine, 120, 160), sum(20, 30), 2},
		{"fine, none in it", parts(api.Fine, 180, 200), api.Sum{}, 0},
		{"coarse", parts(api.Coarse, 60, 180), sum(100, 200), 2},
		{"coarse, one of them", parts(api.Coarse, 120, 180), sum(200), 1},
		{"all tiers", parts(api.Coarse, 60, 120, api.Fine, 120, 170, api.Raw, 170, 300), sum(100, 20, 30, 40, 3, 4), 6},
		{"tiers by turns", parts(api.Raw, 155, 160, api.Fine, 160, 170, api.Raw, 170, 171), sum(1, 40, 3), 3},
		{"back to coarse ones", parts(api.Fine, 90, 120, api.Coarse, 120, 180, api.Fine, 180, 190, api.Raw, 190, 216), sum(10, 200, 4), 3},
		{"of one tier", parts(api.Fine, 90, 130, api.Fine, 130, 160), sum(10, 20, 30), 3},
		{"nothing first", parts(api.Raw, 156, 160, api.Fine, 160, 180), sum(40, 50), 2},
	} {
		got, n, err := Read(kept200(), c.l)
		if err != api.OK || got != c.want || n != c.cost {
			t.Errorf("%s: %v %d %v, not %v %d", c.name, got, n, err, c.want, c.cost)
		}
	}
}

// H2: buckets of many samples are looked at once each.
func TestReadChosen(t *testing.T) {
	s := whole(t, 195)
	for _, c := range []struct{ from, to, cost int }{
		{0, 180, 3}, {0, 60, 1}, {0, 70, 2}, {0, 190, 4}, {0, 197, 5}, {55, 65, 2}, {53, 130, 3}, {0, 300, 19}, {1, 7, 0}, {10, 10, 0},
	} {
		l, _ := Choose(s, c.from, c.to)
		var in []api.Sample
		for _, x := range s.Raw {
			if c.from <= x.Time && x.Time < c.to {
				in = append(in, x)
			}
		}
		got, n, err := Read(s, l)
		if err != api.OK || got != agg.Of(in) || n != c.cost {
			t.Errorf("from %d to %d: %v %d %v, not %v %d", c.from, c.to, got, n, err, agg.Of(in), c.cost)
		}
	}
}

// H2: parts that do not follow each other, or a shelf that is wrong; beside an error nothing is told (Z4).
func TestReadErrors(t *testing.T) {
	right := parts(api.Coarse, 60, 180)
	for _, c := range []struct {
		name string
		s    api.Shelf
		l    []api.Part
		want api.Errno
	}{
		{"the first one may not be read", kept200(), parts(api.Coarse, 0, 120), api.ErrFit},
		{"the second one may not be read", kept200(), parts(api.Coarse, 60, 180, api.Fine, 180, 210), api.ErrFit},
		{"the last one may not be read", kept200(), parts(api.Coarse, 60, 180, api.Fine, 180, 200, api.Raw, 200, 200), api.ErrFit},
		{"a gap", kept200(), parts(api.Coarse, 60, 120, api.Fine, 130, 200), api.ErrFit},
		{"twice", kept200(), parts(api.Coarse, 60, 180, api.Coarse, 60, 180), api.ErrFit},
		{"falling", kept200(), parts(api.Coarse, 120, 180, api.Coarse, 60, 120), api.ErrFit},
		{"no tier", kept200(), parts(api.Coarse, 60, 180, 3, 180, 240), api.ErrFit},
		{"names", but(func(s *api.Shelf) { s.Series[0].Key = "" }), right, api.ErrName},
		{"samples", but(func(s *api.Shelf) { s.Raw[0].Value = api.MaxValue + 1 }), right, api.ErrRange},
		{"fine buckets", but(func(s *api.Shelf) { s.Fine[0].At = 120 }), right, api.ErrForm},
		{"bounds", but(func(s *api.Shelf) { s.CoarseTo = 240 }), right, api.ErrFit},
		{"wrong ahead of parts", but(func(s *api.Shelf) { s.Series[0].Key = "" }), parts(3, 5, 5), api.ErrName},
		{"wrong, without parts", but(func(s *api.Shelf) { s.Series[0].Key = "" }), nil, api.ErrName},
	} {
		if got, n, err := Read(c.s, c.l); err != c.want || (got != api.Sum{}) || n != 0 {
			t.Errorf("%s: %v %d %v, not %v", c.name, got, n, err, c.want)
		}
	}
}

// roomy gives a list spare room that holds something.
func roomy[T any](l []T, x T) []T {
	return append(append([]T{}, l...), x, x, x)[:len(l)]
}

// Z2: what is handed in stays as it is, its spare room too; what is there is not looked at.
func TestHandedIn(t *testing.T) {
	s := kept200()
	s.Series = roomy(s.Series, api.Label{Key: "z", Val: "z"})
	s.Raw = roomy(s.Raw, api.Sample{Time: 220, Value: 9})
	s.Fine = roomy(s.Fine, one(180, 90))
	s.Coarse = roomy(s.Coarse, one(180, 900))
	l := roomy(parts(api.Coarse, 60, 180, api.Fine, 180, 200, api.Raw, 200, 300), api.Part{Tier: api.Raw, From: 300, To: 400})
	full := func() []any {
		return []any{s.Series[:cap(s.Series)], s.Raw[:cap(s.Raw)], s.Fine[:cap(s.Fine)], s.Coarse[:cap(s.Coarse)], l[:cap(l)], s}
	}
	old := but(func(*api.Shelf) {})
	before := []any{slices.Clone(s.Series[:cap(s.Series)]), slices.Clone(s.Raw[:cap(s.Raw)]), slices.Clone(s.Fine[:cap(s.Fine)]), slices.Clone(s.Coarse[:cap(s.Coarse)]), slices.Clone(l[:cap(l)]), old}
	if got, n, err := Read(s, l); err != api.OK || got != sum(100, 200, 4) || n != 3 {
		t.Errorf("%v %d %v", got, n, err)
	}
	if !Covers(s, l, 60, 300) || Covers(s, l, 60, 400) {
		t.Error("spare room is looked at")
	}
	if got, err := Choose(s, 60, 300); err != api.OK || !slices.Equal(got, l) {
		t.Errorf("%v %v", got, err)
	}
	if now := full(); !reflect.DeepEqual(now, before) {
		t.Errorf("%v, not %v", now, before)
	}
}

// Z2: what is answered is the caller's, its spare room too.
func TestAnswered(t *testing.T) {
	s := whole(t, 195)
	want, _ := Choose(s, 0, 300)
	want = slices.Clone(want)
	spoiled, _ := Choose(s, 0, 300)
	spoiled = spoiled[:cap(spoiled)]
	for i := range spoiled {
		spoiled[i] = api.Part{Tier: 9, From: 9, To: 9}
	}
	if got, err := Choose(s, 0, 300); err != api.OK || !slices.Equal(got, want) {
		t.Errorf("%v %v, not %v", got, err, want)
	}
}
