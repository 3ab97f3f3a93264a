package shelf

import (
	"math"
	"reflect"
	"slices"
	"strings"
	"testing"

	"grainstore/api"
)

// series reads labels as `host=a job=web`.
func series(s string) api.Series {
	var out api.Series
	for _, x := range strings.Fields(s) {
		key, val, _ := strings.Cut(x, "=")
		out = append(out, api.Label{Key: key, Val: val})
	}
	return out
}

// raw has samples by turns of a time and a value.
func raw(l ...int) []api.Sample {
	var out []api.Sample
	for i := 0; i+1 < len(l); i += 2 {
		out = append(out, api.Sample{Time: l[i], Value: l[i+1]})
	}
	return out
}

// many has n samples, at every so many ticks from a time on.
func many(n, from, gap int) []api.Sample {
	var out []api.Sample
	for i := range n {
		out = append(out, api.Sample{Time: from + i*gap, Value: 1})
	}
	return out
}

// one is a bucket with one sample.
func one(at, v int) api.Bucket {
	return api.Bucket{At: at, Sum: api.Sum{Count: 1, Total: v, Min: v, Max: v, First: v, Last: v}}
}

// row has n buckets of one sample each, at every step from a time on.
func row(n, from, step int) []api.Bucket {
	var out []api.Bucket
	for i := range n {
		out = append(out, one(from+i*step, 1))
	}
	return out
}

// same tells whether shelves are the same, nil and empty being so (Z3).
func same(a, b api.Shelf) bool {
	return slices.Equal(a.Series, b.Series) && slices.Equal(a.Raw, b.Raw) &&
		slices.Equal(a.Fine, b.Fine) && slices.Equal(a.Coarse, b.Coarse) && bounds(a) == bounds(b)
}

func bounds(s api.Shelf) [5]int {
	return [5]int{s.RawFrom, s.FineFrom, s.FineTo, s.CoarseFrom, s.CoarseTo}
}

func is(t *testing.T, name string, got api.Shelf, err api.Errno, want api.Shelf) {
	t.Helper()
	if err != api.OK || !same(got, want) {
		t.Errorf("%s: %v %v, not %v", name, got, err, want)
	}
}

// fails holds Z4, too: beside an error the shelf is zero.
func fails(t *testing.T, name string, got api.Shelf, err, want api.Errno) {
	t.Helper()
	if err != want || !same(got, api.Shelf{}) {
		t.Errorf("%s: %v %v, not %v", name, got, err, want)
	}
}

// kept200 is a right shelf, in which each tier has something, and has forgotten something.
func kept200() api.Shelf {
	return api.Shelf{
		Series:     series("host=a job=web"),
		Raw:        raw(155, 1, 169, 2, 170, 3, 215, 4),
		Fine:       []api.Bucket{one(90, 5), one(120, 6), one(150, 1), one(160, 2), one(170, 3)},
		Coarse:     []api.Bucket{one(60, 7), one(120, 8)},
		RawFrom:    155,
		FineFrom:   90,
		FineTo:     200,
		CoarseFrom: 60,
		CoarseTo:   180,
	}
}

// but is kept200 with something else.
func but(f func(s *api.Shelf)) api.Shelf {
	s := kept200()
	f(&s)
	return s
}

// G1: a shelf has its series, and nothing else.
func TestNew(t *testing.T) {
	for _, text := range []string{"", "host=a", "a=b c=d e=f g=h"} {
		s := New(series(text))
		if !same(s, api.Shelf{Series: series(text)}) || Wrong(s) != api.OK {
			t.Errorf("%s: %v %v", text, s, Wrong(s))
		}
	}
	for text, want := range map[string]api.Errno{"a=b c=d e=f g=h i=j": api.ErrMany, "host=A": api.ErrName, "b=c a=d": api.ErrForm} {
		s := New(series(text))
		if !same(s, api.Shelf{Series: series(text)}) || Wrong(s) != want {
			t.Errorf("%s: %v %v, not %v", text, s, Wrong(s), want)
		}
	}
	if s := New(nil); !same(s, New(api.Series{})) {
		t.Errorf("of no labels: %v", s)
	}
}

// G1: what is wrong with a shelf's lists is told ahead of what does not fit, one list ahead of the other.
func TestWrongLists(t *testing.T) {
	late := raw(160, 1, 160, 2)
	odd := []api.Bucket{one(95, 1)}
	for _, c := range []struct {
		name string
		s    api.Shelf
		want api.Errno
	}{
		{"nothing", api.Shelf{}, api.OK},
		{"something of all", kept200(), api.OK},
		{"five labels", but(func(s *api.Shelf) { s.Series = series("a=b c=d e=f g=h i=j") }), api.ErrMany},
		{"no name", but(func(s *api.Shelf) { s.Series = series("a=1") }), api.ErrName},
		{"labels fall", but(func(s *api.Shelf) { s.Series = series("b=b a=a") }), api.ErrForm},
		{"too many samples", but(func(s *api.Shelf) { s.Raw = many(501, 200, 1) }), api.ErrMany},
		{"as many as may be", but(func(s *api.Shelf) { s.Raw = many(500, 200, 1) }), api.OK},
		{"a sample too late", but(func(s *api.Shelf) { s.Raw = raw(160, 1, api.MaxTime+1, 2) }), api.ErrRange},
		{"the last time", but(func(s *api.Shelf) { s.Raw = raw(160, 1, api.MaxTime, 2) }), api.OK},
		{"a time below 0", but(func(s *api.Shelf) { s.Raw = raw(-1, 1) }), api.ErrRange},
		{"too great a value", but(func(s *api.Shelf) { s.Raw = raw(160, api.MaxValue+1) }), api.ErrRange},
		{"samples at one time", but(func(s *api.Shelf) { s.Raw = late }), api.ErrForm},
		{"a fine bucket between", but(func(s *api.Shelf) { s.Fine = odd }), api.ErrRange},
		{"a fine bucket too full", but(func(s *api.Shelf) { s.Fine = []api.Bucket{{At: 90, Sum: api.Sum{Count: 11}}} }), api.ErrRange},
		{"an empty fine bucket", but(func(s *api.Shelf) { s.Fine = []api.Bucket{{At: 90}} }), api.ErrRange},
		{"fine buckets fall", but(func(s *api.Shelf) { s.Fine = []api.Bucket{one(100, 1), one(90, 1)} }), api.ErrForm},
		{"too many fine buckets", but(func(s *api.Shelf) { s.Fine = row(501, 0, 10) }), api.ErrMany},
		{"a coarse bucket between", but(func(s *api.Shelf) { s.Coarse = []api.Bucket{one(70, 1)} }), api.ErrRange},
		{"a coarse bucket with 11", but(func(s *api.Shelf) { s.Coarse = []api.Bucket{{At: 60, Sum: api.Sum{Count: 11}}} }), api.OK},
		{"a coarse bucket too full", but(func(s *api.Shelf) { s.Coarse = []api.Bucket{{At: 60, Sum: api.Sum{Count: 61}}} }), api.ErrRange},
		{"one coarse bucket twice", but(func(s *api.Shelf) { s.Coarse = []api.Bucket{one(60, 1), one(60, 1)} }), api.ErrForm},
		{"too many coarse buckets", but(func(s *api.Shelf) { s.Coarse = row(501, 0, 60) }), api.ErrMany},
		{"labels ahead of samples", but(func(s *api.Shelf) { s.Series, s.Raw = series("a=1"), late }), api.ErrName},
		{"samples ahead of fine buckets", but(func(s *api.Shelf) { s.Raw, s.Fine = late, odd }), api.ErrForm},
		{"fine buckets ahead of coarse ones", but(func(s *api.Shelf) { s.Fine, s.Coarse = odd, row(501, 0, 60) }), api.ErrRange},
		{"coarse buckets ahead of bounds", but(func(s *api.Shelf) { s.Coarse, s.RawFrom = row(501, 0, 60), -1 }), api.ErrMany},
	} {
		if got := Wrong(c.s); got != c.want {
			t.Errorf("%s: %v, not %v", c.name, got, c.want)
		}
	}
}

// empty is a shelf of bounds alone.
func empty(rawFrom, fineFrom, fineTo, coarseFrom, coarseTo int) api.Shelf {
	return api.Shelf{RawFrom: rawFrom, FineFrom: fineFrom, FineTo: fineTo, CoarseFrom: coarseFrom, CoarseTo: coarseTo}
}

// G1: how far tiers may go.
func TestWrongBounds(t *testing.T) {
	for _, c := range []struct {
		name string
		s    api.Shelf
		ok   bool
	}{
		{"all at 0", empty(0, 0, 0, 0, 0), true},
		{"as far as may be", empty(1000000, 999960, 1000000, 999960, 999960), true},
		{"fine too far", empty(0, 0, 1000010, 0, 0), false},
		{"coarse too far", empty(0, 0, 1000020, 0, 1000020), false},
		{"fine from between", empty(0, 5, 120, 0, 60), false},
		{"fine to between", empty(0, 0, 75, 0, 60), false},
		{"fine from below 0", empty(0, -10, 120, 0, 60), false},
		{"fine to below 0", empty(0, 0, -10, 0, 0), false},
		{"both below 0", empty(0, -20, -10, 0, 0), false},
		{"fine from behind fine to", empty(0, 80, 70, 0, 60), false},
		{"fine from at fine to", empty(0, 60, 60, 0, 60), true},
		{"coarse from between", empty(0, 0, 120, 10, 60), false},
		{"coarse to between", empty(0, 0, 120, 0, 70), false},
		{"coarse from below 0", empty(0, 0, 120, -60, 60), false},
		{"coarse to below 0", empty(0, 0, 120, -120, -60), false},
		{"coarse from behind coarse to", empty(0, 0, 120, 120, 60), false},
		{"coarse from at coarse to", empty(0, 0, 120, 60, 60), true},
		{"raw from below 0", empty(-1, 0, 120, 0, 60), false},
		{"raw from at fine to", empty(120, 0, 120, 0, 60), true},
		{"raw from behind fine to", empty(121, 0, 120, 0, 60), false},
		{"raw from anywhere up to it", empty(7, 0, 120, 0, 60), true},
		{"fine from at coarse to", empty(0, 60, 120, 0, 60), true},
		{"fine from behind coarse to", empty(0, 70, 120, 0, 60), false},
		{"coarse to at fine to", empty(0, 0, 120, 0, 120), true},
		{"coarse to behind fine to", empty(0, 0, 120, 0, 180), false},
		{"coarse to far ahead of fine to", empty(0, 0, 600, 0, 0), true},
		{"the least numbers", empty(math.MinInt, math.MinInt, math.MinInt, math.MinInt, math.MinInt), false},
		{"the greatest numbers", empty(math.MaxInt, math.MaxInt, math.MaxInt, math.MaxInt, math.MaxInt), false},
	} {
		want := api.ErrFit
		if c.ok {
			want = api.OK
		}
		if got := Wrong(c.s); got != want {
			t.Errorf("%s: %v, not %v", c.name, got, want)
		}
	}
}

// G1: samples and buckets are within what their tier has, each of them.
func TestWrongEntries(t *testing.T) {
	for _, c := range []struct {
		name string
		s    api.Shelf
		ok   bool
	}{
		{"a sample just ahead", but(func(s *api.Shelf) { s.Raw = raw(154, 1, 160, 2) }), false},
		{"a sample far behind", but(func(s *api.Shelf) { s.Raw = raw(155, 1, 900000, 2) }), true},
		{"no samples", but(func(s *api.Shelf) { s.Raw = nil }), true},
		{"a fine bucket ahead", but(func(s *api.Shelf) { s.Fine = []api.Bucket{one(80, 1), one(100, 1)} }), false},
		{"the first and the last fine one", but(func(s *api.Shelf) { s.Fine = []api.Bucket{one(90, 1), one(190, 1)} }), true},
		{"a fine bucket behind", but(func(s *api.Shelf) { s.Fine = []api.Bucket{one(90, 1), one(200, 1)} }), false},
		{"no fine buckets", but(func(s *api.Shelf) { s.Fine = nil }), true},
		{"a coarse bucket ahead", but(func(s *api.Shelf) { s.Coarse = []api.Bucket{one(0, 1), one(60, 1)} }), false},
		{"a coarse bucket behind", but(func(s *api.Shelf) { s.Coarse = []api.Bucket{one(60, 1), one(180, 1)} }), false},
		{"no coarse buckets", but(func(s *api.Shelf) { s.Coarse = nil }), true},
		{"a fine bucket where there are none", api.Shelf{Fine: row(1, 0, 10)}, false},
		{"a coarse bucket where there are none", api.Shelf{Coarse: row(1, 0, 60)}, false},
		{"sums that nothing comes to", but(func(s *api.Shelf) { s.Fine[0].Sum.Total, s.Coarse[0].Sum.Rise = math.MaxInt, math.MinInt }), true},
	} {
		want := api.ErrFit
		if c.ok {
			want = api.OK
		}
		if got := Wrong(c.s); got != want {
			t.Errorf("%s: %v, not %v", c.name, got, want)
		}
	}
}

// G1: all others begin with what Wrong says, whatever else is wrong.
func TestBeginWithWrong(t *testing.T) {
	for _, c := range []struct {
		s    api.Shelf
		want api.Errno
	}{
		{but(func(s *api.Shelf) { s.Series = series("a=1") }), api.ErrName},
		{but(func(s *api.Shelf) { s.Raw = many(501, 200, 1) }), api.ErrMany},
		{but(func(s *api.Shelf) { s.Fine[0].At = 200 }), api.ErrForm},
		{but(func(s *api.Shelf) { s.RawFrom = 201 }), api.ErrFit},
	} {
		for _, to := range []int{-1, 100, 300} {
			got, err := Append(c.s, api.Sample{Time: to})
			fails(t, "append", got, err, c.want)
			got, err = Roll(c.s, to)
			fails(t, "roll", got, err, c.want)
			for tier := -1; tier < 4; tier++ {
				got, err = Forget(c.s, tier, to)
				fails(t, "forget", got, err, c.want)
			}
		}
	}
}

// G2: a sample is the last one of Raw.
func TestAppend(t *testing.T) {
	for _, c := range []struct {
		name string
		s    api.Shelf
		x    api.Sample
		want []api.Sample
	}{
		{"the first one", New(series("host=a")), api.Sample{}, raw(0, 0)},
		{"just behind the last one", kept200(), api.Sample{Time: 216, Value: 9}, raw(155, 1, 169, 2, 170, 3, 215, 4, 216, 9)},
		{"at FineTo", but(func(s *api.Shelf) { s.Raw = nil }), api.Sample{Time: 200, Value: 9}, raw(200, 9)},
		{"at FineTo, behind others", but(func(s *api.Shelf) { s.Raw = raw(199, 1) }), api.Sample{Time: 200, Value: 9}, raw(199, 1, 200, 9)},
		{"as late as may be", kept200(), api.Sample{Time: api.MaxTime, Value: -api.MaxValue}, raw(155, 1, 169, 2, 170, 3, 215, 4, api.MaxTime, -api.MaxValue)},
		{"one less than all", but(func(s *api.Shelf) { s.Raw = many(499, 200, 1) }), api.Sample{Time: 699, Value: 1}, many(500, 200, 1)},
	} {
		want := c.s
		want.Raw = c.want
		got, err := Append(c.s, c.x)
		is(t, c.name, got, err, want)
	}
}

// G2: what may not be appended, and which error is told first.
func TestAppendErrors(t *testing.T) {
	full := but(func(s *api.Shelf) { s.Raw = many(500, 200, 1) })
	for _, c := range []struct {
		name string
		s    api.Shelf
		x    api.Sample
		want api.Errno
	}{
		{"a time below 0", kept200(), api.Sample{Time: -1}, api.ErrRange},
		{"too late a time", kept200(), api.Sample{Time: api.MaxTime + 1}, api.ErrRange},
		{"too great a value", kept200(), api.Sample{Time: 300, Value: api.MaxValue + 1}, api.ErrRange},
		{"too small a value", kept200(), api.Sample{Time: 300, Value: -api.MaxValue - 1}, api.ErrRange},
		{"range ahead of late", kept200(), api.Sample{Time: 5, Value: api.MaxValue + 1}, api.ErrRange},
		{"range ahead of many", full, api.Sample{Time: 900, Value: api.MaxValue + 1}, api.ErrRange},
		{"just below FineTo", but(func(s *api.Shelf) { s.Raw = nil }), api.Sample{Time: 199}, api.ErrLate},
		{"below FineTo, behind others", but(func(s *api.Shelf) { s.Raw = raw(155, 1) }), api.Sample{Time: 160}, api.ErrLate},
		{"at the last one", kept200(), api.Sample{Time: 215}, api.ErrLate},
		{"ahead of the last one", kept200(), api.Sample{Time: 214}, api.ErrLate},
		{"late ahead of many", full, api.Sample{Time: 699}, api.ErrLate},
		{"too many", full, api.Sample{Time: 700}, api.ErrMany},
	} {
		got, err := Append(c.s, c.x)
		fails(t, c.name, got, err, c.want)
	}
}

// G2: example 7, and what goes to which buckets.
func TestRoll(t *testing.T) {
	s := New(series("host=a"))
	s.Raw = raw(5, 7, 9, 4, 10, 1, 59, 3, 60, 8, 69, 9, 70, 2)
	zero := api.Bucket{At: 0, Sum: api.Sum{Count: 2, Total: 11, Min: 4, Max: 7, First: 7, Last: 4, Rise: 4}}
	sixty := api.Bucket{At: 60, Sum: api.Sum{Count: 2, Total: 17, Min: 8, Max: 9, First: 8, Last: 9, Rise: 1}}
	coarse := api.Bucket{At: 0, Sum: api.Sum{Count: 4, Total: 15, Min: 1, Max: 7, First: 7, Last: 3, Rise: 7}}
	for _, c := range []struct {
		to       int
		fineTo   int
		fine     []api.Bucket
		coarseTo int
		coarse   []api.Bucket
	}{
		{0, 0, nil, 0, nil},
		{9, 0, nil, 0, nil},
		{10, 10, []api.Bucket{zero}, 0, nil},
		{19, 10, []api.Bucket{zero}, 0, nil},
		{20, 20, []api.Bucket{zero, one(10, 1)}, 0, nil},
		{59, 50, []api.Bucket{zero, one(10, 1)}, 0, nil},
		{60, 60, []api.Bucket{zero, one(10, 1), one(50, 3)}, 60, []api.Bucket{coarse}},
		{70, 70, []api.Bucket{zero, one(10, 1), one(50, 3), sixty}, 60, []api.Bucket{coarse}},
		{api.MaxTime, 1000000, []api.Bucket{zero, one(10, 1), one(50, 3), sixty, one(70, 2)}, 999960, []api.Bucket{coarse, {At: 60, Sum: api.Sum{Count: 3, Total: 19, Min: 2, Max: 9, First: 8, Last: 2, Rise: 3}}}},
	} {
		want := s
		want.Fine, want.FineTo, want.Coarse, want.CoarseTo = c.fine, c.fineTo, c.coarse, c.coarseTo
		got, err := Roll(s, c.to)
		is(t, "at once", got, err, want)
		got, err = Roll(got, c.to)
		is(t, "again", got, err, want)
		steps := s
		for to := range min(c.to, 100) + 1 {
			if steps, err = Roll(steps, to); err != api.OK {
				t.Fatalf("%d: %v", to, err)
			}
		}
		steps, err = Roll(steps, c.to)
		is(t, "tick by tick", steps, err, want)
	}
}

// G2: tiers that are there go on from where they end, and stay where they are further.
func TestRollOn(t *testing.T) {
	joined := api.Bucket{At: 180, Sum: api.Sum{Count: 2, Total: 13, Min: 4, Max: 9, First: 9, Last: 4, Rise: 4}}
	for _, c := range []struct {
		name string
		s    api.Shelf
		to   int
		want api.Shelf
	}{
		{"below FineTo", kept200(), 150, kept200()},
		{"to 0", kept200(), 0, kept200()},
		{"to FineTo", kept200(), 200, kept200()},
		{"below the next one", kept200(), 209, kept200()},
		{"no bucket, but further", kept200(), 210, but(func(s *api.Shelf) { s.FineTo = 210 })},
		{"a fine one", kept200(), 220, but(func(s *api.Shelf) { s.FineTo, s.Fine = 220, append(s.Fine, one(210, 4)) })},
		{"a coarse one, of what was fine and of what comes", but(func(s *api.Shelf) { s.Fine = append(s.Fine, one(190, 9)) }), 240, but(func(s *api.Shelf) {
			s.FineTo, s.Fine = 240, append(s.Fine, one(190, 9), one(210, 4))
			s.CoarseTo, s.Coarse = 240, append(s.Coarse, joined)
		})},
		{"what was rolled is not rolled again", but(func(s *api.Shelf) { s.Fine, s.Coarse = nil, nil }), 200, but(func(s *api.Shelf) { s.Fine, s.Coarse = nil, nil })},
		{"coarse ones up to FineTo, though that stays", but(func(s *api.Shelf) { s.CoarseTo, s.Coarse = 120, nil }), 0, but(func(s *api.Shelf) {
			s.Coarse = []api.Bucket{{At: 120, Sum: api.Sum{Count: 4, Total: 12, Min: 1, Max: 6, First: 6, Last: 3, Rise: 3}}}
		})},
		{"a sample at MaxTime stays raw alone", api.Shelf{Raw: raw(999999, 1, api.MaxTime, 2)}, api.MaxTime, api.Shelf{Raw: raw(999999, 1, api.MaxTime, 2), Fine: []api.Bucket{one(999990, 1)}, FineTo: 1000000, CoarseTo: 999960}},
	} {
		got, err := Roll(c.s, c.to)
		is(t, c.name, got, err, c.want)
	}
}

// G2: to what may not be rolled, and how many buckets there may be.
func TestRollErrors(t *testing.T) {
	fine := func(n int) api.Shelf { return api.Shelf{Fine: row(n, 0, 10), FineTo: 6000, Raw: raw(6001, 1, 6011, 1)} }
	coarse := func(n int) api.Shelf {
		return api.Shelf{Coarse: row(n, 0, 60), FineFrom: 30000, FineTo: 30000, CoarseTo: 30000, Raw: raw(30001, 1, 30061, 1)}
	}
	for _, c := range []struct {
		name string
		s    api.Shelf
		to   int
		want api.Errno
	}{
		{"below 0", kept200(), -1, api.ErrRange},
		{"behind MaxTime", kept200(), api.MaxTime + 1, api.ErrRange},
		{"the least number", kept200(), math.MinInt, api.ErrRange},
		{"the greatest number", kept200(), math.MaxInt, api.ErrRange},
		{"range ahead of many", fine(500), api.MaxTime + 1, api.ErrRange},
		{"one fine bucket too many", fine(500), 6010, api.ErrMany},
		{"two more than 499", fine(499), 6020, api.ErrMany},
		{"one coarse bucket too many", coarse(500), 30060, api.ErrMany},
		{"two more than 499 coarse ones", coarse(499), 30120, api.ErrMany},
	} {
		got, err := Roll(c.s, c.to)
		fails(t, c.name, got, err, c.want)
	}
	for _, c := range []struct {
		name         string
		s            api.Shelf
		to           int
		fine, coarse int
	}{
		{"full, and nothing comes", fine(500), 6000, 500, 84},
		{"one more than 499", fine(499), 6010, 500, 84},
		{"coarse ones full, and nothing comes", coarse(500), 30010, 1, 500},
		{"one more than 499 coarse ones", coarse(499), 30060, 1, 500},
	} {
		got, err := Roll(c.s, c.to)
		if err != api.OK || len(got.Fine) != c.fine || len(got.Coarse) != c.coarse || Wrong(got) != api.OK {
			t.Errorf("%s: %d %d %v %v", c.name, len(got.Fine), len(got.Coarse), err, Wrong(got))
		}
	}
}

// G2: what is ahead goes, of one tier, and not farther than the next one goes.
func TestForget(t *testing.T) {
	for _, c := range []struct {
		name     string
		tier, to int
		want     api.Shelf
	}{
		{"raw, below RawFrom", api.Raw, 100, kept200()},
		{"raw, at RawFrom", api.Raw, 155, kept200()},
		{"raw, one tick", api.Raw, 156, but(func(s *api.Shelf) { s.RawFrom, s.Raw = 156, s.Raw[1:] })},
		{"raw, just at a sample", api.Raw, 169, but(func(s *api.Shelf) { s.RawFrom, s.Raw = 169, s.Raw[1:] })},
		{"raw, just behind it", api.Raw, 170, but(func(s *api.Shelf) { s.RawFrom, s.Raw = 170, s.Raw[2:] })},
		{"raw, up to FineTo", api.Raw, 200, but(func(s *api.Shelf) { s.RawFrom, s.Raw = 200, s.Raw[3:] })},
		{"raw, behind FineTo", api.Raw, 216, but(func(s *api.Shelf) { s.RawFrom, s.Raw = 200, s.Raw[3:] })},
		{"raw, all there is", api.Raw, api.MaxTime, but(func(s *api.Shelf) { s.RawFrom, s.Raw = 200, s.Raw[3:] })},
		{"fine, to 0", api.Fine, 0, kept200()},
		{"fine, at FineFrom", api.Fine, 99, kept200()},
		{"fine, one step", api.Fine, 100, but(func(s *api.Shelf) { s.FineFrom, s.Fine = 100, s.Fine[1:] })},
		{"fine, between", api.Fine, 129, but(func(s *api.Shelf) { s.FineFrom, s.Fine = 120, s.Fine[1:] })},
		{"fine, behind one", api.Fine, 130, but(func(s *api.Shelf) { s.FineFrom, s.Fine = 130, s.Fine[2:] })},
		{"fine, up to CoarseTo", api.Fine, 180, but(func(s *api.Shelf) { s.FineFrom, s.Fine = 180, nil })},
		{"fine, behind CoarseTo", api.Fine, 199, but(func(s *api.Shelf) { s.FineFrom, s.Fine = 180, nil })},
		{"coarse, to 0", api.Coarse, 0, kept200()},
		{"coarse, at CoarseFrom", api.Coarse, 119, kept200()},
		{"coarse, one step", api.Coarse, 120, but(func(s *api.Shelf) { s.CoarseFrom, s.Coarse = 120, s.Coarse[1:] })},
		{"coarse, between", api.Coarse, 179, but(func(s *api.Shelf) { s.CoarseFrom, s.Coarse = 120, s.Coarse[1:] })},
		{"coarse, up to CoarseTo", api.Coarse, 180, but(func(s *api.Shelf) { s.CoarseFrom, s.Coarse = 180, nil })},
		{"coarse, behind CoarseTo", api.Coarse, api.MaxTime, but(func(s *api.Shelf) { s.CoarseFrom, s.Coarse = 180, nil })},
	} {
		got, err := Forget(kept200(), c.tier, c.to)
		is(t, c.name, got, err, c.want)
	}
	for tier := api.Raw; tier <= api.Coarse; tier++ {
		got, err := Forget(New(series("host=a")), tier, 500)
		is(t, "of nothing", got, err, New(series("host=a")))
	}
}

// G2: what may not be forgotten; ErrRange comes ahead of ErrKind.
func TestForgetErrors(t *testing.T) {
	for _, tier := range []int{math.MinInt, -1, api.Raw, api.Fine, api.Coarse, 3, math.MaxInt} {
		for _, to := range []int{math.MinInt, -1, api.MaxTime + 1, math.MaxInt} {
			got, err := Forget(kept200(), tier, to)
			fails(t, "no such time", got, err, api.ErrRange)
		}
		for _, to := range []int{0, 150, api.MaxTime} {
			got, err := Forget(kept200(), tier, to)
			if tier >= api.Raw && tier <= api.Coarse {
				if err != api.OK {
					t.Errorf("tier %d to %d: %v", tier, to, err)
				}
				continue
			}
			fails(t, "no such tier", got, err, api.ErrKind)
		}
	}
}

// Z3: nil and empty lists are the same.
func TestEmpty(t *testing.T) {
	none := api.Shelf{Series: api.Series{}, Raw: []api.Sample{}, Fine: []api.Bucket{}, Coarse: []api.Bucket{}}
	if Wrong(none) != api.OK {
		t.Errorf("empty lists: %v", Wrong(none))
	}
	a, errA := Append(none, api.Sample{Time: 5, Value: 6})
	b, errB := Append(api.Shelf{}, api.Sample{Time: 5, Value: 6})
	if errA != errB || !same(a, b) {
		t.Errorf("append: %v %v, %v %v", a, errA, b, errB)
	}
	a, errA = Roll(none, 100)
	b, errB = Roll(api.Shelf{}, 100)
	if errA != errB || !same(a, b) {
		t.Errorf("roll: %v %v, %v %v", a, errA, b, errB)
	}
	a, errA = Forget(none, api.Fine, 100)
	b, errB = Forget(api.Shelf{}, api.Fine, 100)
	if errA != errB || !same(a, b) {
		t.Errorf("forget: %v %v, %v %v", a, errA, b, errB)
	}
}

// roomy copies a list, so that it has spare room with a mark.
func roomy[T any](l []T, mark T) []T { return append(slices.Clone(l), mark, mark)[:len(l)] }

// roomyShelf has spare room behind each list, with marks that would be wrong.
func roomyShelf(s api.Shelf) api.Shelf {
	s.Series = roomy(s.Series, api.Label{Key: "!", Val: "!"})
	s.Raw = roomy(s.Raw, api.Sample{Time: -7, Value: -7})
	s.Fine = roomy(s.Fine, one(-7, -7))
	s.Coarse = roomy(s.Coarse, one(-7, -7))
	return s
}

// whole has a shelf with the spare room of its lists.
func whole(s api.Shelf) api.Shelf {
	s.Series = slices.Clone(s.Series[:cap(s.Series)])
	s.Raw = slices.Clone(s.Raw[:cap(s.Raw)])
	s.Fine = slices.Clone(s.Fine[:cap(s.Fine)])
	s.Coarse = slices.Clone(s.Coarse[:cap(s.Coarse)])
	return s
}

// spoil writes over each list of a shelf, its spare room too, one after the other: the others must not see it.
func spoil(t *testing.T, s api.Shelf) {
	t.Helper()
	full := whole(s)
	for i := range cap(s.Fine) {
		s.Fine[:cap(s.Fine)][i] = one(-9, -9)
	}
	if now := whole(s); !reflect.DeepEqual(now.Coarse, full.Coarse) {
		t.Error("buckets of two tiers share memory")
	}
	for i := range cap(s.Coarse) {
		s.Coarse[:cap(s.Coarse)][i] = one(-9, -9)
	}
	for i := range cap(s.Raw) {
		s.Raw[:cap(s.Raw)][i] = api.Sample{Time: -9, Value: -9}
	}
	for i := range cap(s.Series) {
		s.Series[:cap(s.Series)][i] = api.Label{Key: "?", Val: "?"}
	}
}

// Z2: what is handed in stays, its spare room too; it may be changed behind the answer, and the answer may be.
func TestMemory(t *testing.T) {
	for name, call := range map[string]func(s api.Shelf) (api.Shelf, api.Errno){
		"new":           func(s api.Shelf) (api.Shelf, api.Errno) { return New(s.Series), Wrong(s) },
		"append":        func(s api.Shelf) (api.Shelf, api.Errno) { return Append(s, api.Sample{Time: 300, Value: 3}) },
		"roll":          func(s api.Shelf) (api.Shelf, api.Errno) { return Roll(s, 300) },
		"roll nothing":  func(s api.Shelf) (api.Shelf, api.Errno) { return Roll(s, 0) },
		"forget raw":    func(s api.Shelf) (api.Shelf, api.Errno) { return Forget(s, api.Raw, 170) },
		"forget fine":   func(s api.Shelf) (api.Shelf, api.Errno) { return Forget(s, api.Fine, 120) },
		"forget coarse": func(s api.Shelf) (api.Shelf, api.Errno) { return Forget(s, api.Coarse, 120) },
		"forget none":   func(s api.Shelf) (api.Shelf, api.Errno) { return Forget(s, api.Raw, 0) },
		"forget all":    func(s api.Shelf) (api.Shelf, api.Errno) { return Forget(s, api.Coarse, api.MaxTime) },
	} {
		s := roomyShelf(kept200())
		before := whole(s)
		want, _ := call(kept200())
		got, err := call(s)
		is(t, name, got, err, want)
		spoil(t, got)
		if !reflect.DeepEqual(whole(s), before) {
			t.Errorf("%s: what was handed in is changed", name)
		}
		got, err = call(s)
		spoil(t, s)
		is(t, name+", then another shelf", got, err, want)
	}
}
