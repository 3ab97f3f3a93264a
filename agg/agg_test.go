package agg

import (
	"math"
	"math/rand"
	"slices"
	"strings"
	"testing"

	"grainstore/api"
)

// samples have these values, one tick behind the other.
func samples(values ...int) []api.Sample {
	var out []api.Sample
	for i, v := range values {
		out = append(out, api.Sample{Time: i, Value: v})
	}
	return out
}

// told is what samples come to, field by field, by the document's words.
func told(l []api.Sample) api.Sum {
	if len(l) == 0 {
		return api.Sum{}
	}
	s := api.Sum{Count: len(l), First: l[0].Value, Last: l[len(l)-1].Value}
	var values []int
	for i, x := range l {
		values = append(values, x.Value)
		s.Total += x.Value
		switch {
		case i == 0:
		case x.Value < l[i-1].Value:
			s.Rise += x.Value
		default:
			s.Rise += x.Value - l[i-1].Value
		}
	}
	s.Min, s.Max = slices.Min(values), slices.Max(values)
	return s
}

// B1: ordinary samples, none, one, values below 0, and numbers that go over.
func TestOf(t *testing.T) {
	for _, c := range []struct {
		name   string
		values []int
		want   api.Sum
	}{
		{"none", nil, api.Sum{}},
		{"one", []int{5}, api.Sum{Count: 1, Total: 5, Min: 5, Max: 5, First: 5, Last: 5}},
		{"one 0", []int{0}, api.Sum{Count: 1}},
		{"one below 0", []int{-5}, api.Sum{Count: 1, Total: -5, Min: -5, Max: -5, First: -5, Last: -5}},
		{"example 2", []int{5, 9, 2}, api.Sum{Count: 3, Total: 16, Min: 2, Max: 9, First: 5, Last: 2, Rise: 6}},
		{"same", []int{4, 4, 4}, api.Sum{Count: 3, Total: 12, Min: 4, Max: 4, First: 4, Last: 4}},
		{"falling", []int{9, 5, 1}, api.Sum{Count: 3, Total: 15, Min: 1, Max: 9, First: 9, Last: 1, Rise: 6}},
		{"falling below 0", []int{-3, -7}, api.Sum{Count: 2, Total: -10, Min: -7, Max: -3, First: -3, Last: -7, Rise: -7}},
		{"rising from below 0", []int{-7, -3, 2}, api.Sum{Count: 3, Total: -8, Min: -7, Max: 2, First: -7, Last: 2, Rise: 9}},
		{"to 0 and back", []int{9, 0, 9}, api.Sum{Count: 3, Total: 18, Max: 9, First: 9, Last: 9, Rise: 9}},
		{"least and greatest inside", []int{0, 8, -8, 1}, api.Sum{Count: 4, Total: 1, Min: -8, Max: 8, Last: 1, Rise: 9}},
		{"total goes over", []int{math.MaxInt, 1}, api.Sum{Count: 2, Total: math.MinInt, Min: 1, Max: math.MaxInt, First: math.MaxInt, Last: 1, Rise: 1}},
		{"rise goes over", []int{math.MinInt, math.MaxInt}, api.Sum{Count: 2, Total: -1, Min: math.MinInt, Max: math.MaxInt, First: math.MinInt, Last: math.MaxInt, Rise: -1}},
		{"greatest to least", []int{math.MaxInt, math.MinInt}, api.Sum{Count: 2, Total: -1, Min: math.MinInt, Max: math.MaxInt, First: math.MaxInt, Last: math.MinInt, Rise: math.MinInt}},
	} {
		if got := Of(samples(c.values...)); got != c.want {
			t.Errorf("%s: %v, not %v", c.name, got, c.want)
		}
	}
	if got := Of([]api.Sample{}); got != (api.Sum{}) {
		t.Errorf("of an empty list: %v", got)
	}
}

// B1: how samples come to their sum has nothing to do with their times.
func TestOfAsksNoTimes(t *testing.T) {
	l := []api.Sample{{Time: 9, Value: 5}, {Time: -3, Value: 9}, {Time: 9, Value: 2}}
	if got, want := Of(l), Of(samples(5, 9, 2)); got != want {
		t.Errorf("%v, not %v", got, want)
	}
}

// B1.
func TestOne(t *testing.T) {
	for _, v := range []int{0, 1, -1, 7, math.MaxInt, math.MinInt} {
		want := api.Sum{Count: 1, Total: v, Min: v, Max: v, First: v, Last: v}
		if got := One(v); got != want {
			t.Errorf("%d: %v, not %v", v, got, want)
		}
	}
}

// B1: sums without samples, told or made up, are joined by their Count alone.
func TestJoin(t *testing.T) {
	full := Of(samples(5, 9, 2))
	odd := api.Sum{Total: 1, Min: 2, Max: 3, First: 4, Last: 5, Rise: 6}
	other := api.Sum{Total: -1, Rise: 9}
	below := api.Sum{Count: -1, Total: 10, Min: 3, Max: 4, First: 1, Last: 1, Rise: 2}
	for _, c := range []struct {
		name       string
		a, b, want api.Sum
	}{
		{"none", api.Sum{}, api.Sum{}, api.Sum{}},
		{"none ahead", api.Sum{}, full, full},
		{"none behind", full, api.Sum{}, full},
		{"odd ahead", odd, full, full},
		{"odd behind", full, odd, full},
		{"both odd: b", odd, other, other},
		{"example 2 in parts", Of(samples(5, 9)), One(2), full},
		{"rise between", One(5), Of(samples(9, 2)), full},
		{"Count below 0 ahead", below, One(5), api.Sum{Total: 15, Min: 3, Max: 5, First: 1, Last: 5, Rise: 6}},
		{"Count below 0 behind", One(5), below, api.Sum{Total: 15, Min: 3, Max: 5, First: 5, Last: 1, Rise: 3}},
		{"none and Count below 0", api.Sum{}, below, below},
		{"all goes over",
			api.Sum{Count: math.MaxInt, Total: math.MinInt, Last: math.MinInt, Rise: math.MaxInt},
			api.Sum{Count: 1, Total: -1, First: math.MaxInt, Rise: 2},
			api.Sum{Count: math.MinInt, Total: math.MaxInt, Rise: math.MinInt}},
	} {
		if got := Join(c.a, c.b); got != c.want {
			t.Errorf("%s: %v, not %v", c.name, got, c.want)
		}
	}
}

// value is a small one mostly, and now and then one that makes numbers go over.
func value(r *rand.Rand) int {
	if r.Intn(8) == 0 {
		return int(r.Uint64())
	}
	return r.Intn(9) - 4
}

// B1: wherever samples are cut, their parts come to what all come to at once.
func TestPartByPart(t *testing.T) {
	r := rand.New(rand.NewSource(2))
	for range 500 {
		var values []int
		for range r.Intn(9) {
			values = append(values, value(r))
		}
		l := samples(values...)
		want := told(l)
		if got := Of(l); got != want {
			t.Fatalf("%v: %v, not %v", values, got, want)
		}
		for i := range len(l) + 1 {
			for j := range i + 1 {
				a, b, c := Of(l[:j]), Of(l[j:i]), Of(l[i:])
				if got := Join(Join(a, b), c); got != want {
					t.Fatalf("%v cut at %d and %d: %v, not %v", values, j, i, got, want)
				}
				if got := Join(a, Join(b, c)); got != want {
					t.Fatalf("%v cut at %d and %d, from behind: %v, not %v", values, j, i, got, want)
				}
			}
		}
	}
}

// B2.
func TestWords(t *testing.T) {
	const want = "avg count first last max min rise sum"
	if got := strings.Join(Words(), " "); got != want {
		t.Errorf("%s, not %s", got, want)
	}
}

// Z2: whoever was handed the words may change them.
func TestWordsAreTheCallers(t *testing.T) {
	l := Words()
	want := slices.Clone(l)
	clear(l[:cap(l)])
	if got := Words(); !slices.Equal(got, want) {
		t.Errorf("%v, not %v", got, want)
	}
	if _, ok := Value("avg", One(1)); !ok {
		t.Error("avg is no word any more")
	}
}

// B2: each word asks for its own field.
func TestValue(t *testing.T) {
	s := api.Sum{Count: 3, Total: 17, Min: 2, Max: 9, First: 4, Last: 6, Rise: 8}
	want := []int{5, 3, 4, 6, 9, 2, 8, 17}
	for i, w := range Words() {
		if got, ok := Value(w, s); got != want[i] || !ok {
			t.Errorf("%s: %d %v, not %d", w, got, ok, want[i])
		}
	}
}

// B2: towards 0, on both sides of it.
func TestAverage(t *testing.T) {
	for _, c := range []struct{ total, count, want int }{
		{7, 2, 3}, {-7, 2, -3}, {1, 2, 0}, {-1, 2, 0}, {6, 2, 3}, {-6, 2, -3}, {0, 5, 0}, {9, 1, 9},
		{math.MinInt, 1, math.MinInt}, {math.MaxInt, math.MaxInt, 1}, {math.MinInt, math.MaxInt, -1},
	} {
		got, ok := Value("avg", api.Sum{Count: c.count, Total: c.total})
		if got != c.want || !ok {
			t.Errorf("%d by %d: %d %v, not %d", c.total, c.count, got, ok, c.want)
		}
	}
}

// B2: no such word, whatever the sum has, and no sample, whichever the word.
func TestNoValue(t *testing.T) {
	s := Of(samples(5, 9, 2))
	for _, w := range []string{"", " ", "total", "Sum", "AVG", "av", "avgs", " avg", "sum ", "avg count", "sum\x00"} {
		if got, ok := Value(w, s); got != 0 || ok {
			t.Errorf("%q: %d %v", w, got, ok)
		}
	}
	for _, n := range []int{0, -1, math.MinInt} {
		s.Count = n
		for _, w := range append(Words(), "", "total") {
			if got, ok := Value(w, s); got != 0 || ok {
				t.Errorf("%s of Count %d: %d %v", w, n, got, ok)
			}
		}
	}
}

// Z2: samples are only read, and what lies behind them isn't looked at.
func TestOfOnlyReads(t *testing.T) {
	room := samples(5, 9, 2, 100, -100)
	was := slices.Clone(room)
	if got, want := Of(room[:3]), Of(samples(5, 9, 2)); got != want {
		t.Errorf("%v, not %v", got, want)
	}
	if !slices.Equal(room, was) {
		t.Errorf("%v, not %v", room, was)
	}
}
