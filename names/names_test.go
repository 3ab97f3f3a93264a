package names

import (
	"math"
	"math/rand"
	"slices"
	"strings"
	"testing"

	"grainstore/api"
)

// series has labels by turns of a key and what it says.
func series(l ...string) api.Series {
	var out api.Series
	for i := 0; i+1 < len(l); i += 2 {
		out = append(out, api.Label{Key: l[i], Val: l[i+1]})
	}
	return out
}

// D1.
func TestNamed(t *testing.T) {
	for _, c := range []struct {
		s    string
		want bool
	}{
		{"", false}, {"a", true}, {"z", true}, {"host", true}, {"a_1", true}, {"a_", true}, {"a__9", true}, {"z0", true},
		{"A", false}, {"1", false}, {"_", false}, {"_a", false}, {"1a", false}, {"aB", false}, {"hostA", false},
		{"abcdefghijkl", true}, {"abcdefghijklm", false}, {"a12345678901", true}, {"a123456789012", false}, {"a___________", true},
		{"abcdefghijkL", false}, {"abcdefghijk-", false}, {strings.Repeat("a", 1000), false},
		{"a b", false}, {" a", false}, {"a ", false}, {"a\n", false}, {"a\x00", false}, {"\x00a", false},
		{"é", false}, {"aé", false}, {"a\u0663", false}, {"\u00e4b", false}, {"a\xff", false}, {"\xff", false},
	} {
		if got := Named(c.s); got != c.want {
			t.Errorf("%q: %v, not %v", c.s, got, c.want)
		}
	}
}

// D1: each byte, in each place that there is.
func TestNamedBytes(t *testing.T) {
	const letters = "abcdefghijklmnopqrstuvwxyz"
	for b := range 256 {
		one := string([]byte{byte(b)})
		for _, size := range []int{1, 2, api.MaxName} {
			for at := range size {
				s := strings.Repeat("a", at) + one + strings.Repeat("a", size-at-1)
				may := letters
				if at > 0 {
					may += "0123456789_"
				}
				if got, want := Named(s), strings.Contains(may, one); got != want {
					t.Errorf("%q: %v, not %v", s, got, want)
				}
			}
		}
	}
}

// D1: what is wrong, and which error is told first.
func TestWrong(t *testing.T) {
	for _, c := range []struct {
		name string
		s    api.Series
		want api.Errno
	}{
		{"none", nil, api.OK},
		{"empty", api.Series{}, api.OK},
		{"one", series("host", "a"), api.OK},
		{"as long as may be", series("abcdefghijkl", "lkjihgfedcba"), api.OK},
		{"values need not rise", series("a", "z", "b", "b", "c", "b"), api.OK},
		{"a key that goes on is greater", series("a", "b", "a1", "b", "a_", "b", "aa", "b"), api.OK},
		{"as many as may be", series("a", "b", "c", "b", "d", "b", "e", "b"), api.OK},
		{"one too many", series("a", "b", "c", "b", "d", "b", "e", "b", "f", "b"), api.ErrMany},
		{"too many come ahead of no name", series("", "b", "c", "b", "d", "b", "e", "b", "f", "b"), api.ErrMany},
		{"too many come ahead of falling", series("f", "b", "e", "b", "d", "b", "c", "b", "a", "b"), api.ErrMany},
		{"no key", series("", "b"), api.ErrName},
		{"no value", series("a", ""), api.ErrName},
		{"key is no name", series("A", "b"), api.ErrName},
		{"value is no name", series("a", "1"), api.ErrName},
		{"key is too long", series("abcdefghijklm", "a"), api.ErrName},
		{"value is too long", series("a", "abcdefghijklm"), api.ErrName},
		{"the last key is no name", series("a", "b", "c", "b", "d", "b", "e-", "b"), api.ErrName},
		{"the last value is no name", series("a", "b", "c", "b", "d", "b", "e", "b-"), api.ErrName},
		{"twice", series("a", "b", "a", "c"), api.ErrForm},
		{"the same label twice", series("a", "b", "a", "b"), api.ErrForm},
		{"falling", series("b", "a", "a", "b"), api.ErrForm},
		{"falling at the end", series("a", "b", "c", "b", "d", "b", "cz", "b"), api.ErrForm},
		{"no name comes ahead of falling", series("b", "a", "a", ""), api.ErrName},
		{"a key that is no name comes ahead of falling", series("b", "a", "A", "b"), api.ErrName},
		{"falling comes ahead of no name further on", series("b", "a", "a", "b", "c", ""), api.ErrForm},
	} {
		if got := Wrong(c.s); got != c.want {
			t.Errorf("%s: %v, not %v", c.name, got, c.want)
		}
	}
}

// D1: each one comes ahead of all that stand behind it, whether it is right or not.
func TestCompare(t *testing.T) {
	rising := []api.Series{
		{},
		series("", ""),
		series("", "a"),
		series("A", "b"),
		series("a", ""),
		series("a", "b"),
		series("a", "b", "a", "c"),
		series("a", "b", "c", "d"),
		series("a", "b", "c", "e"),
		series("a", "b", "c", "e", "d", "a"),
		series("a", "b", "d", "a"),
		series("a", "b1"),
		series("a", "b_"),
		series("a", "ba"),
		series("a", "c"),
		series("a1", "a"),
		series("a_", "a"),
		series("aa", "a"),
		series("b", "a"),
		series("host", "a"),
		series("host", "b"),
		series("host", "é"),
		series("host", "\xff"),
		series("é", "a"),
		series("\xff", "a"),
	}
	for i, a := range rising {
		for j, b := range rising {
			got := Compare(a, b)
			if got < 0 != (i < j) || got > 0 != (i > j) {
				t.Errorf("%q and %q: %d", a, b, got)
			}
		}
	}
	if Compare(nil, api.Series{}) != 0 || Compare(api.Series{}, nil) != 0 || Compare(nil, nil) != 0 {
		t.Error("none and empty differ")
	}
	if Compare(nil, rising[1]) >= 0 || Compare(rising[1], nil) <= 0 {
		t.Error("none does not come first")
	}
}

// D1.
func TestGet(t *testing.T) {
	right := series("host", "a", "job", "web")
	odd := series("b", "x", "a", "y", "b", "z", "", "w", "A", "")
	for _, c := range []struct {
		s    api.Series
		key  string
		want string
		has  bool
	}{
		{nil, "a", "", false}, {nil, "", "", false}, {api.Series{}, "a", "", false},
		{right, "host", "a", true}, {right, "job", "web", true},
		{right, "hos", "", false}, {right, "hosts", "", false}, {right, "Host", "", false}, {right, "a", "", false}, {right, "", "", false},
		{odd, "b", "x", true}, {odd, "a", "y", true}, {odd, "", "w", true}, {odd, "A", "", true}, {odd, "c", "", false},
	} {
		if got, has := Get(c.s, c.key); got != c.want || has != c.has {
			t.Errorf("%q of %q: %q, %v, not %q, %v", c.key, c.s, got, has, c.want, c.has)
		}
	}
}

// D1: one match, by its kind.
func TestMatchesOne(t *testing.T) {
	right := series("host", "a", "job", "web")
	twice := series("a", "b", "a", "c")
	blank := series("a", "")
	for _, c := range []struct {
		name                  string
		s                     api.Series
		key, val              string
		is, isNot, has, lacks bool
	}{
		{"it says so", right, "job", "web", true, false, true, false},
		{"it says otherwise", right, "job", "db", false, true, true, false},
		{"it says more", right, "job", "we", false, true, true, false},
		{"it is another key's", right, "host", "web", false, true, true, false},
		{"it has not the key", right, "zone", "web", false, true, false, true},
		{"it has not the key, and nothing is asked", right, "zone", "", false, true, false, true},
		{"it has the key, and nothing is asked", right, "job", "", false, true, true, false},
		{"without labels", nil, "job", "web", false, true, false, true},
		{"without labels, and nothing is asked", nil, "", "", false, true, false, true},
		{"the first one of two says so", twice, "a", "b", true, false, true, false},
		{"the second one of two says so", twice, "a", "c", false, true, true, false},
		{"it says nothing", blank, "a", "", true, false, true, false},
	} {
		wants := []struct {
			kind int
			want bool
		}{{api.Is, c.is}, {api.IsNot, c.isNot}, {api.Has, c.has}, {api.Lacks, c.lacks}, {0, false}, {5, false}, {-1, false}, {math.MinInt, false}, {math.MaxInt, false}}
		for _, w := range wants {
			m := api.Match{Kind: w.kind, Key: c.key, Val: c.val}
			if got := Matches(c.s, []api.Match{m}); got != w.want {
				t.Errorf("%s, kind %d: %v, not %v", c.name, w.kind, got, w.want)
			}
		}
	}
}

// D1: several matches.
func TestMatches(t *testing.T) {
	s := series("host", "a", "job", "web")
	yes := []api.Match{{Kind: api.Is, Key: "job", Val: "web"}, {Kind: api.IsNot, Key: "host", Val: "b"}, {Kind: api.Has, Key: "host"}, {Kind: api.Lacks, Key: "test"}}
	no := []api.Match{{Kind: api.Is, Key: "job", Val: "db"}, {Kind: api.IsNot, Key: "host", Val: "a"}, {Kind: api.Has, Key: "test"}, {Kind: api.Lacks, Key: "job"}, {}, {Kind: 5, Key: "job", Val: "web"}}
	if !Matches(s, nil) || !Matches(s, []api.Match{}) || !Matches(nil, nil) {
		t.Error("without matches it is not so")
	}
	if !Matches(s, yes) {
		t.Error("all are so, and together they are not")
	}
	if !Matches(s, slices.Repeat(yes, api.MaxMatches)) {
		t.Error("more than a selector has are not so")
	}
	for _, m := range no {
		for at := range len(yes) + 1 {
			if Matches(s, slices.Insert(slices.Clone(yes), at, m)) {
				t.Errorf("%v at %d is not so, and together they are", m, at)
			}
		}
	}
	if !Matches(s, []api.Match{{Kind: api.Has, Key: "job", Val: "db"}, {Kind: api.Lacks, Key: "test", Val: "web"}}) {
		t.Error("Val means something to Has or Lacks")
	}
}

// D1.
func TestOnly(t *testing.T) {
	right := series("host", "a", "job", "web", "zone", "b")
	odd := series("c", "d", "a", "b", "c", "e", "", "f", "A", "")
	for _, c := range []struct {
		name string
		s    api.Series
		by   []string
		want api.Series
	}{
		{"none of none", nil, nil, nil},
		{"some of none", nil, []string{"a"}, nil},
		{"none", right, nil, nil},
		{"none, empty", right, []string{}, nil},
		{"one", right, []string{"job"}, series("job", "web")},
		{"as they stand, not as they are asked", right, []string{"zone", "host"}, series("host", "a", "zone", "b")},
		{"asked twice", right, []string{"job", "job"}, series("job", "web")},
		{"all, and more", right, []string{"a", "host", "job", "zone", ""}, right},
		{"no such key", right, []string{"web", "hos", "hosts", "", "Host"}, nil},
		{"all with one key", odd, []string{"c"}, series("c", "d", "c", "e")},
		{"not sorted", odd, []string{"a", "c"}, series("c", "d", "a", "b", "c", "e")},
		{"no names", odd, []string{"", "A"}, series("", "f", "A", "")},
	} {
		if got := Only(c.s, c.by); !slices.Equal(got, c.want) {
			t.Errorf("%s: %q, not %q", c.name, got, c.want)
		}
	}
}

// some is a series of few names, right or not.
func some(r *rand.Rand) api.Series {
	few := []string{"", "a", "b", "b_", "c", "C"}
	var out api.Series
	for range r.Intn(api.MaxLabels + 2) {
		out = append(out, api.Label{Key: few[r.Intn(len(few))], Val: few[r.Intn(len(few))]})
	}
	return out
}

// flat is a series as one text that rises as series do, while no name has a byte as low as those between.
func flat(s api.Series) string {
	var out strings.Builder
	for _, x := range s {
		out.WriteString("\x02" + x.Key + "\x01" + x.Val + "\x01")
	}
	return out.String()
}

// D1: how the functions go with each other, whatever series there are.
func TestTogether(t *testing.T) {
	r := rand.New(rand.NewSource(4))
	for range 5000 {
		a, b := some(r), some(r)
		if got, want := Compare(a, b), strings.Compare(flat(a), flat(b)); got < 0 != (want < 0) || got > 0 != (want > 0) {
			t.Fatalf("%q and %q: %d, not %d", a, b, got, want)
		}
		for _, key := range []string{"", "a", "b", "B"} {
			val, has := Get(a, key)
			only := Only(a, []string{key})
			if has != (len(only) > 0) || has && only[0] != (api.Label{Key: key, Val: val}) {
				t.Fatalf("%q of %q: %q, %v, and only %q", key, a, val, has, only)
			}
			for kind := api.Is; kind <= api.Has; kind += api.Has - api.Is {
				m := []api.Match{{Kind: kind, Key: key, Val: "b"}}
				not := []api.Match{{Kind: kind + 1, Key: key, Val: "b"}}
				if Matches(a, m) == Matches(a, not) {
					t.Fatalf("%q: %v and its opposite are the same", a, m)
				}
			}
		}
		if Wrong(a) == api.OK && Wrong(Only(a, []string{"b", "c"})) != api.OK {
			t.Fatalf("%q is right, and a part of it is not", a)
		}
	}
}

// Z2: the spare room behind lists is not looked at.
func TestSpareRoom(t *testing.T) {
	s := series("a", "b", "c", "d", "b", "")
	l := []api.Match{{Kind: api.Has, Key: "a"}, {}}
	by := []string{"a", "c"}
	if Wrong(s[:2]) != api.OK || Compare(s[:2], series("a", "b", "c", "d")) != 0 {
		t.Error("of a series that is held against others")
	}
	if _, has := Get(s[:2], "b"); has || !Matches(s[:2], l[:1]) {
		t.Error("of a series, or matches, that are asked")
	}
	if got := Only(s[:2], by[:1]); !slices.Equal(got, s[:1]) {
		t.Errorf("of a series that is left in part: %q", got)
	}
}

// Z2: lists are not changed nor kept, and what is answered is new memory.
func TestMemory(t *testing.T) {
	s := series("a", "b", "c", "d", "e", "f")
	by := []string{"a", "c", "e"}
	oldS, oldBy := slices.Clone(s), slices.Clone(by)
	got := Only(s[:2], by[:2])
	want := slices.Clone(s[:2])
	room := got[:cap(got)]
	for i := range room {
		room[i] = api.Label{Key: "x", Val: "y"}
	}
	if !slices.Equal(s, oldS) || !slices.Equal(by, oldBy) {
		t.Error("what was handed in was changed")
	}
	got = Only(s[:2], by[:2])
	clear(s)
	clear(by)
	if !slices.Equal(got, want) {
		t.Error("what was handed in was kept")
	}
}

// Z1: long lists and texts end, too.
func TestLong(t *testing.T) {
	long := strings.Repeat("a", 1<<20)
	s := slices.Repeat(series("a", long, long, "b"), 5000)
	if Named(long) || Wrong(s) != api.ErrMany || Wrong(series(long, "a")) != api.ErrName {
		t.Error("too long, and not told")
	}
	if Compare(s, s) != 0 || Compare(s[1:], s) <= 0 || Compare(s[:len(s)-1], s) >= 0 {
		t.Error("long ones are not held against each other")
	}
	if val, has := Get(s, long); val != "b" || !has || len(Only(s, []string{"a", "c"})) != 5000 {
		t.Error("not all is looked at")
	}
}
