package lang

import (
	"reflect"
	"strings"
	"testing"

	"grainstore/agg"
	"grainstore/api"
)

func num(n int) api.Expr { return api.Expr{Kind: api.ENum, N: n} }

func bin(word string, a, b api.Expr) api.Expr {
	return api.Expr{Kind: api.EBin, Word: word, Kids: []api.Expr{a, b}}
}

func window(word string, ticks int, l ...api.Match) api.Expr {
	return api.Expr{Kind: api.EWindow, Word: word, Range: ticks, Matches: l}
}

func all(word string, kid api.Expr, by ...string) api.Expr {
	return api.Expr{Kind: api.EAll, Word: word, By: by, Kids: []api.Expr{kid}}
}

func is(key, val string) api.Match    { return api.Match{Kind: api.Is, Key: key, Val: val} }
func isNot(key, val string) api.Match { return api.Match{Kind: api.IsNot, Key: key, Val: val} }
func has(key string) api.Match        { return api.Match{Kind: api.Has, Key: key} }
func lacks(key string) api.Match      { return api.Match{Kind: api.Lacks, Key: key} }

// same tells whether two expressions are the same, lists without entries being so.
func same(a, b api.Expr) bool {
	if a.Kind != b.Kind || a.N != b.N || a.Range != b.Range || a.Word != b.Word || len(a.Kids) != len(b.Kids) {
		return false
	}
	if len(a.Matches)+len(b.Matches) > 0 && !reflect.DeepEqual(a.Matches, b.Matches) {
		return false
	}
	if len(a.By)+len(b.By) > 0 && !reflect.DeepEqual(a.By, b.By) {
		return false
	}
	for i := range a.Kids {
		if !same(a.Kids[i], b.Kids[i]) {
			return false
		}
	}
	return true
}

func reads(t *testing.T, s string, want api.Expr) {
	t.Helper()
	e, f := Parse(s)
	if f != (api.Fault{}) || !same(e, want) {
		t.Errorf("%q: %+v %v, not %+v", s, e, f, want)
	}
}

// fails holds Z4, too: no expression stands beside a fault.
func fails(t *testing.T, s string, err api.Errno, at int) {
	t.Helper()
	e, f := Parse(s)
	if f != (api.Fault{Err: err, At: at}) || !reflect.DeepEqual(e, api.Expr{}) {
		t.Errorf("%q: %+v %v, not %v at %d", s, e, f, err, at)
	}
}

// E1.
func TestTotals(t *testing.T) {
	want := []string{"count", "max", "min", "sum"}
	got := Totals()
	if !reflect.DeepEqual(got, want) {
		t.Errorf("%q, not %q", got, want)
	}
	got[0] = "x"
	if !reflect.DeepEqual(Totals(), want) {
		t.Error("one answer changes the next one")
	}
}

// E1: sums, terms and factors.
func TestParse(t *testing.T) {
	five := window("sum", 5)
	for _, c := range []struct {
		s    string
		want api.Expr
	}{
		{"0", num(0)},
		{"7", num(7)},
		{"1000000", num(1000000)},
		{"(7)", num(7)},
		{"((7))", num(7)},
		{"1+2", bin("+", num(1), num(2))},
		{"1-2", bin("-", num(1), num(2))},
		{"1*2", bin("*", num(1), num(2))},
		{"1-2+3-4", bin("-", bin("+", bin("-", num(1), num(2)), num(3)), num(4))},
		{"1*2*3", bin("*", bin("*", num(1), num(2)), num(3))},
		{"1*2*3*4", bin("*", bin("*", bin("*", num(1), num(2)), num(3)), num(4))},
		{"1+2*3", bin("+", num(1), bin("*", num(2), num(3)))},
		{"1*2+3", bin("+", bin("*", num(1), num(2)), num(3))},
		{"1*2-3*4*5+6", bin("+", bin("-", bin("*", num(1), num(2)), bin("*", bin("*", num(3), num(4)), num(5))), num(6))},
		{"(1+2)*3", bin("*", bin("+", num(1), num(2)), num(3))},
		{"1*(2-3)", bin("*", num(1), bin("-", num(2), num(3)))},
		{"1-(2-3)", bin("-", num(1), bin("-", num(2), num(3)))},
		{"1*(2*3)", bin("*", num(1), bin("*", num(2), num(3)))},
		{"(1*2)*3", bin("*", bin("*", num(1), num(2)), num(3))},
		{"(1)+(2)", bin("+", num(1), num(2))},
		{"sum({}[5])", five},
		{"sum({}[1])", window("sum", 1)},
		{"sum({}[100000])", window("sum", 100000)},
		{"(sum({}[5]))", five},
		{"sum({}[5])*2", bin("*", five, num(2))},
		{"2-sum({}[5])", bin("-", num(2), five)},
		{"max({a}[5])", window("max", 5, has("a"))},
		{"max({!a}[5])", window("max", 5, lacks("a"))},
		{"max({a=b}[5])", window("max", 5, is("a", "b"))},
		{"max({a!=b}[5])", window("max", 5, isNot("a", "b"))},
		{"max({a=b,c!=d,e,!f,a=b}[5])", window("max", 5, is("a", "b"), isNot("c", "d"), has("e"), lacks("f"), is("a", "b"))},
		{"max({abcdefghijkl=a1_234567890}[5])", window("max", 5, is("abcdefghijkl", "a1_234567890"))},
		{"sum({all=by,by!=all,sum,!all}[5])", window("sum", 5, is("all", "by"), isNot("by", "all"), has("sum"), lacks("all"))},
		{"all sum(7)", all("sum", num(7))},
		{"all count by a(sum({}[5]))", all("count", five, "a")},
		{"all max by d,c,b,a (sum({}[5]))", all("max", five, "d", "c", "b", "a")},
		{"all min by a,a (sum({}[5]))", all("min", five, "a", "a")},
		{"all min by by (sum({}[5]))", all("min", five, "by")},
		{"all min by all,sum,abcdefghijkl (sum({}[5]))", all("min", five, "all", "sum", "abcdefghijkl")},
		{"all sum(all max by a(1+2))", all("sum", all("max", bin("+", num(1), num(2)), "a"))},
		{"all sum(1)+all sum(2)*3", bin("+", all("sum", num(1)), bin("*", all("sum", num(2)), num(3)))},
		{"all sum by host (rise({job=web,!test}[60])) * 2", bin("*", all("sum", window("rise", 60, is("job", "web"), lacks("test")), "host"), num(2))},
	} {
		reads(t, c.s, c.want)
	}
	for _, word := range agg.Words() {
		reads(t, word+"({a}[9])", window(word, 9, has("a")))
	}
	for _, word := range Totals() {
		reads(t, "all "+word+" by a (1)", all(word, num(1), "a"))
	}
}

// cut is a text of all kinds of parts, one by one.
func cut() []string {
	return strings.Split("( all sum by host , job ( rise ( { job = web , b != c , d , ! test } [ 60 ] ) + 10 ) * 2 ) - all count ( avg ( { } [ 7 ] ) )", " ")
}

// E1: blanks may stand ahead of each part, and at the end, and are needed only between words.
func TestBlanks(t *testing.T) {
	want := bin("-", bin("*", all("sum", bin("+", window("rise", 60, is("job", "web"), isNot("b", "c"), has("d"), lacks("test")), num(10)), "host", "job"), num(2)), all("count", window("avg", 7)))
	reads(t, "(all sum by host,job(rise({job=web,b!=c,d,!test}[60])+10)*2)-all count(avg({}[7]))", want)
	for _, blanks := range []string{" ", "  ", "        "} {
		reads(t, strings.Join(cut(), blanks), want)
		reads(t, blanks+strings.Join(cut(), blanks)+blanks, want)
	}
	for _, other := range []string{"\t", "\n", "\r", "\v", "\x00", "\u00a0", "_"} {
		fails(t, other+"1", api.ErrForm, 0)
		fails(t, "1"+other, api.ErrForm, 1)
		fails(t, "1 "+other+"+ 1", api.ErrForm, 2)
	}
}

// E1: parts are not torn by blanks.
func TestTorn(t *testing.T) {
	fails(t, "1 0", api.ErrForm, 2)
	fails(t, "su m({}[5])", api.ErrName, 0)
	fails(t, "sum m({}[5])", api.ErrForm, 4)
	fails(t, "sum({a b}[5])", api.ErrForm, 7)
	fails(t, "sum({a ! = b}[5])", api.ErrForm, 7)
	fails(t, "sum({a! =b}[5])", api.ErrForm, 6)
	fails(t, "sum({a}[5 5])", api.ErrForm, 10)
	fails(t, "al l sum(1)", api.ErrName, 0)
	fails(t, "allsum(1)", api.ErrName, 0)
	fails(t, "all sumby a(1)", api.ErrName, 4)
	fails(t, "all sum b y a(1)", api.ErrForm, 8)
	fails(t, "all sum by a b(1)", api.ErrForm, 13)
}

// E2: where each part, or the text, is not as it must be.
func TestForm(t *testing.T) {
	for _, c := range []struct {
		s  string
		at int
	}{
		{"", 0}, {" ", 1}, {"   ", 3}, {"$", 0}, {"  $", 2}, {"+1", 0}, {"-1", 0}, {"*1", 0}, {")", 0}, {"A", 0}, {"_a", 0}, {"é", 0}, {"\x00", 0}, {"\xff", 0}, {"{", 0}, {"[", 0}, {",", 0},
		{"1$", 1}, {"1  $", 3}, {"1 1", 2}, {"1 a", 2}, {"1a", 1}, {"1_", 1}, {"1.5", 1}, {"1/2", 1}, {"1)", 1}, {"1(", 1}, {"1 \x00", 2}, {"1 \x00 ", 2},
		{"1+", 2}, {"1 + ", 4}, {"1 *", 3}, {"1++1", 2}, {"1+-1", 2}, {"1 * * 1", 4}, {"1-)", 2}, {"1 abcdefghijklm", 2}, {"1 01", 2},
		{"(", 1}, {"()", 1}, {"( ", 2}, {"(1", 2}, {"(1 ", 3}, {"(1$", 2}, {"(1 2)", 3}, {"(1))", 3}, {"((1)", 4},
		{"sum", 3}, {"sum ", 4}, {"sum 1", 4}, {"sum{", 3}, {"sum[1]", 3}, {"sumA({}[5])", 3}, {"sum-1", 3}, {"sum)", 3},
		{"sum(", 4}, {"sum()", 4}, {"sum(1)", 4}, {"sum(a)", 4}, {"sum([", 4}, {"sum( 01", 5},
		{"sum({", 5}, {"sum({,a}[5])", 5}, {"sum({=b}[5])", 5}, {"sum({1}[5])", 5}, {"sum({A}[5])", 5}, {"sum({_}[5])", 5}, {"sum({)", 5}, {"sum({{", 5}, {"sum({ ", 6},
		{"sum({!", 6}, {"sum({!}[5])", 6}, {"sum({!!a}[5])", 6}, {"sum({!1}[5])", 6}, {"sum({!=b}[5])", 6}, {"sum({! =b}[5])", 7}, {"sum({!a=b}[5])", 7}, {"sum({!a!=b}[5])", 7},
		{"sum({a", 6}, {"sum({a)", 6}, {"sum({a]", 6}, {"sum({a{", 6}, {"sum({a!}[5])", 6}, {"sum({a!b}[5])", 6}, {"sum({a!", 6}, {"sum({a B", 7}, {"sum({aB}[5])", 6}, {"sum({a-b}[5])", 6}, {"sum({a<b}[5])", 6},
		{"sum({a=", 7}, {"sum({a=}[5])", 7}, {"sum({a==b}[5])", 7}, {"sum({a=!b}[5])", 7}, {"sum({a=1}[5])", 7}, {"sum({a=,b}[5])", 7}, {"sum({a= B}[5])", 8},
		{"sum({a!=", 8}, {"sum({a!=}[5])", 8}, {"sum({a!=1}[5])", 8}, {"sum({a!==b}[5])", 8}, {"sum({a!= !b}[5])", 9},
		{"sum({a=b", 8}, {"sum({a=b=c}[5])", 8}, {"sum({a=b c}[5])", 9}, {"sum({a=b!=c}[5])", 8}, {"sum({a=b!c}[5])", 8},
		{"sum({a,", 7}, {"sum({a,}[5])", 7}, {"sum({a,,b}[5])", 7}, {"sum({a, }[5])", 8}, {"sum({a;b}[5])", 6},
		{"sum({}", 6}, {"sum({}5", 6}, {"sum({})", 6}, {"sum({}}", 6}, {"sum({} (", 7},
		{"sum({}[", 7}, {"sum({}[]", 7}, {"sum({}[a])", 7}, {"sum({}[-1])", 7}, {"sum({}[+1])", 7}, {"sum({}[(1)])", 7}, {"sum({}[ ", 8},
		{"sum({}[5", 8}, {"sum({}[5)", 8}, {"sum({}[5a])", 8}, {"sum({}[5 5])", 9}, {"sum({}[5+5])", 8}, {"sum({}[5.0])", 8},
		{"sum({}[5]", 9}, {"sum({}[5]]", 9}, {"sum({}[5]+1)", 9}, {"sum({}[5] ", 10}, {"sum({}[5])1", 10}, {"sum({}[5])sum", 10},
		{"all", 3}, {"all ", 4}, {"all (1)", 4}, {"all(1)", 3}, {"all 1", 4}, {"all {", 4}, {"all Sum(1)", 4}, {"all,", 3},
		{"all sum", 7}, {"all sum ", 8}, {"all sum 1", 8}, {"all sum {", 8}, {"all sum)", 7}, {"all sum,", 7}, {"all sum +", 8}, {"all sum By a(1)", 8},
		{"all sum a(1)", 8}, {"all sum b a(1)", 8}, {"all sum bya(1)", 8}, {"all sum by_(1)", 8}, {"all sum by1(1)", 8}, {"all sum sum(1)", 8}, {"all sum all(1)", 8}, {"all sum abcdefghijklm a(1)", 8},
		{"all sum by", 10}, {"all sum by ", 11}, {"all sum by(1)", 10}, {"all sum by (1)", 11}, {"all sum by 1(1)", 11}, {"all sum by ,a(1)", 11}, {"all sum by A(1)", 11}, {"all sum by !a(1)", 11},
		{"all sum by a", 12}, {"all sum by a 1", 13}, {"all sum by a b(1)", 13}, {"all sum by a=b(1)", 12}, {"all sum by a)", 12}, {"all sum by a{", 12},
		{"all sum by a,", 13}, {"all sum by a,(1)", 13}, {"all sum by a,,b(1)", 13}, {"all sum by a, 1", 14},
		{"all sum(", 8}, {"all sum()", 8}, {"all sum({}[5])", 8}, {"all sum(1", 9}, {"all sum(1 ", 10}, {"all sum(1,2)", 9}, {"all sum(1)(2)", 10}, {"all sum by a(1", 14},
	} {
		fails(t, c.s, api.ErrForm, c.at)
	}
}

// E2: a text that ends too early, or where another part stands than must; each part of a long one in turn.
func TestFormOfParts(t *testing.T) {
	for i := range cut() {
		l := cut()
		before := strings.Join(l[:i], " ")
		if i > 0 {
			before += " "
		}
		// A whole expression may end there.
		if _, f := Parse(before); f != (api.Fault{}) && f != (api.Fault{Err: api.ErrForm, At: len(before)}) {
			t.Errorf("%q: %v", before, f)
		}
		for _, blanks := range []string{"", " ", "   "} {
			fails(t, before+blanks+"$ 01 abcdefghijklm $", api.ErrForm, len(before+blanks))
			fails(t, before+blanks+"$"+strings.Join(l[i:], " "), api.ErrForm, len(before+blanks))
		}
	}
}

// E2.
func TestNames(t *testing.T) {
	for _, c := range []struct {
		s  string
		at int
	}{
		{"x", 0}, {"  x", 2}, {"x$", 0}, {"a1_", 0}, {"summ({}[5])", 0}, {"su({}[5])", 0}, {"sum_({}[5])", 0}, {"sum1({}[5])", 0}, {"by", 0}, {"total({}[5])", 0}, {"alls sum(1)", 0}, {"al", 0},
		{"abcdefghijkl", 0}, {"abcdefghijklm", 0}, {"1 + x", 4}, {"1*x", 2}, {"(x", 1}, {"all sum(x", 8}, {"all sum by a ( x", 15},
		{"all avg(1)", 4}, {"all first(1)", 4}, {"all rise(1)", 4}, {"all last(1)", 4}, {"all x", 4}, {"all   x", 6}, {"all all", 4}, {"all by a(1)", 4}, {"all abcdefghijklm(1)", 4}, {"all sums(1)", 4},
		{"sum({abcdefghijklm}[5])", 5}, {"sum({ abcdefghijklm", 6}, {"sum({!abcdefghijklm}[5])", 6}, {"sum({! abcdefghijklm}[5])", 7}, {"sum({abcdefghijklm=b}[5])", 5}, {"sum({abcdefghijklm!=b}[5])", 5},
		{"sum({a=abcdefghijklm}[5])", 7}, {"sum({a= abcdefghijklm}[5])", 8}, {"sum({a!=abcdefghijklm}[5])", 8}, {"sum({a,b,abcdefghijklm}[5])", 9}, {"sum({a1_4567890123}[5])", 5}, {"sum({abcdefghijklm$", 5},
		{"all sum by abcdefghijklm(1)", 11}, {"all sum by a, abcdefghijklm(1)", 14}, {"all sum by abcdefghijkl,a12345678901_(1)", 24},
	} {
		fails(t, c.s, api.ErrName, c.at)
	}
}

// E2.
func TestNumbers(t *testing.T) {
	for _, c := range []struct {
		s  string
		at int
	}{
		{"00", 0}, {"01", 0}, {" 00", 1}, {"000000000000000000000000000000", 0}, {"01000000", 0}, {"1000001", 0}, {"9999999", 0}, {"9223372036854775807", 0}, {"9223372036854775808", 0}, {"18446744073709551616", 0}, {"18446744073709551617", 0},
		{strings.Repeat("9", api.MaxText), 0}, {"1" + strings.Repeat("0", 500), 0}, {"01a", 0}, {"1000001$", 0}, {"1 + 01", 4}, {"1*  1000001", 4}, {"(00", 1}, {"all sum(00", 8},
		{"sum({}[0])", 7}, {"sum({}[00])", 7}, {"sum({}[01])", 7}, {"sum({}[ 0])", 8}, {"sum({}[0", 7}, {"sum({}[100001])", 7}, {"sum({}[1000000])", 7}, {"sum({}[1000001])", 7}, {"sum({}[18446744073709551617])", 7},
	} {
		fails(t, c.s, api.ErrRange, c.at)
	}
}

// E2: ErrMany is told right behind the comma, ahead of whatever stands there.
func TestTooMany(t *testing.T) {
	five := "a,b=c,d!=e,!f,a"
	reads(t, "sum({"+five+"}[5])", window("sum", 5, has("a"), is("b", "c"), isNot("d", "e"), lacks("f"), has("a")))
	at := len("sum({" + five + ",")
	for _, more := range []string{"a}[5])", " a}[5])", "a,a,a}[5])", "!a", "a=", "", " ", "}[5])", ",", "$", " $", "1", "abcdefghijklm", "  abcdefghijklm"} {
		fails(t, "sum({"+five+","+more, api.ErrMany, at)
	}
	fails(t, "sum({"+five+" ,", api.ErrMany, at+1)
	fails(t, "sum({"+five, api.ErrForm, at-1)
	fails(t, "sum({"+five+"a", api.ErrForm, at)
	at = len("all sum by a,b,c,d,")
	for _, more := range []string{"e(1)", " e (1)", "e,f(1)", "", " ", "(1)", ",", "$", "  $", "1", "abcdefghijklm", " abcdefghijklm"} {
		fails(t, "all sum by a,b,c,d,"+more, api.ErrMany, at)
	}
	fails(t, "all sum by a,b,c,d ,", api.ErrMany, at+1)
	fails(t, "all sum by a,b,c,d", api.ErrForm, at-1)
}

// E2: what comes first from the left is told, whatever is wrong further on.
func TestFirstFromLeft(t *testing.T) {
	fails(t, "$ x 01", api.ErrForm, 0)
	fails(t, "x $ 01", api.ErrName, 0)
	fails(t, "01 $ x", api.ErrRange, 0)
	fails(t, "sum({a,a,a,a,a,a}[0]) $", api.ErrMany, 15)
	fails(t, "sum({abcdefghijklm,a,a,a,a,a}[0])", api.ErrName, 5)
	fails(t, "sum({a,a,a=,a,a,a}[0])", api.ErrForm, 11)
	fails(t, "sum({a}[0]$", api.ErrRange, 8)
	fails(t, "all avg a $", api.ErrName, 4)
	fails(t, "all avg(1)"+strings.Repeat("+1", 60), api.ErrName, 4)
	fails(t, "1"+strings.Repeat("+1", 30)+"$", api.ErrForm, 61)
	fails(t, "1"+strings.Repeat("+1", 30)+"+x", api.ErrName, 62)
	fails(t, "1"+strings.Repeat("+1", 30)+"+"+strings.Repeat("(", 30), api.ErrMuch, 82)
}

// E2.
func TestLongText(t *testing.T) {
	blanks := strings.Repeat(" ", api.MaxText-1)
	reads(t, blanks+"1", num(1))
	reads(t, "1"+blanks, num(1))
	fails(t, blanks+" 1", api.ErrMuch, 0)
	fails(t, "1"+blanks+" ", api.ErrMuch, 0)
	fails(t, blanks+" ", api.ErrForm, api.MaxText)
	fails(t, blanks+"  ", api.ErrMuch, 0)
	fails(t, "$"+blanks, api.ErrForm, 0)
	fails(t, "$"+blanks+" ", api.ErrMuch, 0)
	fails(t, strings.Repeat("(", 1<<20), api.ErrMuch, 0)
}

// E2: nested deeper than MaxDeep, within brackets.
func TestDeepFactors(t *testing.T) {
	most := api.MaxDeep - 1
	open, shut := strings.Repeat("(", most), strings.Repeat(")", most)
	reads(t, open+"1"+shut, num(1))
	reads(t, open+"1"+shut+"+"+open+"2"+shut, bin("+", num(1), num(2)))
	reads(t, open+"1+2*3"+shut, bin("+", num(1), bin("*", num(2), num(3))))
	reads(t, open+"sum({a}[5])"+shut, window("sum", 5, has("a")))
	fails(t, open+shut, api.ErrForm, most)
	fails(t, open, api.ErrForm, most)
	// It is told behind the bracket, ahead of blanks and of whatever stands there.
	for _, more := range []string{"1)" + shut, " 1)" + shut, "(1))" + shut, ")" + shut, "", " ", "$", "  $", "x", "01", "sum({}[5])"} {
		fails(t, open+"("+more, api.ErrMuch, most+1)
		fails(t, "2*3-"+open+"("+more, api.ErrMuch, most+5)
		fails(t, "1+"+open+" ( "+more, api.ErrMuch, most+4)
	}
	fails(t, open+"1*(2)"+shut, api.ErrMuch, most+3)
	fails(t, open+"1+2-(  3)"+shut, api.ErrMuch, most+5)
	fails(t, open+"all sum(1)"+shut, api.ErrMuch, most+8)
	fails(t, open+"all sum by a ( 1)"+shut, api.ErrMuch, most+14)
	fails(t, open+"all avg(1)"+shut, api.ErrName, most+4)
}

// E2: nested by EAlls, whose brackets count likewise.
func TestDeepAlls(t *testing.T) {
	open := strings.Repeat("all sum(", api.MaxDeep-1)
	shut := strings.Repeat(")", api.MaxDeep-1)
	want := window("sum", 5)
	for range api.MaxDeep - 1 {
		want = all("sum", want)
	}
	reads(t, open+"sum({}[5])"+shut, want)
	reads(t, open+"sum({}[5])"+shut+" ", want)
	fails(t, open+"all sum(1)"+shut, api.ErrMuch, len(open)+8)
	fails(t, open+"(1)"+shut, api.ErrMuch, len(open)+1)
	// Factors are as deep as may be, but the EBin makes its kids one deeper.
	s := open + "1+1" + shut
	fails(t, s, api.ErrMuch, len(s))
	fails(t, s+"   ", api.ErrMuch, len(s)+3)
	fails(t, "1+"+open+"1"+shut, api.ErrMuch, len(s))
}

// E2: in the end, expressions nested too deep by being read from the left.
func TestDeepChains(t *testing.T) {
	for _, sign := range []string{"+", "-", "*"} {
		want := num(1)
		for range api.MaxDeep - 1 {
			want = bin(sign, want, num(1))
		}
		s := "1" + strings.Repeat(sign+"1", api.MaxDeep-1)
		reads(t, s, want)
		reads(t, "("+s+")", want)
		s += sign + "1"
		fails(t, s, api.ErrMuch, len(s))
		fails(t, s+"  ", api.ErrMuch, len(s)+2)
		fails(t, "("+s+")", api.ErrMuch, len(s)+2)
		fails(t, "1 + ("+s+")", api.ErrMuch, len(s)+6)
		fails(t, s+"$", api.ErrForm, len(s))
		fails(t, s+sign, api.ErrForm, len(s)+1)
	}
}

// balanced is a sum of n numbers that is nested as little as may be.
func balanced(n int) string {
	if n == 1 {
		return "1"
	}
	return "(" + balanced(n/2) + "+" + balanced(n-n/2) + ")"
}

// E2: more than MaxNodes, each counted where it ends.
func TestManyNodes(t *testing.T) {
	// 50 numbers and 49 sums are 99, an EAll around them makes 100.
	s := balanced(50)
	for _, x := range []string{s, "all sum" + s, "(((all sum" + s + ")))"} {
		if e, f := Parse(x); f != (api.Fault{}) || Wrong(e) != api.OK {
			t.Errorf("%q: %v %v", x, f, Wrong(e))
		}
	}
	long := "all sum" + s
	fails(t, "all sum("+long+")", api.ErrMuch, len(long)+9)
	fails(t, "all sum("+long+" ) + $", api.ErrMuch, len(long)+10)
	fails(t, long+"+sum({}[5])", api.ErrMuch, len(long)+11)
	fails(t, long+"+sum({}[5]$", api.ErrForm, len(long)+10)
	fails(t, long+"+1", api.ErrMuch, len(long)+2)
	fails(t, long+" + 01", api.ErrRange, len(long)+3)
	fails(t, long+" $", api.ErrForm, len(long)+1)
	// The number is the hundredth one, what it is a part of comes next, at the same place, ahead of blanks and of whatever stands there.
	for _, more := range []string{"", "   ", " + 1", ")", "$", "  $", "a"} {
		fails(t, s+"*1"+more, api.ErrMuch, len(s)+2)
	}
	fails(t, s+"*(1)", api.ErrMuch, len(s)+4)
	fails(t, s+"*((1) ) ", api.ErrMuch, len(s)+7)
	fails(t, s+"-1*1", api.ErrMuch, len(s)+4)
	fails(t, "1"+strings.Repeat("*1", 60), api.ErrMuch, 101)
	fails(t, "1"+strings.Repeat(" * 1", 60), api.ErrMuch, 201)
}

// Z1: only what was thrown for a text's fault is caught.
func TestCaught(t *testing.T) {
	defer func() {
		if what := recover(); what != "another" {
			t.Errorf("%v", what)
		}
	}()
	if f := caught(thrown{api.Fault{Err: api.ErrForm, At: 3}}); f != (api.Fault{Err: api.ErrForm, At: 3}) {
		t.Errorf("%v", f)
	}
	caught("another")
}
