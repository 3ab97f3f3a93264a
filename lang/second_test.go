package lang

import (
	"math/rand"
	"reflect"
	"slices"
	"strings"
	"testing"

	"grainstore/agg"
	"grainstore/api"
)

// second reads a text by a second way: one part at a time, with a stack, and without being thrown out of anything.
type second struct {
	parts []part // the last one is the text's end
	next  int
	nodes int
	fault api.Fault
}

// part is a word, a number, or one sign; text is empty at the end.
type part struct {
	text     string
	from, to int
}

// level is what stands within a pair of brackets: all of what has been read but not yet joined, from the left.
type level struct {
	all   *api.Expr // whose brackets they are, if it is an EAll's
	parts []api.Expr
	signs []string
}

func tear(s string) []part {
	var l []part
	for i := 0; i < len(s); {
		if s[i] == ' ' {
			i++
			continue
		}
		j := i + 1
		switch {
		case isLetter(s[i]):
			for j < len(s) && strings.IndexByte("abcdefghijklmnopqrstuvwxyz0123456789_", s[j]) >= 0 {
				j++
			}
		case isDigit(s[i]):
			for j < len(s) && isDigit(s[j]) {
				j++
			}
		}
		l = append(l, part{s[i:j], i, j})
		i = j
	}
	return append(l, part{"", len(s), len(s)})
}

func (r *second) now() part { return r.parts[r.next] }

// behind is where what was read last ends.
func (r *second) behind() int {
	if r.next == 0 {
		return 0
	}
	return r.parts[r.next-1].to
}

// fail keeps the first fault, and goes to the end, so that nothing more is read.
func (r *second) fail(err api.Errno, at int) bool {
	if r.fault.Err == api.OK {
		r.fault = api.Fault{Err: err, At: at}
	}
	r.next = len(r.parts) - 1
	return false
}

func (r *second) take(text string) bool {
	if r.fault.Err != api.OK || r.now().text != text {
		return r.fail(api.ErrForm, r.now().from)
	}
	r.next++
	return true
}

func (r *second) count() bool {
	r.nodes++
	return r.nodes <= api.MaxNodes || r.fail(api.ErrMuch, r.behind())
}

func (r *second) name() (string, bool) {
	p := r.now()
	if p.text == "" || !isLetter(p.text[0]) {
		return "", r.fail(api.ErrForm, p.from)
	}
	if len(p.text) > 12 {
		return "", r.fail(api.ErrName, p.from)
	}
	r.next++
	return p.text, true
}

func (r *second) digits(least, most int) (int, bool) {
	p := r.now()
	if p.text == "" || !isDigit(p.text[0]) {
		return 0, r.fail(api.ErrForm, p.from)
	}
	n := 0
	for _, b := range []byte(p.text) {
		n = min(n*10+int(b-'0'), 1<<40)
	}
	if p.text[0] == '0' && p.text != "0" || n < least || n > most {
		return 0, r.fail(api.ErrRange, p.from)
	}
	r.next++
	return n, true
}

func (r *second) oneMatch() (api.Match, bool) {
	kind := api.Has
	if r.now().text == "!" {
		r.next++
		kind = api.Lacks
	}
	key, ok := r.name()
	if !ok || kind == api.Lacks {
		return api.Match{Kind: kind, Key: key}, ok
	}
	if p := r.now(); p.text == "=" {
		r.next++
		kind = api.Is
	} else if q := r.parts[min(r.next+1, len(r.parts)-1)]; p.text == "!" && q.text == "=" && q.from == p.to {
		r.next += 2
		kind = api.IsNot
	} else {
		return api.Match{Kind: kind, Key: key}, true
	}
	val, ok := r.name()
	return api.Match{Kind: kind, Key: key, Val: val}, ok
}

func (r *second) oneWindow(word string) (api.Expr, bool) {
	e := api.Expr{Kind: api.EWindow, Word: word}
	if !r.take("(") || !r.take("{") {
		return e, false
	}
	for r.now().text != "}" || len(e.Matches) > 0 {
		if len(e.Matches) > 0 && r.now().text == "}" {
			break
		}
		if len(e.Matches) > 0 && !r.take(",") {
			return e, false
		}
		if len(e.Matches) == 5 {
			return e, r.fail(api.ErrMany, r.behind())
		}
		m, ok := r.oneMatch()
		if !ok {
			return e, false
		}
		e.Matches = append(e.Matches, m)
	}
	if !r.take("}") || !r.take("[") {
		return e, false
	}
	var ok bool
	e.Range, ok = r.digits(1, 100000)
	return e, ok && r.take("]") && r.take(")") && r.count()
}

// opening reads all of an EAll that stands ahead of its kid.
func (r *second) opening() (api.Expr, bool) {
	at := r.now().from
	word, ok := r.name()
	if !ok {
		return api.Expr{}, false
	}
	if !slices.Contains([]string{"count", "max", "min", "sum"}, word) {
		return api.Expr{}, r.fail(api.ErrName, at)
	}
	e := api.Expr{Kind: api.EAll, Word: word}
	if r.now().text == "(" {
		return e, r.take("(")
	}
	for sign := "by"; r.now().text != "(" || len(e.By) == 0; sign = "," {
		if !r.take(sign) {
			return e, false
		}
		if len(e.By) == 4 {
			return e, r.fail(api.ErrMany, r.behind())
		}
		key, ok := r.name()
		if !ok {
			return e, false
		}
		e.By = append(e.By, key)
	}
	return e, r.take("(")
}

// join joins the last two of a level, as long as their sign binds as much as what comes next.
func (r *second) join(v *level, least int) bool {
	binds := func(sign string) int { return strings.Index("+-*", sign) / 2 }
	for len(v.signs) > 0 && binds(v.signs[len(v.signs)-1]) >= least {
		n := len(v.parts)
		e := api.Expr{Kind: api.EBin, Word: v.signs[n-2], Kids: []api.Expr{v.parts[n-2], v.parts[n-1]}}
		v.signs, v.parts = v.signs[:n-2], append(v.parts[:n-2:n-2], e)
		if !r.count() {
			return false
		}
	}
	return true
}

// bottom reads brackets that open, and what is no EAll within them.
func (r *second) bottom(stack []*level) ([]*level, bool) {
	for {
		if len(stack) > 20 {
			return nil, r.fail(api.ErrMuch, r.behind())
		}
		p := r.now()
		switch {
		case p.text == "(":
			r.next++
			stack = append(stack, &level{})
			continue
		case p.text != "" && isDigit(p.text[0]):
			n, ok := r.digits(0, 1000000)
			top := stack[len(stack)-1]
			top.parts = append(top.parts, num(n))
			return stack, ok && r.count()
		}
		word, ok := r.name()
		switch {
		case !ok:
			return nil, false
		case word == "all":
			e, ok := r.opening()
			if !ok {
				return nil, false
			}
			stack = append(stack, &level{all: &e})
		case slices.Contains(agg.Words(), word):
			e, ok := r.oneWindow(word)
			top := stack[len(stack)-1]
			top.parts = append(top.parts, e)
			return stack, ok
		default:
			return nil, r.fail(api.ErrName, p.from)
		}
	}
}

func secondParse(s string) (api.Expr, api.Fault) {
	if len(s) > 2000 {
		return api.Expr{}, api.Fault{Err: api.ErrMuch}
	}
	r := &second{parts: tear(s)}
	stack := []*level{{}}
	ok := true
	for ok {
		if stack, ok = r.bottom(stack); !ok {
			break
		}
		for ok && len(stack) > 0 {
			top := stack[len(stack)-1]
			sign := r.now().text
			if sign == "+" || sign == "-" || sign == "*" {
				ok = r.join(top, strings.Index("+-*", sign)/2)
				top.signs = append(top.signs, sign)
				r.next++
				break
			}
			// What ends is joined where it ends, whatever comes next.
			if ok = r.join(top, 0); !ok {
				break
			}
			e := top.parts[0]
			if len(stack) == 1 {
				return r.last(s, e)
			}
			if ok = r.take(")"); ok && top.all != nil {
				top.all.Kids = []api.Expr{e}
				e, ok = *top.all, r.count()
			}
			stack = stack[:len(stack)-1]
			top = stack[len(stack)-1]
			top.parts = append(top.parts, e)
		}
	}
	return api.Expr{}, r.fault
}

func (r *second) last(s string, e api.Expr) (api.Expr, api.Fault) {
	if r.now().text != "" {
		return api.Expr{}, api.Fault{Err: api.ErrForm, At: r.now().from}
	}
	if depth(e) > 20 {
		return api.Expr{}, api.Fault{Err: api.ErrMuch, At: len(s)}
	}
	return e, api.Fault{}
}

func depth(e api.Expr) int {
	most := 0
	for _, kid := range e.Kids {
		most = max(most, depth(kid))
	}
	return most + 1
}

// random is an expression that is right, if it is not too much.
func random(r *rand.Rand, deep int) api.Expr {
	word := func() string { return []string{"a", "b1", "sum", "by", "all", "abcdefghijkl"}[r.Intn(6)] }
	switch k := r.Intn(7); {
	case deep <= 1 && k < 3 || k == 0:
		return num([]int{0, 1, 7, 1000000}[r.Intn(4)])
	case deep <= 1 || k == 1:
		e := window(agg.Words()[r.Intn(8)], 1+r.Intn(100000))
		for range r.Intn(6) {
			m := api.Match{Kind: 1 + r.Intn(4), Key: word()}
			if m.Kind < api.Has {
				m.Val = word()
			}
			e.Matches = append(e.Matches, m)
		}
		return e
	case k == 2:
		e := all(Totals()[r.Intn(4)], random(r, deep-1))
		for range r.Intn(5) {
			e.By = append(e.By, word())
		}
		return e
	}
	return bin([]string{"+", "-", "*"}[r.Intn(3)], random(r, deep-1), random(r, deep-1))
}

// around puts so much around a text that it may be too much.
func around(r *rand.Rand, s string) string {
	n := r.Intn(22)
	switch r.Intn(5) {
	case 0:
		return strings.Repeat("(", n) + s + strings.Repeat(")", n)
	case 1:
		return strings.Repeat("all sum (", n) + s + strings.Repeat(")", n)
	case 2:
		return strings.Repeat("1 + ", n) + s
	case 3:
		return s + strings.Repeat(" - (1 * (2))", n)
	}
	return s + " * " + balanced(1+2*n)
}

// change puts odd parts into a text, or in the place of its parts.
func change(r *rand.Rand, s string) string {
	odd := []string{"(", ")", "{", "}", "[", "]", ",", "!", "=", "!=", "+", "-", "*", "1", "0", "01", "60", "1000001", "sum", "avg", "all", "all sum (", "all sum by", "by", "a", "x", "abcdefghijklm", "$", "A", "_", ",a,b,c,d", ", !a, b=c, d!=e,f"}
	l := tear(s)
	var parts []string
	for _, p := range l[:len(l)-1] {
		parts = append(parts, p.text)
	}
	for range r.Intn(4) {
		i := r.Intn(len(parts) + 1)
		parts = slices.Insert(parts, i, odd[r.Intn(len(odd))])
		if i+1 < len(parts) && r.Intn(2) == 0 {
			parts = slices.Delete(parts, i+1, i+2)
		}
	}
	return strings.Join(parts, strings.Repeat(" ", r.Intn(4)))
}

// E1, E2: both ways read the same, or tell the same fault; of texts, and of texts in which something is changed.
func TestSecondWay(t *testing.T) {
	r := rand.New(rand.NewSource(5))
	faults := map[api.Errno]int{}
	atEnd := 0
	for range 60000 {
		s := text(random(r, 1+r.Intn(6)))
		if r.Intn(3) == 0 {
			s = around(r, s)
		}
		if r.Intn(3) > 0 {
			s = change(r, s)
		}
		e, f := Parse(s)
		e2, f2 := secondParse(s)
		if f != f2 || !same(e, e2) {
			t.Fatalf("%q: %v and %v: %+v and %+v", s, f, f2, e, e2)
		}
		faults[f.Err]++
		if f.Err == api.ErrMuch && f.At == len(s) {
			atEnd++
		}
	}
	for _, err := range []api.Errno{api.OK, api.ErrForm, api.ErrName, api.ErrRange, api.ErrMany, api.ErrMuch} {
		if faults[err] < 50 {
			t.Errorf("%v is told only %d times", err, faults[err])
		}
	}
	if atEnd < 100 || faults[api.ErrMuch] < atEnd+100 {
		t.Errorf("too much is told %d times, at the end %d times", faults[api.ErrMuch], atEnd)
	}
}

// E2: a text that ends where its fault is has none ahead of that.
func TestNoFaultAhead(t *testing.T) {
	r := rand.New(rand.NewSource(6))
	const bytes = "  (){}[],!=+-*0169abmsux_A$"
	for range 100000 {
		s := text(random(r, 1+r.Intn(5)))
		if len(s) > 200 {
			s = s[:200]
		}
		changed := []byte(s)
		for range 1 + r.Intn(3) {
			changed[r.Intn(len(s))] = bytes[r.Intn(len(bytes))]
		}
		s = string(changed)
		_, f := Parse(s)
		_, f2 := secondParse(s)
		if f != f2 {
			t.Fatalf("%q: %v and %v", s, f, f2)
		}
		if f.Err == api.OK {
			continue
		}
		if _, cut := Parse(s[:f.At]); cut.Err != api.OK && cut.At != f.At {
			t.Fatalf("%q: %v, but %q: %v", s, f, s[:f.At], cut)
		}
	}
}

// brackets are the pairs in a printed text that are there for nothing but the order.
func brackets(s string) [][2]int {
	var out [][2]int
	var open []int
	for i, b := range []byte(s) {
		switch b {
		case '(':
			open = append(open, i)
		case ')':
			from := open[len(open)-1]
			open = open[:len(open)-1]
			before := strings.TrimRight(s[:from], " ")
			if before == "" || strings.IndexByte("+-*(", before[len(before)-1]) >= 0 {
				out = append(out, [2]int{from, i})
			}
		}
	}
	return out
}

// E4: what is printed is parsed, and each pair of brackets is needed.
func TestPrintedIsParsed(t *testing.T) {
	r := rand.New(rand.NewSource(7))
	printed, pairs := 0, 0
	for range 20000 {
		e := random(r, 1+r.Intn(7))
		s, err := Print(e)
		if err != api.OK {
			if err != api.ErrMuch {
				t.Fatalf("%+v: %v", e, err)
			}
			continue
		}
		printed++
		got, f := Parse(s)
		if f != (api.Fault{}) || !same(got, e) {
			t.Fatalf("%q: %v %+v, not %+v", s, f, got, e)
		}
		if again, err := Print(got); again != s || err != api.OK {
			t.Fatalf("%q, then %q %v", s, again, err)
		}
		for _, p := range brackets(s) {
			pairs++
			without := s[:p[0]] + s[p[0]+1:p[1]] + s[p[1]+1:]
			if other, f := Parse(without); f.Err == api.OK && same(other, e) {
				t.Fatalf("%q: %q is the same", s, without)
			}
		}
	}
	if printed < 1000 || pairs < 1000 {
		t.Errorf("only %d are printed, with %d pairs of brackets", printed, pairs)
	}
}

// Z1, E4: whatever the bytes are, and what is parsed is right, is printed, and is parsed again.
func FuzzParse(f *testing.F) {
	for _, s := range []string{"", "1", "all sum by host (rise({job=web,!test}[60])) * 2", "1 - (2 - 3) * avg({a!=b}[7])", "((1))", "sum({a", "\x00", "é", "all sum by a,b,c,d,e (1)"} {
		f.Add(s)
	}
	f.Fuzz(func(t *testing.T, s string) {
		e, fault := Parse(s)
		e2, fault2 := secondParse(s)
		if fault != fault2 || !same(e, e2) {
			t.Fatalf("%q: %v and %v", s, fault, fault2)
		}
		if fault.Err != api.OK {
			if !reflect.DeepEqual(e, api.Expr{}) || fault.At < 0 || fault.At > len(s) {
				t.Fatalf("%q: %+v %v", s, e, fault)
			}
			return
		}
		// What has only needed blanks and brackets may take more bytes than there were.
		p, err := Print(e)
		if err == api.ErrMuch && len(text(e)) > api.MaxText {
			return
		}
		if got, f := Parse(p); err != api.OK || f.Err != api.OK || !same(got, e) {
			t.Fatalf("%q: printed %q %v: %v", s, p, err, f)
		}
	})
}
