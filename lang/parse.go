package lang

import (
	"slices"
	"strconv"
	"strings"

	"grainstore/agg"
	"grainstore/api"
)

// Parse answers the expression that a text is, or what is wrong with it, and where.
func Parse(s string) (e api.Expr, f api.Fault) {
	defer func() {
		if what := recover(); what != nil {
			e, f = api.Expr{}, caught(what)
		}
	}()
	r := reader{text: s}
	return r.whole(), f
}

// thrown is a fault on its way out of all that is being read, to Parse.
type thrown struct{ api.Fault }

func throw(err api.Errno, at int) {
	panic(thrown{api.Fault{Err: err, At: at}})
}

// caught answers the fault that was thrown. Anything else is no fault of the text, and must not look like one.
func caught(what any) api.Fault {
	t, ok := what.(thrown)
	if !ok {
		panic(what)
	}
	return t.Fault
}

// reader reads a text from the left. It stays right behind what it read last, ahead of blanks, as some faults are told there.
type reader struct {
	text  string
	at    int
	nodes int // expressions that have ended so far
}

func (r *reader) whole() api.Expr {
	if len(r.text) > api.MaxText {
		throw(api.ErrMuch, 0)
	}
	e := r.sum(1)
	end := r.begin()
	if end < len(r.text) {
		throw(api.ErrForm, end)
	}
	if deeper(e, api.MaxDeep) {
		throw(api.ErrMuch, end)
	}
	return e
}

// deeper tells whether there are more than most expressions within each other. Brackets don't count here, but what is read from the left does.
func deeper(e api.Expr, most int) bool {
	return most < 1 || slices.ContainsFunc(e.Kids, func(kid api.Expr) bool { return deeper(kid, most-1) })
}

func (r *reader) sum(deep int) api.Expr {
	return r.chain([]string{"+", "-"}, func() api.Expr { return r.term(deep) })
}

func (r *reader) term(deep int) api.Expr {
	return r.chain([]string{"*"}, func() api.Expr { return r.factor(deep) })
}

// chain reads parts with signs between, from the left.
func (r *reader) chain(signs []string, part func() api.Expr) api.Expr {
	e := part()
	for {
		i := slices.IndexFunc(signs, r.accept)
		if i < 0 {
			return e
		}
		e = r.ended(api.Expr{Kind: api.EBin, Word: signs[i], Kids: []api.Expr{e, part()}})
	}
}

// ended counts an expression where it ends.
func (r *reader) ended(e api.Expr) api.Expr {
	r.nodes++
	if r.nodes > api.MaxNodes {
		throw(api.ErrMuch, r.at)
	}
	return e
}

func (r *reader) factor(deep int) api.Expr {
	if deep > api.MaxDeep {
		throw(api.ErrMuch, r.at)
	}
	if r.accept("(") {
		e := r.sum(deep + 1)
		r.expect(")")
		return e
	}
	if isDigit(r.next()) {
		return r.ended(api.Expr{Kind: api.ENum, N: r.number(0, api.MaxNum)})
	}
	word := r.wordOf(append(agg.Words(), "all"))
	if word == "all" {
		return r.all(deep)
	}
	return r.window(word)
}

func (r *reader) window(word string) api.Expr {
	e := api.Expr{Kind: api.EWindow, Word: word}
	r.expect("(")
	r.expect("{")
	if !r.accept("}") {
		e.Matches = list(r, api.MaxMatches, r.match)
		r.expect("}")
	}
	r.expect("[")
	e.Range = r.number(1, api.MaxRange)
	r.expect("]")
	r.expect(")")
	return r.ended(e)
}

func (r *reader) match() api.Match {
	if r.accept("!") {
		return api.Match{Kind: api.Lacks, Key: r.word()}
	}
	key := r.word()
	if r.accept("=") {
		return api.Match{Kind: api.Is, Key: key, Val: r.word()}
	}
	if r.accept("!=") {
		return api.Match{Kind: api.IsNot, Key: key, Val: r.word()}
	}
	return api.Match{Kind: api.Has, Key: key}
}

func (r *reader) all(deep int) api.Expr {
	e := api.Expr{Kind: api.EAll, Word: r.wordOf(Totals())}
	if !r.accept("(") {
		r.by()
		e.By = list(r, api.MaxBy, r.word)
		r.expect("(")
	}
	e.Kids = []api.Expr{r.sum(deep + 1)}
	r.expect(")")
	return r.ended(e)
}

// by takes any word at all, as even one that is too long to be a name is here, above all, not the one that it must be.
func (r *reader) by() {
	at := r.begin()
	if r.anyWord() != "by" {
		throw(api.ErrForm, at)
	}
}

// list reads at least one of its parts, and at most so many, with commas between.
func list[T any](r *reader, most int, part func() T) []T {
	l := []T{part()}
	for r.accept(",") {
		if len(l) == most {
			throw(api.ErrMany, r.at)
		}
		l = append(l, part())
	}
	return l
}

func (r *reader) wordOf(may []string) string {
	at := r.begin()
	word := r.word()
	if !slices.Contains(may, word) {
		throw(api.ErrName, at)
	}
	return word
}

func (r *reader) word() string {
	at := r.begin()
	word := r.anyWord()
	if word == "" {
		throw(api.ErrForm, at)
	}
	if len(word) > api.MaxName {
		throw(api.ErrName, at)
	}
	return word
}

// anyWord answers the word that is next, however long it is; an empty text, if there is none.
func (r *reader) anyWord() string {
	if !isLetter(r.next()) {
		return ""
	}
	return r.run(func(b byte) bool { return isLetter(b) || isDigit(b) || b == '_' })
}

func (r *reader) number(least, most int) int {
	at := r.begin()
	digits := r.run(isDigit)
	if digits == "" {
		throw(api.ErrForm, at)
	}
	n, err := strconv.Atoi(digits)
	if err != nil || len(digits) > 1 && digits[0] == '0' || n < least || n > most {
		throw(api.ErrRange, at)
	}
	return n
}

// run answers the bytes from where the next thing begins on, as far as they are so.
func (r *reader) run(isSo func(byte) bool) string {
	from := r.begin()
	r.at = from
	for r.at < len(r.text) && isSo(r.text[r.at]) {
		r.at++
	}
	return r.text[from:r.at]
}

func (r *reader) accept(sign string) bool {
	at := r.begin()
	if !strings.HasPrefix(r.text[at:], sign) {
		return false
	}
	r.at = at + len(sign)
	return true
}

func (r *reader) expect(sign string) {
	if !r.accept(sign) {
		throw(api.ErrForm, r.begin())
	}
}

// next answers the byte that is next, behind blanks; 0 at the end, as a byte 0 is nothing that could be read either.
func (r *reader) next() byte {
	at := r.begin()
	if at == len(r.text) {
		return 0
	}
	return r.text[at]
}

// begin answers where what is next begins, behind blanks.
func (r *reader) begin() int {
	at := r.at
	for at < len(r.text) && r.text[at] == ' ' {
		at++
	}
	return at
}

func isLetter(b byte) bool { return b >= 'a' && b <= 'z' }

func isDigit(b byte) bool { return b >= '0' && b <= '9' }
