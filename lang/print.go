package lang

import (
	"strconv"
	"strings"

	"grainstore/api"
)

// Print answers an expression as text, that Parse reads as the same one again.
func Print(e api.Expr) (string, api.Errno) {
	if err := Wrong(e); err != api.OK {
		return "", err
	}
	s := text(e)
	if len(s) > api.MaxText {
		return "", api.ErrMuch
	}
	return s, api.OK
}

// text writes an expression that is not wrong.
func text(e api.Expr) string {
	switch e.Kind {
	case api.ENum:
		return strconv.Itoa(e.N)
	case api.EWindow:
		return e.Word + "({" + matchesText(e.Matches) + "}[" + strconv.Itoa(e.Range) + "])"
	case api.EAll:
		return "all " + e.Word + byText(e.By) + " (" + text(e.Kids[0]) + ")"
	}
	// What is read from the left needs no brackets at its left, but more than its own rank at its right.
	return within(e.Kids[0], rank(e)) + " " + e.Word + " " + within(e.Kids[1], rank(e)+1)
}

// The ranks of what is read: a part of one rank may stand without brackets where that rank, or a lower one, is read.
const (
	rankSum = iota
	rankTerm
	rankFactor
)

func rank(e api.Expr) int {
	if e.Kind != api.EBin {
		return rankFactor
	}
	if e.Word == "*" {
		return rankTerm
	}
	return rankSum
}

// within writes an expression where one of a rank, at least, is read.
func within(e api.Expr, least int) string {
	if rank(e) < least {
		return "(" + text(e) + ")"
	}
	return text(e)
}

func matchesText(l []api.Match) string {
	var out []string
	for _, m := range l {
		out = append(out, matchText(m))
	}
	return strings.Join(out, ",")
}

func matchText(m api.Match) string {
	switch m.Kind {
	case api.Is:
		return m.Key + "=" + m.Val
	case api.IsNot:
		return m.Key + "!=" + m.Val
	case api.Lacks:
		return "!" + m.Key
	}
	return m.Key
}

func byText(by []string) string {
	if len(by) == 0 {
		return ""
	}
	return " by " + strings.Join(by, ",")
}
