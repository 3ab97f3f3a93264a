package lang

import (
	"slices"

	"grainstore/agg"
	"grainstore/api"
	"grainstore/names"
)

// Wrong tells what is wrong with an expression; of a right one OK.
func Wrong(e api.Expr) api.Errno {
	var c counter
	return c.wrong(e, 1)
}

// counter has how many expressions were looked at so far.
type counter struct{ nodes int }

// wrong looks at an expression ahead of its kids, so that it ends, however many or deep they are.
func (c *counter) wrong(e api.Expr, deep int) api.Errno {
	c.nodes++
	if c.nodes > api.MaxNodes || deep > api.MaxDeep {
		return api.ErrMuch
	}
	if err := wrongAlone(e); err != api.OK {
		return err
	}
	for _, kid := range e.Kids {
		if err := c.wrong(kid, deep+1); err != api.OK {
			return err
		}
	}
	return api.OK
}

// wrongAlone tells what is wrong with an expression, whatever its kids are.
func wrongAlone(e api.Expr) api.Errno {
	kids, known := kidsOf(e.Kind)
	if !known {
		return api.ErrKind
	}
	if len(e.Kids) != kids {
		return api.ErrMany
	}
	switch e.Kind {
	case api.ENum:
		return outside(e.N, 0, api.MaxNum)
	case api.EWindow:
		return wrongWindow(e)
	case api.EAll:
		return wrongAll(e)
	}
	return wrongBin(e)
}

// kidsOf answers how many kids a kind of expressions has, and whether there is such a kind.
func kidsOf(kind int) (int, bool) {
	switch kind {
	case api.ENum, api.EWindow:
		return 0, true
	case api.EAll:
		return 1, true
	case api.EBin:
		return 2, true
	}
	return 0, false
}

func outside(n, least, most int) api.Errno {
	if n < least || n > most {
		return api.ErrRange
	}
	return api.OK
}

func wrongWindow(e api.Expr) api.Errno {
	if !slices.Contains(agg.Words(), e.Word) {
		return api.ErrName
	}
	if len(e.Matches) > api.MaxMatches {
		return api.ErrMany
	}
	for _, m := range e.Matches {
		if err := wrongMatch(m); err != api.OK {
			return err
		}
	}
	return outside(e.Range, 1, api.MaxRange)
}

func wrongMatch(m api.Match) api.Errno {
	if m.Kind < api.Is || m.Kind > api.Lacks {
		return api.ErrKind
	}
	hasVal := m.Kind == api.Is || m.Kind == api.IsNot
	if !names.Named(m.Key) || hasVal && !names.Named(m.Val) {
		return api.ErrName
	}
	return api.OK
}

func wrongAll(e api.Expr) api.Errno {
	if !slices.Contains(Totals(), e.Word) {
		return api.ErrName
	}
	if len(e.By) > api.MaxBy {
		return api.ErrMany
	}
	for _, key := range e.By {
		if !names.Named(key) {
			return api.ErrName
		}
	}
	return api.OK
}

func wrongBin(e api.Expr) api.Errno {
	switch e.Word {
	case "+", "-", "*":
		return api.OK
	}
	return api.ErrName
}
