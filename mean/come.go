package mean

import (
	"cmp"
	"slices"

	"grainstore/agg"
	"grainstore/api"
	"grainstore/names"
)

// meaning is what an expression comes to: cells, or a number. A number, too, is kept as it is answered, as one cell without labels; but it goes with cells of any series.
type meaning struct {
	isNumber bool
	cells    []api.Cell
}

// at answers the value that goes with cells of a series, and whether there is one.
func (m meaning) at(s api.Series) (int, bool) {
	if m.isNumber {
		return m.cells[0].Value, true
	}
	i := slices.IndexFunc(m.cells, func(c api.Cell) bool { return names.Compare(c.Series, s) == 0 })
	if i < 0 {
		return 0, false
	}
	return m.cells[i].Value, true
}

// comesTo answers what a right expression comes to. Where windows are read from is not its matter: they are asked for.
func comesTo(e api.Expr, window func(api.Expr) (meaning, api.Errno)) (meaning, api.Errno) {
	switch e.Kind {
	case api.ENum:
		return meaning{isNumber: true, cells: []api.Cell{{Value: e.N}}}, api.OK
	case api.EWindow:
		return window(e)
	}
	first, err := comesTo(e.Kids[0], window)
	if err != api.OK {
		return meaning{}, err
	}
	if e.Kind == api.EAll {
		return allOf(first.cells, e.Word, e.By)
	}
	second, err := comesTo(e.Kids[1], window)
	if err != api.OK {
		return meaning{}, err
	}
	return binOf(first, second, e.Word)
}

// windowOf answers the cells of an EWindow: series rise, so their cells do.
func windowOf(l []api.Series, e api.Expr, sum func(i int) (api.Sum, api.Errno)) (meaning, api.Errno) {
	var out []api.Cell
	for i, series := range l {
		if !names.Matches(series, e.Matches) {
			continue
		}
		s, err := sum(i)
		if err != api.OK {
			return meaning{}, err
		}
		if v, ok := agg.Value(e.Word, s); ok {
			out = append(out, api.Cell{Series: slices.Clone(series), Value: v})
		}
	}
	return meaning{cells: out}, api.OK
}

// ahead answers how many samples are ahead of a time.
func ahead(l []api.Sample, time int) int {
	i, _ := slices.BinarySearchFunc(l, time, func(x api.Sample, t int) int { return cmp.Compare(x.Time, t) })
	return i
}

// binOf goes by the first one's cells; but a number has none of its own, so then by the second one's. Of two numbers that is a number's.
func binOf(first, second meaning, word string) (meaning, api.Errno) {
	from := first
	if first.isNumber {
		from = second
	}
	out := meaning{isNumber: from.isNumber}
	for _, c := range from.cells {
		a, inFirst := first.at(c.Series)
		b, inSecond := second.at(c.Series)
		if !inFirst || !inSecond {
			continue
		}
		v, err := worked(word, a, b)
		if err != api.OK {
			return meaning{}, err
		}
		out.cells = append(out.cells, api.Cell{Series: c.Series, Value: v})
	}
	return out, api.OK
}

// worked answers what a sign makes of two values that cells may have.
func worked(sign string, a, b int) (int, api.Errno) {
	switch sign {
	case "+":
		return bounded(a + b)
	case "-":
		return bounded(a - b)
	}
	// A product may go over Go's int, so its size is told ahead of it.
	if a != 0 && max(b, -b) > api.MaxCell/max(a, -a) {
		return 0, api.ErrRange
	}
	return a * b, api.OK
}

// bounded refuses a value that no cell may have.
func bounded(v int) (int, api.Errno) {
	if v > api.MaxCell || v < -api.MaxCell {
		return 0, api.ErrRange
	}
	return v, api.OK
}

// allOf looks at each value so far, so that none goes over Go's int, however many cells there are.
func allOf(cells []api.Cell, word string, by []string) (meaning, api.Errno) {
	var out []api.Cell
	for _, c := range cells {
		if word == "count" {
			c.Value = 1
		}
		s := names.Only(c.Series, by)
		i, found := slices.BinarySearchFunc(out, s, func(x api.Cell, s api.Series) int { return names.Compare(x.Series, s) })
		if !found {
			out = slices.Insert(out, i, api.Cell{Series: s, Value: c.Value})
			continue
		}
		v, err := bounded(together(word, out[i].Value, c.Value))
		if err != api.OK {
			return meaning{}, err
		}
		out[i].Value = v
	}
	return meaning{cells: out}, api.OK
}

// together answers what a word makes of two values; those that are counted are sums of ones.
func together(word string, a, b int) int {
	switch word {
	case "max":
		return max(a, b)
	case "min":
		return min(a, b)
	}
	return a + b
}
