package base

import (
	"slices"

	"grainstore/api"
	"grainstore/codec"
	"grainstore/lang"
	"grainstore/mean"
	"grainstore/names"
	"grainstore/plan"
	"grainstore/shelf"
)

// going is a base that goes on, from one thing that is done to the next. Its shelves are always right ones, rise by series, and all were rolled up to Horizon.
type going struct {
	api.Base
}

func (b *going) do(d api.Do) api.Answer {
	switch d.Kind {
	case api.DoAppend:
		return api.Answer{Err: b.take(d.Series, d.Sample)}
	case api.DoRoll:
		return api.Answer{Err: b.roll(d.To)}
	case api.DoForget:
		return api.Answer{Err: b.forget(d.Tier, d.To)}
	case api.DoAsk:
		return b.ask(d.Text, d.To)
	}
	return api.Answer{Err: api.ErrKind}
}

// take refuses what is ahead of Horizon, of new series too: what was rolled is all there ever is.
func (b *going) take(s api.Series, x api.Sample) api.Errno {
	if err := names.Wrong(s); err != api.OK {
		return err
	}
	if f := codec.Wrong([]api.Sample{x}); f.Err != api.OK {
		return f.Err
	}
	if x.Time < b.Horizon {
		return api.ErrLate
	}
	i, found := b.find(s)
	if found {
		return b.put(i, x)
	}
	return b.putNew(i, s, x)
}

// find answers where the shelf of a series stands, or else would stand.
func (b *going) find(s api.Series) (int, bool) {
	return slices.BinarySearchFunc(b.Shelves, s, func(k api.Shelf, s api.Series) int { return names.Compare(k.Series, s) })
}

func (b *going) put(i int, x api.Sample) api.Errno {
	k, err := shelf.Append(b.Shelves[i], x)
	if err == api.OK {
		b.Shelves[i] = k
	}
	return err
}

// putNew rolls the new shelf ahead of its first sample, so that it tells, as all others do, that nothing is to come ahead of Horizon.
func (b *going) putNew(i int, s api.Series, x api.Sample) api.Errno {
	if len(b.Shelves) >= api.MaxSeries {
		return api.ErrMany
	}
	k, err := shelf.Roll(shelf.New(s), b.Horizon)
	if err != api.OK {
		return err
	}
	if k, err = shelf.Append(k, x); err != api.OK {
		return err
	}
	b.Shelves = slices.Insert(b.Shelves, i, k)
	return api.OK
}

func (b *going) roll(to int) api.Errno {
	if !isTime(to) {
		return api.ErrRange
	}
	err := b.each(func(k api.Shelf) (api.Shelf, api.Errno) { return shelf.Roll(k, to) })
	if err == api.OK {
		b.Horizon = max(b.Horizon, to-to%api.FineStep)
	}
	return err
}

// forget looks at what it is given itself: a base without shelves, too, refuses what is wrong.
func (b *going) forget(tier, to int) api.Errno {
	if !isTime(to) {
		return api.ErrRange
	}
	if tier != api.Raw && tier != api.Fine && tier != api.Coarse {
		return api.ErrKind
	}
	return b.each(func(k api.Shelf) (api.Shelf, api.Errno) { return shelf.Forget(k, tier, to) })
}

func isTime(to int) bool {
	return to >= 0 && to <= api.MaxTime
}

// each changes all shelves, or, if one refuses, none.
func (b *going) each(change func(api.Shelf) (api.Shelf, api.Errno)) api.Errno {
	changed := make([]api.Shelf, 0, len(b.Shelves))
	for _, k := range b.Shelves {
		k, err := change(k)
		if err != api.OK {
			return err
		}
		changed = append(changed, k)
	}
	b.Shelves = changed
	return api.OK
}

func (b *going) ask(text string, time int) api.Answer {
	e, f := lang.Parse(text)
	if f.Err != api.OK {
		return api.Answer{Err: f.Err, At: f.At}
	}
	cost := 0
	cells, err := mean.Over(b.series(), e, time, func(i, from, to int) (api.Sum, api.Errno) {
		s, n, err := look(b.Shelves[i], from, to)
		cost += n
		return s, err
	})
	if err != api.OK {
		return api.Answer{Err: err}
	}
	return api.Answer{Cells: cells, Cost: cost}
}

func (b *going) series() []api.Series {
	out := make([]api.Series, len(b.Shelves))
	for i, k := range b.Shelves {
		out[i] = k.Series
	}
	return out
}

// look answers what a shelf has in a window, and at how many samples and buckets it looked for that.
func look(k api.Shelf, from, to int) (api.Sum, int, api.Errno) {
	parts, err := plan.Choose(k, from, to)
	if err != api.OK {
		return api.Sum{}, 0, err
	}
	return plan.Read(k, parts)
}
