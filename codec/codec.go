// Package codec has samples as bytes: see doc/01-codec.md.
package codec

import "grainstore/api"

// Wrong tells what is wrong with samples, and at which of them; of right ones OK.
func Wrong(l []api.Sample) api.Fault {
	if len(l) > api.MaxSamples {
		return api.Fault{Err: api.ErrMany}
	}
	for i, x := range l {
		if !inRange(x) {
			return api.Fault{Err: api.ErrRange, At: i}
		}
		if i > 0 && l[i-1].Time >= x.Time {
			return api.Fault{Err: api.ErrForm, At: i}
		}
	}
	return api.Fault{}
}

func inRange(x api.Sample) bool {
	return x.Time >= 0 && x.Time <= api.MaxTime && x.Value >= -api.MaxValue && x.Value <= api.MaxValue
}

// Bytes writes right samples: their number, then of each how its step and its value differ from those ahead.
func Bytes(l []api.Sample) ([]byte, api.Fault) {
	if f := Wrong(l); f.Err != api.OK {
		return nil, f
	}
	b := appendNumber(nil, len(l))
	var ahead api.Sample
	step := 0
	for _, x := range l {
		next := x.Time - ahead.Time
		b = appendNumber(b, next-step)
		b = appendNumber(b, x.Value-ahead.Value)
		ahead, step = x, next
	}
	return b, api.Fault{}
}

// Parse reads what Bytes writes, and nothing else.
func Parse(b []byte) ([]api.Sample, api.Errno) {
	l, ok := readSamples(b)
	if !ok {
		return nil, api.ErrForm
	}
	if f := Wrong(l); f.Err != api.OK {
		return nil, f.Err
	}
	return l, api.OK
}

// readSamples answers the samples that b tells, and whether b is well written up to its end. How b is written comes ahead of how many there are, so all of b is read; but one sample too many is enough for Wrong, so no more are kept. Of so few, no sum of numbers goes over.
func readSamples(b []byte) ([]api.Sample, bool) {
	n, rest, ok := readNumber(b)
	if !ok || n < 0 || n > len(rest)/2 {
		return nil, false
	}
	l := make([]api.Sample, 0, min(n, api.MaxSamples+1))
	var x api.Sample
	step := 0
	for range n {
		var faster, higher int
		if faster, rest, ok = readNumber(rest); !ok {
			return nil, false
		}
		if higher, rest, ok = readNumber(rest); !ok {
			return nil, false
		}
		step += faster
		x = api.Sample{Time: x.Time + step, Value: x.Value + higher}
		if len(l) <= api.MaxSamples {
			l = append(l, x)
		}
	}
	return l, len(rest) == 0
}
