package codec

import (
	"bytes"
	"math"
	"math/rand"
	"slices"
	"testing"

	"grainstore/api"
)

// samples takes times and values in turn.
func samples(l ...int) []api.Sample {
	var out []api.Sample
	for i := 0; i+1 < len(l); i += 2 {
		out = append(out, api.Sample{Time: l[i], Value: l[i+1]})
	}
	return out
}

// rising are n right samples, with values of both signs.
func rising(n int) []api.Sample {
	var out []api.Sample
	for i := range n {
		out = append(out, api.Sample{Time: i * i, Value: (i%7 - 3) * i})
	}
	return out
}

// number writes n by the document's words: by halves and remainders rather than by shifts.
func number(n int) []byte {
	u := 2 * n
	if n < 0 {
		u = -2*n - 1
	}
	var out []byte
	for u > 127 {
		out = append(out, byte(u%128+128))
		u /= 128
	}
	return append(out, byte(u))
}

// numbers writes one number behind the other.
func numbers(l ...int) []byte {
	var out []byte
	for _, n := range l {
		out = append(out, number(n)...)
	}
	return out
}

// written is what Bytes must write of right samples.
func written(l []api.Sample) []byte {
	out := number(len(l))
	for i, x := range l {
		var one, two api.Sample
		if i > 0 {
			one = l[i-1]
		}
		if i > 1 {
			two = l[i-2]
		}
		out = append(out, numbers(x.Time-2*one.Time+two.Time, x.Value-one.Value)...)
	}
	return out
}

var wrongCases = []struct {
	name string
	l    []api.Sample
	want api.Fault
}{
	{"nil", nil, api.Fault{}},
	{"empty", []api.Sample{}, api.Fault{}},
	{"least", samples(0, -api.MaxValue), api.Fault{}},
	{"greatest", samples(api.MaxTime, api.MaxValue), api.Fault{}},
	{"rising by one", samples(0, 0, 1, 0, 2, 0), api.Fault{}},
	{"time below 0", samples(-1, 0), api.Fault{Err: api.ErrRange}},
	{"time above MaxTime", samples(api.MaxTime+1, 0), api.Fault{Err: api.ErrRange}},
	{"value above MaxValue", samples(0, api.MaxValue+1), api.Fault{Err: api.ErrRange}},
	{"value below -MaxValue", samples(0, -api.MaxValue-1), api.Fault{Err: api.ErrRange}},
	{"least int as time", samples(math.MinInt, 0), api.Fault{Err: api.ErrRange}},
	{"greatest int as time", samples(0, 0, math.MaxInt, 0), api.Fault{Err: api.ErrRange, At: 1}},
	{"least int as value", samples(0, 0, 1, math.MinInt), api.Fault{Err: api.ErrRange, At: 1}},
	{"greatest int as value", samples(0, math.MaxInt), api.Fault{Err: api.ErrRange}},
	{"same time", samples(1, 1, 1, 2), api.Fault{Err: api.ErrForm, At: 1}},
	{"same time 0", samples(0, 1, 0, 1), api.Fault{Err: api.ErrForm, At: 1}},
	{"falling time", samples(5, 1, 6, 1, 4, 2), api.Fault{Err: api.ErrForm, At: 2}},
	{"range ahead of form", samples(5, 1, 4, api.MaxValue+1), api.Fault{Err: api.ErrRange, At: 1}},
	{"falling below 0", samples(5, 1, -1, 0), api.Fault{Err: api.ErrRange, At: 1}},
	{"form of an earlier one", samples(5, 1, 5, 1, -1, 0), api.Fault{Err: api.ErrForm, At: 1}},
	{"range of an earlier one", samples(5, 1, 6, -api.MaxValue-1, 6, 0), api.Fault{Err: api.ErrRange, At: 1}},
	{"MaxSamples", rising(api.MaxSamples), api.Fault{}},
	{"more than MaxSamples", rising(api.MaxSamples + 1), api.Fault{Err: api.ErrMany}},
	{"many ahead of all else", make([]api.Sample, api.MaxSamples+1), api.Fault{Err: api.ErrMany}},
	{"many ahead of range", append(samples(-1, 0), rising(api.MaxSamples)...), api.Fault{Err: api.ErrMany}},
	{"wrong at the last of MaxSamples", append(rising(api.MaxSamples-1), api.Sample{}), api.Fault{Err: api.ErrForm, At: api.MaxSamples - 1}},
}

// A1.
func TestWrong(t *testing.T) {
	for _, c := range wrongCases {
		if got := Wrong(c.l); got != c.want {
			t.Errorf("%s: %v, not %v", c.name, got, c.want)
		}
	}
}

// A2: Bytes begins with what Wrong says; what it writes is parsed.
func TestBytesSaysWrong(t *testing.T) {
	for _, c := range wrongCases {
		b, f := Bytes(c.l)
		if f != c.want {
			t.Errorf("%s: fault %v, not %v", c.name, f, c.want)
		}
		if f.Err != api.OK {
			if b != nil {
				t.Errorf("%s: %v beside a fault", c.name, b)
			}
			continue
		}
		checkWritten(t, c.l, b)
	}
}

func checkWritten(t *testing.T, l []api.Sample, b []byte) {
	t.Helper()
	if !bytes.Equal(b, written(l)) {
		t.Errorf("%v: %v, not %v", l, b, written(l))
	}
	x, err := Parse(b)
	if err != api.OK || !slices.Equal(x, l) {
		t.Errorf("%v is written, %v and %v read", l, x, err)
	}
}

// A2, byte by byte.
func TestBytes(t *testing.T) {
	for _, c := range []struct {
		l    []api.Sample
		want []byte
	}{
		{nil, []byte{0}},
		{samples(0, 0), []byte{2, 0, 0}},
		{samples(5, -7), []byte{2, 10, 13}},
		{samples(10, 0, 20, 0), []byte{4, 20, 0, 0, 0}},
		{samples(10, 5, 20, 5, 30, 5, 40, 6), []byte{8, 20, 10, 0, 0, 0, 0, 0, 2}},
		{samples(1, 63, 2, 0, 3, 64, 4, 0), []byte{8, 2, 126, 0, 125, 0, 0x80, 1, 0, 127}},
		{samples(3, 0, 4, 0), []byte{4, 6, 0, 3, 0}},
		{samples(64, -65), []byte{2, 0x80, 1, 0x81, 1}},
		{samples(0, 8191, 1, -1), []byte{4, 0, 0xfe, 0x7f, 2, 0xff, 0x7f}},
		{samples(0, 8192), []byte{2, 0, 0x80, 0x80, 1}},
		{samples(0, api.MaxValue, api.MaxTime, -api.MaxValue), []byte{4, 0, 128, 168, 214, 185, 7, 128, 137, 122, 255, 207, 172, 243, 14}},
	} {
		b, f := Bytes(c.l)
		if f != (api.Fault{}) || !bytes.Equal(b, c.want) {
			t.Errorf("%v: %v and %v, not %v", c.l, b, f, c.want)
		}
	}
}

// A2: samples of all sizes are written by the document's words, and read again.
func TestBytesOfMany(t *testing.T) {
	r := rand.New(rand.NewSource(1))
	for range 2000 {
		var l []api.Sample
		most, high := 1<<r.Intn(15), 1<<r.Intn(30)
		for time := r.Intn(most); time <= api.MaxTime && len(l) < api.MaxSamples; time += 1 + r.Intn(most) {
			l = append(l, api.Sample{Time: time, Value: r.Intn(2*high) - high})
		}
		b, f := Bytes(l)
		if f != (api.Fault{}) {
			t.Fatalf("%v: %v", l, f)
		}
		checkWritten(t, l, b)
	}
}

// A2, what Parse refuses, and what it only just takes.
func TestParse(t *testing.T) {
	six := []byte{0x80, 0x80, 0x80, 0x80, 0x80, 1}
	seven := []byte{0x80, 0x80, 0x80, 0x80, 0x80, 0x80, 1}
	greatestOfSix := []byte{0xff, 0xff, 0xff, 0xff, 0xff, 0x7f}
	join := func(l ...[]byte) []byte { return slices.Concat(l...) }
	for _, c := range []struct {
		name string
		b    []byte
		want []api.Sample
		err  api.Errno
	}{
		{"nothing", nil, nil, api.ErrForm},
		{"no bytes", []byte{}, nil, api.ErrForm},
		{"no samples", []byte{0}, nil, api.OK},
		{"a byte behind no samples", []byte{0, 0}, nil, api.ErrForm},
		{"one sample", []byte{2, 10, 13}, samples(5, -7), api.OK},
		{"two samples", []byte{4, 20, 10, 0, 1}, samples(10, 5, 20, 4), api.OK},
		{"fewer than none", []byte{1}, nil, api.ErrForm},
		{"fewer than none, and bytes", []byte{1, 0, 0}, nil, api.ErrForm},
		{"a number that goes on", []byte{0x80}, nil, api.ErrForm},
		{"no byte of a sample", []byte{2}, nil, api.ErrForm},
		{"one byte of a sample", []byte{2, 0}, nil, api.ErrForm},
		{"two bytes, but not two numbers", []byte{2, 0x80, 1}, nil, api.ErrForm},
		{"a value that ends too early", []byte{2, 0, 0x80}, nil, api.ErrForm},
		{"a sample too few", []byte{4, 0x80, 1, 0x80, 1}, nil, api.ErrForm},
		{"a byte behind the last sample", []byte{2, 0, 0, 0}, nil, api.ErrForm},
		{"a sample behind the last one", []byte{2, 0, 0, 2, 0}, nil, api.ErrForm},
		{"their number not short", []byte{0x80, 0}, nil, api.ErrForm},
		{"their number not short, of one", []byte{0x82, 0, 0, 0}, nil, api.ErrForm},
		{"a step not short", []byte{2, 0x80, 0, 0}, nil, api.ErrForm},
		{"a value not short", []byte{2, 0, 0x81, 0x80, 0}, nil, api.ErrForm},
		{"a value of six bytes, not short", []byte{2, 0, 0x81, 0x80, 0x80, 0x80, 0x80, 0}, nil, api.ErrForm},
		{"a step of six bytes", join([]byte{2}, six, []byte{0}), nil, api.ErrRange},
		{"a value of six bytes", join([]byte{2, 0}, six), nil, api.ErrRange},
		{"the greatest of six bytes", join([]byte{2, 0}, greatestOfSix), nil, api.ErrRange},
		{"six bytes, and one behind", join([]byte{2, 0}, six, []byte{0}), nil, api.ErrForm},
		{"a step of seven bytes", join([]byte{2}, seven, []byte{0}), nil, api.ErrForm},
		{"a value of seven bytes", join([]byte{2, 0}, seven), nil, api.ErrForm},
		{"seven bytes, not short", join([]byte{2, 0}, seven[:6], []byte{0}), nil, api.ErrForm},
		{"ten bytes", join([]byte{2, 0}, bytes.Repeat([]byte{0xff}, 9), []byte{1}), nil, api.ErrForm},
		{"their number of six bytes", six, nil, api.ErrForm},
		{"their number of six bytes, and few", join(six, make([]byte, 100)), nil, api.ErrForm},
		{"their number of seven bytes", join(seven, make([]byte, 100)), nil, api.ErrForm},
		{"MaxTime", numbers(1, api.MaxTime, 0), samples(api.MaxTime, 0), api.OK},
		{"behind MaxTime", numbers(1, api.MaxTime+1, 0), nil, api.ErrRange},
		{"behind MaxTime in two steps", numbers(2, api.MaxTime, 0, 1-api.MaxTime, 0), nil, api.ErrRange},
		{"time below 0", numbers(1, -1, 0), nil, api.ErrRange},
		{"MaxValue", numbers(1, 0, api.MaxValue), samples(0, api.MaxValue), api.OK},
		{"above MaxValue", numbers(1, 0, api.MaxValue+1), nil, api.ErrRange},
		{"-MaxValue", numbers(1, 0, -api.MaxValue), samples(0, -api.MaxValue), api.OK},
		{"below -MaxValue", numbers(1, 0, -api.MaxValue-1), nil, api.ErrRange},
		{"above MaxValue in two", numbers(2, 0, api.MaxValue, 1, 1), nil, api.ErrRange},
		{"a step of 0", numbers(2, 1, 0, -1, 0), nil, api.ErrForm},
		{"a step back", numbers(2, 5, 0, -6, 0), nil, api.ErrForm},
		{"range of an earlier one", numbers(3, 5, 0, -50, 0, 0, 0), nil, api.ErrRange},
		{"form of an earlier one", numbers(3, 5, 0, -5, 0, -50, 0), nil, api.ErrForm},
		{"wrong, and ends too early", numbers(2, -1, 0, 0), nil, api.ErrForm},
	} {
		x, err := Parse(c.b)
		if err != c.err || !slices.Equal(x, c.want) {
			t.Errorf("%s: %v and %v, not %v and %v", c.name, x, err, c.want, c.err)
		}
	}
}

// A2: how many there are is told behind how they are written.
func TestParseMany(t *testing.T) {
	most := written(rising(api.MaxSamples))
	if x, err := Parse(most); err != api.OK || !slices.Equal(x, rising(api.MaxSamples)) {
		t.Errorf("MaxSamples: %d of them, and %v", len(x), err)
	}
	far := numbers(1 << 12)
	for range 1 << 12 {
		far = append(far, 0xfe, 0xff, 0xff, 0xff, 0xff, 0x7f, 0)
	}
	for name, b := range map[string][]byte{
		"one more":                  written(rising(api.MaxSamples + 1)),
		"many more":                 written(rising(20 * api.MaxSamples)),
		"all at 0":                  append(numbers(api.MaxSamples+1), make([]byte, 2*api.MaxSamples+2)...),
		"times that go over an int": far,
	} {
		if x, err := Parse(b); err != api.ErrMany || x != nil {
			t.Errorf("%s: %d of them, and %v", name, len(x), err)
		}
		if x, err := Parse(append(b, 0)); err != api.ErrForm || x != nil {
			t.Errorf("%s, and a byte behind: %d of them, and %v", name, len(x), err)
		}
		if x, err := Parse(b[:len(b)-1]); err != api.ErrForm || x != nil {
			t.Errorf("%s, a byte too few: %d of them, and %v", name, len(x), err)
		}
	}
}

// A2: of all short bytes Parse takes just those that Bytes writes.
func TestParseShort(t *testing.T) {
	edges := []byte{0, 1, 2, 3, 4, 6, 0x7f, 0x80, 0x81, 0xff}
	var try func(b []byte)
	try = func(b []byte) {
		checkJustSo(t, b)
		if len(b) < 6 {
			for _, x := range edges {
				try(append(b, x))
			}
		}
	}
	try(nil)
}

func checkJustSo(t *testing.T, b []byte) {
	t.Helper()
	x, err := Parse(b)
	if err != api.OK {
		if x != nil {
			t.Errorf("%v: %v beside %v", b, x, err)
		}
		return
	}
	if again, f := Bytes(x); f != (api.Fault{}) || !bytes.Equal(again, b) {
		t.Errorf("%v is read as %v, that is written as %v", b, x, again)
	}
}

func FuzzParse(f *testing.F) {
	for _, c := range wrongCases {
		f.Add(written(c.l))
	}
	f.Fuzz(func(t *testing.T, b []byte) { checkJustSo(t, b) })
}

// Z2: neither what is handed in, nor the spare room behind it, is changed or looked at.
func TestHandedInIsOnlyRead(t *testing.T) {
	room := samples(1, 2, 3, 4, -5, 6)
	b, f := Bytes(room[:2])
	if f != (api.Fault{}) || !slices.Equal(room, samples(1, 2, 3, 4, -5, 6)) {
		t.Errorf("%v, and %v is left", f, room)
	}
	whole := append(slices.Clone(b), 0x80, 0x80)
	kept := slices.Clone(whole)
	if x, err := Parse(whole[:len(b)]); err != api.OK || !slices.Equal(x, samples(1, 2, 3, 4)) {
		t.Errorf("%v and %v", x, err)
	}
	if _, err := Parse(whole[:len(b)-1]); err != api.ErrForm {
		t.Errorf("%v of bytes whose rest is in the spare room", err)
	}
	if !bytes.Equal(whole, kept) {
		t.Errorf("%v became %v", kept, whole)
	}
}

// Z2: what is answered is the caller's, its spare room too.
func TestAnswersAreNew(t *testing.T) {
	l := samples(1, 2, 3, 4)
	one, _ := Bytes(l)
	two, _ := Bytes(l)
	clear(one[:cap(one)])
	if !bytes.Equal(two, written(l)) {
		t.Errorf("bytes share memory: %v", two)
	}
	x, _ := Parse(two)
	y, _ := Parse(two)
	clear(x[:cap(x)])
	clear(two)
	if !slices.Equal(y, l) || !slices.Equal(l, samples(1, 2, 3, 4)) {
		t.Errorf("samples share memory: %v, %v", y, l)
	}
}
