package codec

import (
	"bytes"
	"testing"
)

// A2: numbers around each change of length, both ways.
func TestNumbers(t *testing.T) {
	for bits := range 41 {
		for near := -2; near <= 2; near++ {
			for _, n := range []int{1<<bits + near, -1<<bits + near} {
				checkNumber(t, n)
			}
		}
	}
	checkNumber(t, 1<<41-1)
	checkNumber(t, -1<<41)
}

func checkNumber(t *testing.T, n int) {
	t.Helper()
	b := appendNumber([]byte{9}, n)
	if !bytes.Equal(b[1:], number(n)) || b[0] != 9 {
		t.Errorf("%d: %v, not 9 and %v", n, b, number(n))
	}
	got, rest, ok := readNumber(append(b[1:], 7, 8))
	if !ok || got != n || !bytes.Equal(rest, []byte{7, 8}) {
		t.Errorf("%d is read as %d, %v behind it, %v", n, got, rest, ok)
	}
}

// A2: the least numbers of seven bytes are no numbers.
func TestNumbersOfSeven(t *testing.T) {
	for _, n := range []int{1 << 41, -1<<41 - 1} {
		if got, rest, ok := readNumber(number(n)); ok || got != 0 || rest != nil {
			t.Errorf("%d is read as %d, %v behind it", n, got, rest)
		}
	}
}
