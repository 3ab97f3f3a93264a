package codec

// maxNumberBytes is how many bytes a number has at most, when it is read.
const maxNumberBytes = 6

// fold lays the numbers of both signs among those from 0 on, so that small ones stay short, whichever sign they have.
func fold(n int) uint {
	if n < 0 {
		return 2*uint(-n) - 1
	}
	return 2 * uint(n)
}

func unfold(u uint) int {
	if u%2 == 1 {
		return -int(u/2) - 1
	}
	return int(u / 2)
}

func appendNumber(b []byte, n int) []byte {
	u := fold(n)
	for u >= 0x80 {
		b = append(b, byte(u)|0x80)
		u >>= 7
	}
	return append(b, byte(u))
}

// readNumber reads the number that b begins with, and answers what follows it. A number is written in one way only: a last byte of 0 behind others says nothing, so it is refused.
func readNumber(b []byte) (n int, rest []byte, ok bool) {
	var u uint
	for i, x := range b[:min(len(b), maxNumberBytes)] {
		u |= uint(x&0x7f) << (7 * i)
		if x >= 0x80 {
			continue
		}
		if x == 0 && i > 0 {
			return 0, nil, false
		}
		return unfold(u), b[i+1:], true
	}
	return 0, nil, false
}
