package tree

// Digits are strings of bytes 0 to 15, so that the language's ways with
// strings (beginnings, pieces, likeness) are theirs too.
const manyDigits = 16

// A path's first digit is the sum of these.
const (
	oddPath    = 1
	markedPath = 2
)

func digitsOf(s string) string {
	b := make([]byte, 0, 2*len(s))
	for i := range len(s) {
		b = append(b, s[i]>>4, s[i]&0xf)
	}
	return string(b)
}

func oneDigit(d int) string { return string([]byte{byte(d)}) }

// packed is the other way round of digitsOf; the number of digits is even.
func packed(digits string) string {
	b := make([]byte, 0, len(digits)/2)
	for i := 0; i < len(digits); i += 2 {
		b = append(b, digits[i]<<4|digits[i+1])
	}
	return string(b)
}

func pathOf(digits string, marked bool) string {
	first := 0
	if marked {
		first = markedPath
	}
	if len(digits)%2 == 1 {
		return packed(oneDigit(first+oddPath) + digits)
	}
	return packed(oneDigit(first) + oneDigit(0) + digits)
}

// readPath tells the digits of a path; ok is false if s is none.
func readPath(s string) (digits string, marked, ok bool) {
	all := digitsOf(s)
	if all == "" || all[0] > oddPath+markedPath {
		return "", false, false
	}
	marked = all[0]&markedPath != 0
	if all[0]&oddPath != 0 {
		return all[1:], marked, true
	}
	return all[2:], marked, all[1] == 0
}
