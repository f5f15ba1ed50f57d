package tree

const (
	sumSize  = 8
	sumStart = 14695981039346656037
	sumTimes = 1099511628211
)

// sumOf tells the sum of bytes, the highest of its own first.
func sumOf(s string) string {
	h := uint64(sumStart)
	for i := range len(s) {
		h = (h ^ uint64(s[i])) * sumTimes
	}
	var b [sumSize]byte
	for i := range b {
		b[i] = byte(h >> (8 * (sumSize - 1 - i)))
	}
	return string(b[:])
}
