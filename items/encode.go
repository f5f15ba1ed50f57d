package items

import "witness/api"

// Encode tells the bytes of an item.
func Encode(x api.Item) (string, api.Errno) {
	if !wellFormed(x) {
		return "", api.ErrForm
	}
	b, ok := bytesOf(x, api.MaxDepth)
	if !ok {
		return "", api.ErrBig
	}
	return string(b), api.OK
}

// wellFormed goes through all of x. It keeps a list of what is still to be
// seen instead of calling itself: x may be deeper than a stack can grow.
func wellFormed(x api.Item) bool {
	ahead := [][]api.Item{{x}}
	for len(ahead) > 0 {
		last := len(ahead) - 1
		here := ahead[last]
		ahead = ahead[:last]
		for _, y := range here {
			if hasStrayField(y) {
				return false
			}
			if len(y.Items) > 0 {
				ahead = append(ahead, y.Items)
			}
		}
	}
	return true
}

func hasStrayField(x api.Item) bool {
	if x.List {
		return x.Bytes != ""
	}
	return len(x.Items) > 0
}

// bytesOf gives up as soon as x is seen to have more than so many levels of
// lists or too many bytes, so that it never goes far into a great item.
func bytesOf(x api.Item, levels int) ([]byte, bool) {
	if !x.List {
		return bytesOfBytes(x.Bytes)
	}
	if levels == 0 {
		return nil, false
	}
	var body []byte
	for _, y := range x.Items {
		b, ok := bytesOf(y, levels-1)
		if !ok || len(body)+len(b) > api.MaxBytes {
			return nil, false
		}
		body = append(body, b...)
	}
	return withHead(listBase, body)
}

func bytesOfBytes(body string) ([]byte, bool) {
	// Told ahead of the copy: the string may be of any length.
	if len(body) > api.MaxBytes {
		return nil, false
	}
	if standsForItself(body) {
		return []byte(body), true
	}
	return withHead(bytesBase, []byte(body))
}

func withHead(base byte, body []byte) ([]byte, bool) {
	all := append(head(base, len(body)), body...)
	return all, len(all) <= api.MaxBytes
}

func head(base byte, n int) []byte {
	if n <= shortMost {
		return []byte{base + byte(n)}
	}
	length := highestFirst(n)
	first := base + shortMost + byte(len(length))
	return append([]byte{first}, length...)
}

// highestFirst writes a number above 0 in as few bytes as it needs.
func highestFirst(n int) []byte {
	var b []byte
	for ; n > 0; n >>= 8 {
		b = append([]byte{byte(n)}, b...)
	}
	return b
}
