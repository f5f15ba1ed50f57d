package items

import (
	"strings"

	"witness/api"
)

// Decode tells the item that s is the bytes of.
func Decode(s string) (api.Item, api.Errno) {
	if len(s) > api.MaxBytes {
		return api.Item{}, api.ErrBig
	}
	x, rest, ok := first(s)
	if !ok || rest != "" {
		return api.Item{}, api.ErrForm
	}
	// Only now: a fault of form anywhere, however deep, is told ahead of the
	// depth. What MaxBytes bytes can nest, a stack can hold.
	if depth(x) > api.MaxDepth {
		return api.Item{}, api.ErrBig
	}
	return x, api.OK
}

// first reads the item that s begins with; rest is what stands behind it.
func first(s string) (x api.Item, rest string, ok bool) {
	if s == "" {
		return api.Item{}, "", false
	}
	switch kind := s[0]; {
	case kind < bytesBase:
		return api.Item{Bytes: strings.Clone(s[:1])}, s[1:], true
	case kind < listBase:
		body, rest, ok := cut(s, bytesBase)
		if !ok || standsForItself(body) {
			return api.Item{}, "", false
		}
		return api.Item{Bytes: strings.Clone(body)}, rest, true
	default:
		body, rest, ok := cut(s, listBase)
		if !ok {
			return api.Item{}, "", false
		}
		list, ok := all(body)
		return api.Item{List: true, Items: list}, rest, ok
	}
}

// all reads items one behind the other, until nothing is left.
func all(body string) ([]api.Item, bool) {
	var list []api.Item
	for body != "" {
		x, rest, ok := first(body)
		if !ok {
			return nil, false
		}
		list = append(list, x)
		body = rest
	}
	return list, true
}

// cut takes the head off s, which has one of the kind of base, and parts what
// follows into the body and the rest.
func cut(s string, base byte) (body, rest string, ok bool) {
	short := int(s[0] - base)
	behind := s[1:]
	n := uint64(short)
	if short > shortMost {
		k := short - shortMost
		n, ok = longLength(behind, k)
		if !ok {
			return "", "", false
		}
		behind = behind[k:]
	}
	if n > uint64(len(behind)) {
		return "", "", false
	}
	return behind[:n], behind[n:], true
}

// longLength reads a length of k bytes, 1 to 8. One that could be written
// shorter is refused: each item has only one form.
func longLength(s string, k int) (uint64, bool) {
	if len(s) < k || s[0] == 0 {
		return 0, false
	}
	n := uint64(0)
	for i := range k {
		n = n<<8 | uint64(s[i])
	}
	return n, n > shortMost
}

func depth(x api.Item) int {
	if !x.List {
		return 0
	}
	deepest := 0
	for _, y := range x.Items {
		deepest = max(deepest, depth(y))
	}
	return deepest + 1
}
