package witness_test

import (
	"strings"
	"testing"

	"witness/api"
	"witness/witness"
)

func bytes(s string) api.Item { return api.Item{Bytes: s} }

func letters(n int) string { return strings.Repeat("a", n) }

func list(l ...api.Item) api.Item { return api.Item{List: true, Items: l} }

// nest lays x into so many lists, one around the other.
func nest(x api.Item, levels int) api.Item {
	for range levels {
		x = list(x)
	}
	return x
}

func same(x, y api.Item) bool {
	if x.List != y.List || x.Bytes != y.Bytes || len(x.Items) != len(y.Items) {
		return false
	}
	for i := range x.Items {
		if !same(x.Items[i], y.Items[i]) {
			return false
		}
	}
	return true
}

func wantBytes(t *testing.T, name string, x api.Item, want string) {
	t.Helper()
	if s, e := witness.Encode(x); s != want || e != api.OK {
		t.Errorf("%q: Encode = %.60q, %d, want %.60q, OK", name, s, e, want)
	}
}

func wantItem(t *testing.T, name string, s string, want api.Item) {
	t.Helper()
	if x, e := witness.Decode(s); !same(x, want) || e != api.OK {
		t.Errorf("%q: Decode = the item of %.60q, %d, want that of %.60q, OK", name, ownBytes(x), e, s)
	}
}

// noBytes asks for the error and, beside it, for nothing (P1).
func noBytes(t *testing.T, name string, x api.Item, want api.Errno) {
	t.Helper()
	if s, e := witness.Encode(x); s != "" || e != want {
		t.Errorf("%q: Encode = %.60q, %d, want nothing, %d", name, s, e, want)
	}
}

func noItem(t *testing.T, name string, s string, want api.Errno) {
	t.Helper()
	if x, e := witness.Decode(s); !same(x, api.Item{}) || e != want {
		t.Errorf("%q: Decode = the item of %.60q, %d, want nothing, %d", name, ownBytes(x), e, want)
	}
}
