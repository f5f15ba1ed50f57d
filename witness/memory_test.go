package witness_test

import (
	"slices"
	"testing"
	"unsafe"

	"witness/api"
	"witness/witness"
)

// roomy is a list of the items with spare room, full of marks, behind them.
func roomy(l ...api.Item) api.Item {
	room := append(slices.Clone(l), bytes("mark"), strayBytes, strayItems)
	return list(room[:len(l)]...)
}

func marked(x api.Item) bool {
	n := len(x.Items)
	room := x.Items[:n+3]
	return same(room[n], bytes("mark")) && same(room[n+1], strayBytes) && same(room[n+2], strayItems)
}

func TestEncodeWritesIntoNothing(t *testing.T) {
	for _, last := range []api.Item{bytes("z"), strayBytes, bytes(letters(1000)), nest(list(), 9)} {
		inner := roomy(bytes("x"), bytes("y"))
		outer := roomy(inner, bytes(letters(60)), last)
		witness.Encode(outer)
		if !same(outer, list(list(bytes("x"), bytes("y")), bytes(letters(60)), last)) {
			t.Errorf("Encode wrote into the item: %.80q", ownBytes(outer))
		}
		if !marked(inner) || !marked(outer) {
			t.Errorf("Encode wrote behind a list")
		}
	}
}

// bendable is a string whose bytes can be changed by way of the slice: what
// still shares room with it changes too.
func bendable(s string) (string, []byte) {
	b := []byte(s)
	return unsafe.String(&b[0], len(b)), b
}

func TestEncodeAnswersNewMemory(t *testing.T) {
	for _, s := range []string{"a", "ab", letters(56)} {
		x, b := bendable(s)
		got, _ := witness.Encode(bytes(x))
		want := ownBytes(bytes(s))
		b[0] = '?'
		if got != want {
			t.Errorf("Encode(%.20q) shares room with the item: %.20q", s, got)
		}
	}
}

func TestDecodeAnswersNewMemory(t *testing.T) {
	const all = "\xc9a\x82bc\xc2d\x80\x81\xff"
	s, b := bendable(all)
	x, _ := witness.Decode(s)
	for i := range b {
		b[i] = '?'
	}
	if !same(x, list(bytes("a"), bytes("bc"), list(bytes("d"), bytes("")), bytes("\xff"))) {
		t.Errorf("Decode shares room with its string: %q", ownBytes(x))
	}
}

// scribble fills a list's items and its spare room.
func scribble(l []api.Item) {
	for i := range l[:cap(l)] {
		l[:cap(l)][i] = bytes("scribble")
	}
}

func TestDecodedListsShareNoRoom(t *testing.T) {
	want := list(
		list(bytes("a")), list(bytes("b"), bytes("c")), list(),
		list(bytes("d"), bytes("e"), bytes("f")), list(list(bytes("g"))))
	s := ownBytes(want)
	for i := range want.Items {
		x, _ := witness.Decode(s)
		other, _ := witness.Decode(s)
		scribble(x.Items[i].Items)
		for j := range want.Items {
			if j != i && !same(x.Items[j], want.Items[j]) {
				t.Errorf("list %d shares room with list %d: %q", i, j, ownBytes(x))
			}
		}
		scribble(x.Items)
		if !same(other, want) {
			t.Errorf("two answers share room: %q", ownBytes(other))
		}
	}
}
