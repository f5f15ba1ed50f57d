package witness_test

import (
	"slices"
	"testing"
	"unsafe"

	"witness/api"
	"witness/witness"
)

// roomy is a list of the items with spare room, full of marks, behind them.
func roomy(l ...api.Item) api.Item {
	room := append(slices.Clone(l), bytes("mark"), strayBytes, strayItems)
	return list(room[:len(l)]...)
}

func marked(x api.Item) bool {
	n := len(x.Items)
	room := x.Items[:n+3]
	return same(room[n], bytes("mark")) && same(room[n+1], strayBytes) && same(room[n+2], strayItems)
}

func TestEncodeWritesIntoNothing(t *testing.T) {
	for _, last := range []api.Item{bytes("z"), strayBytes, bytes(letters(1000)), nest(list(), 9)} {
		inner := roomy(bytes("x"), bytes("y"))
		outer := roomy(inner, bytes(letters(60)), last)
		witness.Encode(outer)
		if !same(outer, list(list(bytes("x"), bytes("y")), bytes(letters(60)), last)) {
			t.Errorf("Encode wrote into the item: %.80q", ownBytes(outer))
		}
		if !marked(inner) || !marked(outer) {
			t.Errorf("Encode wrote behind a list")
		}
	}
}

// bendable is a string whose bytes can be changed by way of the slice: what
// still shares room with it changes too.
func bendable(s string) (string, []byte) {
	b := []byte(s)
	return unsafe.String(&b[0], len(b)), b
}

func TestEncodeAnswersNewMemory(t *testing.T) {
	for _, s := range []string{"a", "ab", letters(56)} {
		x, b := bendable(s)
		got, _ := witness.Encode(bytes(x))
		want := ownBytes(bytes(s))
		b[0] = '?'
		if got != want {
			t.Errorf("Encode(%.20q) shares room with the item: %.20q", s, got)
		}
	}
}

func TestDecodeAnswersNewMemory(t *testing.T) {
	const all = "\xc9a\x82bc\xc2d\x80\x81\xff"
	s, b := bendable(all)
	x, _ := witness.Decode(s)
	for i := range b {
		b[i] = '?'
	}
	if !same(x, list(bytes("a"), bytes("bc"), list(bytes("d"), bytes("")), bytes("\xff"))) {
		t.Errorf("Decode shares room with its string: %q", ownBytes(x))
	}
}

// scribble fills a list's items and its spare room.
func scribble(l []api.Item) {
	for i := range l[:cap(l)] {
		l[:cap(l)][i] = bytes("scribble")
	}
}

func TestDecodedListsShareNoRoom(t *testing.T) {
	want := list(
		list(bytes("a")), list(bytes("b"), bytes("c")), list(),
		list(bytes("d"), bytes("e"), bytes("f")), list(list(bytes("g"))))
	s := ownBytes(want)
	for i := range want.Items {
		x, _ := witness.Decode(s)
		other, _ := witness.Decode(s)
		scribble(x.Items[i].Items)
		for j := range want.Items {
			if j != i && !same(x.Items[j], want.Items[j]) {
				t.Errorf("list %d shares room with list %d: %q", i, j, ownBytes(x))
			}
		}
		scribble(x.Items)
		if !same(other, want) {
			t.Errorf("two answers share room: %q", ownBytes(other))
		}
	}
}

// roomyPairs lays marks behind the pairs.
func roomyPairs(pairs []api.Pair) []api.Pair {
	room := append(slices.Clone(pairs), pairsOf("mark", "1", "abcdefg", "mark")...)
	return room[:len(pairs):len(room)]
}

func TestTreeCallsWriteIntoNothing(t *testing.T) {
	for _, was := range [][]api.Pair{
		nil, staircase(), pairsOf("a", "x", "b", "y", "a", ""), pairsOf("b", letters(41), "a", "x"), pairsOf("abcdefg", "x"), make([]api.Pair, 61),
	} {
		pairs := roomyPairs(was)
		room := slices.Clone(pairs[:cap(pairs)])
		witness.Root(pairs)
		witness.Prove(pairs, "abcdef")
		if !slices.Equal(pairs[:cap(pairs)], room) {
			t.Errorf("Root or Prove wrote into the pairs: %.100q, were %.100q", pairs[:cap(pairs)], room)
		}
	}
	right := ownProof(ownTable(staircase()), "abcdef")
	for _, key := range []string{"abcdef", "abcdeg", "", "abcdefg"} {
		for n := range len(right) + 1 {
			proof := slices.Clone(right)
			witness.Verify(ownSum(right[0]), key, proof[:n])
			if !slices.Equal(proof, right) {
				t.Errorf("Verify wrote into the proof, or behind it: %.100q", proof)
			}
		}
	}
}

// bentAll is bendable for many strings: change bends all of them.
func bentAll(l []string) (bent []string, change func()) {
	var room [][]byte
	for _, s := range l {
		x, b := bendable(s)
		bent, room = append(bent, x), append(room, b)
	}
	return bent, func() {
		for _, b := range room {
			for i := range b {
				b[i] = '?'
			}
		}
	}
}

func TestTreeCallsAnswerNewMemory(t *testing.T) {
	for _, was := range [][]string{{"a", "x"}, {"a", "x", "b", "y"}, {"a", letters(40), "ab", letters(40)}} {
		want := ownProof(ownTable(pairsOf(was...)), "a")
		bent, change := bentAll(was)
		root, _ := witness.Root(pairsOf(bent...))
		proof, _ := witness.Prove(pairsOf(bent...), bent[0])
		change()
		if root != ownSum(want[0]) || !slices.Equal(proof, want) {
			t.Errorf("Root or Prove shares room with the pairs %.100q", was)
		}
	}
	long := leafOf("1", letters(40))
	for _, c := range []struct {
		key, value string
		way        []api.Item
	}{
		{"a", "x", []api.Item{leafOf("61", "x")}},
		{"a", "x", []api.Item{branchOf("v", at{'6': leafOf("1", "x")})}},
		{"a", letters(40), []api.Item{branchOf("v", at{'6': refTo(long)}), long}},
		{"", "\xff", []api.Item{branchOf("\xff", at{'6': eight})}},
		{"", letters(40), []api.Item{branchOf(letters(40), at{'6': eight})}},
	} {
		proof, change := bentAll(proofOf(c.way...))
		got, found, e := witness.Verify(ownSum(proof[0]), c.key, proof)
		change()
		if got != c.value || !found || e != api.OK {
			t.Errorf("Verify shares room with the proof, or is wrong: %.20q, %v, %d, want %q", got, found, e, c.value)
		}
	}
}

func TestTwoProofsShareNoRoom(t *testing.T) {
	want := ownProof(ownTable(staircase()), "abcdef")
	one, _ := witness.Prove(staircase(), "abcdef")
	other, _ := witness.Prove(staircase(), "abcdef")
	for i := range one[:cap(one)] {
		one[:cap(one)][i] = "scribble"
	}
	again, _ := witness.Prove(staircase(), "abcdef")
	if !slices.Equal(other, want) || !slices.Equal(again, want) {
		t.Errorf("two proofs share room: %.100q", other)
	}
}
