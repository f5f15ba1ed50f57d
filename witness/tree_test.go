package witness_test

import (
	"slices"
	"strings"
	"testing"

	"witness/api"
	"witness/witness"
)

// pairsOf takes a key and its value, one behind the other.
func pairsOf(l ...string) []api.Pair {
	var pairs []api.Pair
	for i := 0; i < len(l); i += 2 {
		pairs = append(pairs, api.Pair{Key: l[i], Value: l[i+1]})
	}
	return pairs
}

func wantRoot(t *testing.T, name string, pairs []api.Pair, want string) {
	t.Helper()
	if root, e := witness.Root(pairs); root != want || e != api.OK {
		t.Errorf("%s: Root(%.200q) = %x, %d, want %x, OK", name, pairs, root, e, want)
	}
}

func wantProof(t *testing.T, name string, pairs []api.Pair, key string, want ...string) {
	t.Helper()
	if proof, e := witness.Prove(pairs, key); !slices.Equal(proof, want) || e != api.OK {
		t.Errorf("%s: Prove(%.200q, %q) = %x, %d, want %x, OK", name, pairs, key, proof, e, want)
	}
}

func wantVerify(t *testing.T, name, root, key string, proof []string, want string, wantFound bool, wantErr api.Errno) {
	t.Helper()
	if value, found, e := witness.Verify(root, key, proof); value != want || found != wantFound || e != wantErr {
		t.Errorf("%s: Verify(%x, %q, %x) = %q, %v, %d, want %q, %v, %d", name, root, key, proof, value, found, e, want, wantFound, wantErr)
	}
}

// wantAll asks Root, Prove and Verify of one key; the value is empty if the
// table has none.
func wantAll(t *testing.T, name string, pairs []api.Pair, key, value string, proof ...string) {
	t.Helper()
	wantRoot(t, name, pairs, ownSum(proof[0]))
	wantProof(t, name, pairs, key, proof...)
	wantVerify(t, name, ownSum(proof[0]), key, proof, value, value != "", api.OK)
}

func TestTheSumIsTheDocuments(t *testing.T) {
	if s := ownSum(""); s != "\xcb\xf2\x9c\xe4\x84\x22\x23\x25" {
		t.Fatalf("the sum of no bytes is %x", s)
	}
	// Reckoned by hand: (14695981039346656037 xor 128) times 1099511628211.
	wantRoot(t, "no pairs", nil, "\xaf\x64\x3d\x4c\x86\x02\x91\x5f")
}

// zeros is a row of empty references.
func zeros(n int) string { return strings.Repeat("\x80", n) }

func TestTreesWrittenOut(t *testing.T) {
	wantAll(t, "no pairs", nil, "", "", "\x80")
	wantAll(t, "no pairs, a key", []api.Pair{}, "abcdef", "", "\x80")
	wantAll(t, "one pair", pairsOf("a", "x"), "a", "x", "\xc4\x82\x20ax")
	wantAll(t, "one pair of the empty key", pairsOf("", "x"), "", "x", "\xc2\x20x")
	wantAll(t, "one pair of a long key", pairsOf("abcdef", "\x80"), "abcdef", "\x80", "\xca\x87\x20abcdef\x81\x80")

	ab := "\xd5\x80\xc2\x20x\xc2\x20y" + zeros(14)
	top := "\xca\x16\x88" + ownSum(ab)
	wantAll(t, "an odd extension", pairsOf("a", "x", "b", "y"), "a", "x", top, ab)
	wantAll(t, "an odd extension, the pairs turned", pairsOf("b", "y", "a", "x"), "b", "y", top, ab)

	under := "\xd3" + zeros(6) + "\xc2\x31y" + zeros(9) + "x"
	top = "\xcc\x82\x00a\x88" + ownSum(under)
	wantAll(t, "an even extension, a value in the branch", pairsOf("aa", "y", "a", "x"), "a", "x", top, under)
	wantAll(t, "an even extension, a leaf in the branch", pairsOf("aa", "y", "a", "x"), "aa", "y", top, under)

	wide := "\xd9" + zeros(1) + "\xc4\x82\x30\x00a" + zeros(13) + "\xc4\x82\x30\xffb" + "e"
	pairs := pairsOf("\x10\x00", "a", "\xf0\xff", "b", "", "e")
	wantAll(t, "the empty key beside others", pairs, "", "e", wide)
	wantAll(t, "the digits' ends, 1", pairs, "\x10\x00", "a", wide)
	wantAll(t, "the digits' ends, f", pairs, "\xf0\xff", "b", wide)
}

func TestNodesOfSevenEightAndNineBytes(t *testing.T) {
	// A leaf without digits has three bytes more than its value.
	for n := 3; n <= 7; n++ {
		value := letters(n)
		leaf := ownBytes(leafOf("", value))
		if len(leaf) != n+3 {
			t.Fatalf("the leaf has %d bytes", len(leaf))
		}
		pairs := pairsOf("a", value, "b", "y")
		stands := leaf
		if n+3 >= 8 {
			stands = "\x88" + ownSum(leaf)
		}
		branch := ownHead(0xc0, "\x80"+stands+"\xc2\x20y"+zeros(14))
		top := "\xca\x16\x88" + ownSum(branch)
		if n+3 >= 8 {
			wantAll(t, "a leaf by its sum", pairs, "a", value, top, branch, leaf)
			wantAll(t, "a leaf by its sum, a longer key", pairs, "a\x00", "", top, branch, leaf)
		} else {
			wantAll(t, "a leaf itself", pairs, "a", value, top, branch)
			wantAll(t, "a leaf itself, a longer key", pairs, "a\x00", "", top, branch)
		}
		wantAll(t, "the leaf beside", pairs, "b", "y", top, branch)
	}
	// The same with the bytes in the path.
	for n, rest := range map[int]string{7: "123", 8: "1234", 9: "12345"} {
		leaf := ownBytes(leafOf("1"+ownDigits(rest), "x"))
		if len(leaf) != n {
			t.Fatalf("the leaf has %d bytes", len(leaf))
		}
		pairs := pairsOf("", "e", "a"+rest, "x")
		if n >= 8 {
			branch := ownHead(0xc0, zeros(6)+"\x88"+ownSum(leaf)+zeros(9)+"e")
			wantAll(t, "a long path by its sum", pairs, "a"+rest, "x", branch, leaf)
		} else {
			branch := ownHead(0xc0, zeros(6)+leaf+zeros(9)+"e")
			wantAll(t, "a long path itself", pairs, "a"+rest, "x", branch)
		}
	}
	// The node of all pairs is the first element, however short.
	for n := 1; n <= api.MaxValue; n++ {
		value := letters(n)
		wantAll(t, "a short root", pairsOf("", value), "", value, ownBytes(leafOf("", value)))
	}
}

func TestValuesOfEveryLength(t *testing.T) {
	for n := 1; n <= api.MaxValue; n++ {
		for _, letter := range []string{"\x00", "v", "\x7f", "\x80", "\xff"} {
			value := strings.Repeat(letter, n)
			wantOwn(t, "alone", pairsOf("key", value), "key")
			wantOwn(t, "in a branch", pairsOf("key", value, "", "x"), "key")
			wantOwn(t, "of a branch", pairsOf("key", "x", "", value), "")
			wantOwn(t, "of both", pairsOf("ke", value, "key", value), "key")
		}
	}
}

// wantOwn holds the answers against those that the tests' own tree gives.
func wantOwn(t *testing.T, name string, pairs []api.Pair, key string) {
	t.Helper()
	table := ownTable(pairs)
	wantAll(t, name, pairs, key, table[ownDigits(key)], ownProof(table, key)...)
}

func TestKeysThatAreBeginningsOfOneAnother(t *testing.T) {
	keys := []string{"", "k", "ke", "key", "keyk", "keyke", "keykey"}
	for some := range 1 << len(keys) {
		var pairs []api.Pair
		for i, key := range keys {
			if some>>i&1 == 1 {
				pairs = append(pairs, api.Pair{Key: key, Value: letters(i*i + 1)})
			}
		}
		turned := slices.Clone(pairs)
		slices.Reverse(turned)
		for _, key := range append(keys, "a", "l", "kf", "kez", "\x00", "kkkkkk") {
			wantOwn(t, "beginnings", pairs, key)
			wantOwn(t, "beginnings, turned", turned, key)
		}
	}
}

func TestTheLastPairOfAKey(t *testing.T) {
	only := "\xc4\x82\x20ax"
	for _, c := range []struct {
		name  string
		pairs []api.Pair
		value string
		first string
	}{
		{"put out", pairsOf("a", "x", "a", ""), "", "\x80"},
		{"put out without having been there", pairsOf("a", ""), "", "\x80"},
		{"put out twice", pairsOf("a", "x", "a", "", "a", ""), "", "\x80"},
		{"put out and in again", pairsOf("a", "z", "a", "", "a", "x"), "x", only},
		{"put in behind", pairsOf("a", "", "a", "x"), "x", only},
		{"changed", pairsOf("a", "z", "a", "x"), "x", only},
		{"changed, others between", pairsOf("a", "z", "b", "y", "a", "x", "b", ""), "x", only},
		{"the same again", pairsOf("a", "x", "a", "x"), "x", only},
		{"the empty key put out", pairsOf("", "x", "a", "x", "", ""), "x", only},
		{"a key's beginning put out", pairsOf("a", "x", "ab", "y", "ab", "", "", ""), "x", only},
	} {
		wantAll(t, c.name, c.pairs, "a", c.value, c.first)
	}
	wantAll(t, "another key put out", pairsOf("ab", "y", "a", "x", "ab", ""), "ab", "", only)
}

func TestProofsEndAtEachPlace(t *testing.T) {
	long := letters(api.MaxValue)
	leafC := leafOf("", long)
	leafRest := leafOf("273747576", long)
	branchCD := branchOf("", at{'3': refTo(leafC), '4': leafOf("", "y")})
	branchAB := branchOf(long, at{'6': refTo(branchCD)})
	branchQ := branchOf("z", at{'7': refTo(leafRest)})
	overAB := extensionOf("162", refTo(branchAB))
	overQ := extensionOf("1", refTo(branchQ))
	top := branchOf("", at{'6': refTo(overAB), '7': refTo(overQ)})
	pairs := pairsOf("abc", long, "abd", "y", "ab", long, "q", "z", "qrstuv", long)
	for _, c := range []struct {
		name, key, value string
		way              []api.Item
	}{
		{"a leaf of the key", "abc", long, []api.Item{top, overAB, branchAB, branchCD, leafC}},
		{"a leaf, digits are left", "abcd", "", []api.Item{top, overAB, branchAB, branchCD, leafC}},
		{"a leaf with a path", "qrstuv", long, []api.Item{top, overQ, branchQ, leafRest}},
		{"a leaf, digits are missing", "qrs", "", []api.Item{top, overQ, branchQ, leafRest}},
		{"a leaf, another digit", "qrstuw", "", []api.Item{top, overQ, branchQ, leafRest}},
		{"a leaf that stands itself", "abd", "y", []api.Item{top, overAB, branchAB, branchCD}},
		{"a leaf that stands itself, digits are left", "abde", "", []api.Item{top, overAB, branchAB, branchCD}},
		{"an extension, another digit at its end", "ac", "", []api.Item{top, overAB}},
		{"an extension, another digit at its beginning", "p", "", []api.Item{top, overQ}},
		{"an extension, digits are missing", "a", "", []api.Item{top, overAB}},
		{"a branch with a value", "ab", long, []api.Item{top, overAB, branchAB}},
		{"a branch with a short value", "q", "z", []api.Item{top, overQ, branchQ}},
		{"a branch without a value", "", "", []api.Item{top}},
		{"the empty bytes in the first branch", "\x00", "", []api.Item{top}},
		{"the empty bytes in the last branch", "abe", "", []api.Item{top, overAB, branchAB, branchCD}},
		{"the empty bytes beside a value", "q\x80", "", []api.Item{top, overQ, branchQ}},
	} {
		var proof []string
		for _, x := range c.way {
			proof = append(proof, ownBytes(x))
		}
		wantAll(t, c.name, pairs, c.key, c.value, proof...)
	}
}

// staircase has a key that shares one digit more with each other key: no
// proof is longer than one for it.
func staircase() []api.Pair {
	key := []byte("abcdef")
	pairs := pairsOf("abcdef", letters(40))
	for i := range key {
		for _, bend := range []byte{0x80, 0x08} {
			other := slices.Clone(key)
			other[i] ^= bend
			pairs = append(pairs, api.Pair{Key: string(other), Value: letters(30)})
		}
	}
	return pairs
}

func TestTheLongestProof(t *testing.T) {
	wantOwn(t, "a branch at every digit", staircase(), "abcdef")
	if proof, _ := witness.Prove(staircase(), "abcdef"); len(proof) != 13 {
		t.Errorf("the proof has %d elements", len(proof))
	}
}

// key makes a key of few letters, so that many share their beginnings.
func (m *maker) key() string {
	b := make([]byte, m.below(api.MaxKey+1))
	for i := range b {
		b[i] = "\x00\x01\x10\x11aq\xff"[m.below(7)]
	}
	return string(b)
}

func (m *maker) value() string {
	n := []int{0, 1, 1, 2, 3, 4, 5, 6, 39, 40}[m.below(10)]
	return strings.Repeat(string([]byte{byte(m.below(256))}), n)
}

func (m *maker) pairs(n int) []api.Pair {
	var pairs []api.Pair
	for range n {
		pairs = append(pairs, api.Pair{Key: m.key(), Value: m.value()})
	}
	return pairs
}

func TestManyTables(t *testing.T) {
	m := maker(3)
	for range 60 {
		pairs := m.pairs(m.below(api.MaxPairs + 1))
		for _, p := range pairs {
			wantOwn(t, "a key of the pairs", pairs, p.Key)
		}
		for range 20 {
			wantOwn(t, "any key", pairs, m.key())
		}
	}
}

func TestTheOrderOfPairsIsNothing(t *testing.T) {
	m := maker(4)
	pairs := staircase()
	root, _ := witness.Root(pairs)
	for range 100 {
		i, j := m.below(len(pairs)), m.below(len(pairs))
		pairs[i], pairs[j] = pairs[j], pairs[i]
		wantRoot(t, "shuffled", pairs, root)
	}
}

func TestTablesThatAreRefused(t *testing.T) {
	many := make([]api.Pair, api.MaxPairs+1)
	long, big := letters(api.MaxKey+1), letters(api.MaxValue+1)
	with := func(n int, l ...string) []api.Pair { return append(slices.Clone(many[:n]), pairsOf(l...)...) }
	for _, c := range []struct {
		name  string
		pairs []api.Pair
		want  api.Errno
	}{
		{"MaxPairs and 1", many, api.ErrBig},
		{"MaxPairs and 1, all of one key", slices.Repeat(pairsOf("a", "x"), 61), api.ErrBig},
		{"a million pairs", make([]api.Pair, 1000000), api.ErrBig},
		{"too many, a long key, a big value", with(60, long, big), api.ErrBig},
		{"too many, a big value", with(60, "a", big), api.ErrBig},
		{"MaxPairs, a long key the last", with(59, long, "x"), api.ErrKey},
		{"a long key without a value", pairsOf(long, ""), api.ErrKey},
		{"a long key put out", pairsOf(long, "x", long, ""), api.ErrKey},
		{"a key of a million bytes", pairsOf(letters(1000000), "x"), api.ErrKey},
		{"a long key with a big value", pairsOf(long, big), api.ErrKey},
		{"a big value ahead of a long key", pairsOf("a", big, "b", "x", long, "y"), api.ErrKey},
		{"a big value behind a long key", pairsOf(long, "y", "b", "x", "a", big), api.ErrKey},
		{"MaxPairs, a big value the last", with(59, "a", big), api.ErrValue},
		{"a big value the first", pairsOf("a", big, "b", "x"), api.ErrValue},
		{"a big value changed", pairsOf("a", big, "a", "x"), api.ErrValue},
		{"a big value put out", pairsOf("a", big, "a", ""), api.ErrValue},
		{"a value of a million bytes", pairsOf("a", letters(1000000)), api.ErrValue},
	} {
		noTable(t, c.name, c.pairs, "a", c.want)
	}
	noProof(t, "too many, the key too long", many, long, api.ErrBig)
	noProof(t, "the key too long", pairsOf("a", "x"), long, api.ErrKey)
	noProof(t, "the key too long, no pairs", nil, long, api.ErrKey)
	noProof(t, "the key too long, a big value", pairsOf("a", big), long, api.ErrKey)
	noProof(t, "both keys too long", pairsOf(long, "x"), long, api.ErrKey)
	noProof(t, "the key of a million bytes", nil, letters(1000000), api.ErrKey)
	wantOwn(t, "at all limits", with(59, letters(6), letters(40)), letters(6))
	wantOwn(t, "MaxPairs of one key", slices.Repeat(pairsOf("a", "x"), 60), "a")
}

func noTable(t *testing.T, name string, pairs []api.Pair, key string, want api.Errno) {
	t.Helper()
	if root, e := witness.Root(pairs); root != "" || e != want {
		t.Errorf("%s: Root = %x, %d, want nothing, %d", name, root, e, want)
	}
	noProof(t, name, pairs, key, want)
}

func noProof(t *testing.T, name string, pairs []api.Pair, key string, want api.Errno) {
	t.Helper()
	if proof, e := witness.Prove(pairs, key); len(proof) != 0 || e != want {
		t.Errorf("%s: Prove = %x, %d, want nothing, %d", name, proof, e, want)
	}
}
