package witness_test

import (
	"math"
	"slices"
	"testing"

	"witness/api"
	"witness/witness"
)

// A table of which every kind of node has an own element, and one that has
// the first one's nodes below its own.
var (
	alphaA    = leafOf("", "the value of a")
	alphaB    = leafOf("", "the value of b")
	alphaFork = branchOf("", at{'1': refTo(alphaA), '2': refTo(alphaB), '3': leafOf("", "x")})
	alpha     = extensionOf("6", refTo(alphaFork))
	betaQ     = leafOf("1", "the value of q")
	beta      = branchOf("e", at{'6': refTo(alphaFork), '7': refTo(betaQ)})
)

func alphaPairs() []api.Pair {
	return pairsOf("a", "the value of a", "b", "the value of b", "c", "x")
}

func betaPairs() []api.Pair {
	return append(alphaPairs(), pairsOf("q", "the value of q", "", "e")...)
}

func TestTheTablesOfTheTests(t *testing.T) {
	wantRoot(t, "alpha", alphaPairs(), bySum(alpha).Bytes)
	wantRoot(t, "beta", betaPairs(), bySum(beta).Bytes)
}

func TestAKeeperOfOneTable(t *testing.T) {
	k := trusting(t, alpha)
	for _, key := range []string{"", "a", "q"} {
		noGet(t, "nothing offered", k, 1, key, api.ErrUnknown)
	}
	wantOffer(t, "the extension", k, 1, "q", api.OK, alpha)
	wantKept(t, "the extension", k, 1)
	wantGet(t, "ends at the extension", k, 1, "q", "")
	wantGet(t, "ends at the extension", k, 1, "", "")
	noGet(t, "leaves the extension", k, 1, "c", api.ErrUnknown)

	wantOffer(t, "the branch", k, 1, "d", api.OK, alpha, alphaFork)
	wantKept(t, "the branch", k, 2)
	wantGet(t, "the empty bytes in the branch", k, 1, "d", "")
	wantGet(t, "another place in the branch", k, 1, "e", "")
	wantGet(t, "a leaf in the branch", k, 1, "c", "x")
	wantGet(t, "a leaf in the branch, digits are left", k, 1, "cc", "")
	noGet(t, "leaves the branch", k, 1, "a", api.ErrUnknown)
	noGet(t, "leaves the branch", k, 1, "b", api.ErrUnknown)

	wantOffer(t, "the leaf of a", k, 1, "a", api.OK, alpha, alphaFork, alphaA)
	wantKept(t, "the leaf of a", k, 3)
	wantGet(t, "the leaf of a", k, 1, "a", "the value of a")
	wantGet(t, "the leaf of a, digits are left", k, 1, "ab", "")
	noGet(t, "still leaves the branch", k, 1, "b", api.ErrUnknown)
	noGet(t, "still leaves the branch", k, 1, "bb", api.ErrUnknown)

	wantOffer(t, "the leaf of b", k, 1, "bbbbbb", api.OK, alpha, alphaFork, alphaB)
	wantKept(t, "all", k, 4)
	for key, value := range ownTable(alphaPairs()) {
		wantGet(t, "all", k, 1, unhex(key), value)
	}
	for _, key := range []string{"", "a", "b", "c", "d"} {
		proof, _ := witness.Prove(alphaPairs(), key)
		wantErr(t, "all again", k.Offer(1, key, proof), api.OK)
	}
	wantKept(t, "all again", k, 4)
}

func TestAKeeperOfTheEmptyTable(t *testing.T) {
	k := trusting(t, bytes(""))
	noGet(t, "not offered", k, 1, "", api.ErrUnknown)
	wantOffer(t, "the empty bytes", k, 1, "abcdef", api.OK, bytes(""))
	wantKept(t, "the empty bytes", k, 1)
	wantGet(t, "the empty table", k, 1, "", "")
	wantGet(t, "the empty table", k, 1, "fedcba", "")
	wantDrop(t, "the empty table", k, 1, api.OK)
	wantKept(t, "dropped", k, 0)
}

func TestAKeeperOfAShortRoot(t *testing.T) {
	k := trusting(t, small)
	wantOffer(t, "a root of 3 bytes", k, 1, "", api.OK, small)
	wantKept(t, "a root of 3 bytes", k, 1)
	wantGet(t, "a root of 3 bytes", k, 1, "", "x")
	wantGet(t, "a root of 3 bytes", k, 1, "a", "")
}

func TestAKeeperOfTwoTables(t *testing.T) {
	k := trusting(t, alpha, beta)
	wantOffer(t, "alpha", k, 1, "a", api.OK, alpha, alphaFork, alphaA)
	noGet(t, "beta's root is not kept", k, 2, "a", api.ErrUnknown)
	wantOffer(t, "beta", k, 2, "", api.OK, beta)
	wantKept(t, "one more", k, 4)
	wantGet(t, "beta, by what alpha gave", k, 2, "a", "the value of a")
	wantGet(t, "beta, by what alpha gave", k, 2, "c", "x")
	wantGet(t, "beta's own", k, 2, "", "e")
	noGet(t, "given by none", k, 2, "b", api.ErrUnknown)
	noGet(t, "given by none", k, 2, "q", api.ErrUnknown)
	wantGet(t, "alpha has none", k, 1, "q", "")
	wantOffer(t, "beta", k, 2, "b", api.OK, beta, alphaFork, alphaB)
	wantKept(t, "one more", k, 5)
	wantGet(t, "alpha, by what beta gave", k, 1, "b", "the value of b")
	wantOffer(t, "beta", k, 2, "q", api.OK, beta, betaQ)
	wantKept(t, "all", k, 6)
	wantOffer(t, "beta's proof at alpha's height", k, 1, "q", api.ErrProof, beta, betaQ)
	wantTrust(t, "a node within", k, 3, bySum(alphaFork).Bytes, api.OK)
	wantGet(t, "a node within as a root", k, 3, "\x10", "")
	wantGet(t, "a node within as a root", k, 3, "", "")
}

// twoTables keeps all of alpha at 1 and of beta at 2: six nodes.
func twoTables(t *testing.T) *witness.Keeper {
	t.Helper()
	k := trusting(t, alpha, beta)
	wantOffer(t, "alpha", k, 1, "a", api.OK, alpha, alphaFork, alphaA)
	wantOffer(t, "alpha", k, 1, "b", api.OK, alpha, alphaFork, alphaB)
	wantOffer(t, "beta", k, 2, "q", api.OK, beta, betaQ)
	wantKept(t, "all", k, 6)
	return k
}

func TestDropOfOneOfTwoRoots(t *testing.T) {
	k := twoTables(t)
	wantDrop(t, "alpha", k, 1, api.OK)
	wantHeads(t, "alpha dropped", k, head(2, bySum(beta).Bytes))
	wantKept(t, "but for the extension", k, 5)
	noGet(t, "alpha", k, 1, "a", api.ErrHead)
	for key, value := range ownTable(betaPairs()) {
		wantGet(t, "beta", k, 2, unhex(key), value)
	}
	wantDrop(t, "alpha again", k, 1, api.ErrHead)
	wantTrust(t, "alpha again", k, 1, bySum(alpha).Bytes, api.OK)
	noGet(t, "alpha's extension is forgotten", k, 1, "", api.ErrUnknown)

	k = twoTables(t)
	wantDrop(t, "beta", k, 2, api.OK)
	wantKept(t, "but for beta's own two", k, 4)
	for key, value := range ownTable(alphaPairs()) {
		wantGet(t, "alpha", k, 1, unhex(key), value)
	}
	wantTrust(t, "beta again", k, 7, bySum(beta).Bytes, api.OK)
	noGet(t, "beta is forgotten", k, 7, "", api.ErrUnknown)
	wantOffer(t, "beta again", k, 7, "", api.OK, beta)
	wantGet(t, "what alpha kept", k, 7, "b", "the value of b")
	noGet(t, "beta's leaf is forgotten", k, 7, "q", api.ErrUnknown)
}

func TestDropOfTheLast(t *testing.T) {
	k := twoTables(t)
	wantDrop(t, "one", k, 2, api.OK)
	wantDrop(t, "the last", k, 1, api.OK)
	wantKept(t, "the last", k, 0)
	wantHeads(t, "the last", k)
	wantDrop(t, "none left", k, 1, api.ErrHead)
	wantTrust(t, "again", k, 1, bySum(alpha).Bytes, api.OK)
	noGet(t, "all is forgotten", k, 1, "", api.ErrUnknown)
	wantOffer(t, "again", k, 1, "", api.OK, alpha)
	wantGet(t, "again", k, 1, "", "")
}

func TestDropOfOneOfTwoHeights(t *testing.T) {
	for _, height := range []int{1, 5} {
		k := twoTables(t)
		wantTrust(t, "alpha higher", k, 5, bySum(alpha).Bytes, api.OK)
		wantGet(t, "alpha at both", k, 5, "a", "the value of a")
		wantDrop(t, "one of both", k, height, api.OK)
		wantKept(t, "one of both", k, 6)
		noGet(t, "one of both", k, height, "a", api.ErrHead)
		wantGet(t, "the other", k, 6-height, "a", "the value of a")
		wantDrop(t, "the other", k, 6-height, api.OK)
		wantKept(t, "both", k, 5)
	}
}

func TestDropOfARootWithinAnother(t *testing.T) {
	k := twoTables(t)
	wantTrust(t, "the branch", k, 3, bySum(alphaFork).Bytes, api.OK)
	wantDrop(t, "the branch", k, 3, api.OK)
	wantKept(t, "it is reached from the others", k, 6)
	wantTrust(t, "the branch", k, 3, bySum(alphaFork).Bytes, api.OK)
	wantDrop(t, "alpha", k, 1, api.OK)
	wantDrop(t, "beta", k, 2, api.OK)
	wantKept(t, "the branch and its leaves", k, 3)
	wantGet(t, "the branch", k, 3, "q", "")
	wantGet(t, "a leaf of no digit below it", k, 3, "\x11", "")
	wantDrop(t, "a root that was never offered", trusting(t, alpha), 1, api.OK)
}

// A value is no reference, though it has the eight bytes of a sum.
func TestDropGoesByReferencesAlone(t *testing.T) {
	for name, x := range map[string]api.Item{
		"a branch's value": branchOf(bySum(great).Bytes, at{'1': small}),
		"a leaf's value":   leafOf("12", bySum(great).Bytes),
		"a path":           leafOf(ownDigits(bySum(great).Bytes), "x"),
	} {
		k := trusting(t, x, great)
		wantOffer(t, name, k, 1, "", api.OK, x)
		wantOffer(t, name, k, 2, "", api.OK, great)
		wantKept(t, name, k, 2)
		wantDrop(t, name, k, 2, api.OK)
		wantKept(t, name, k, 1)
		wantTrust(t, name, k, 2, bySum(great).Bytes, api.OK)
		noGet(t, name, k, 2, "", api.ErrUnknown)
	}
	for _, d := range []byte("0123456789abcdef") {
		other := byte('0')
		if d == '0' {
			other = '1'
		}
		x := branchOf("", at{d: refTo(great), other: small})
		k := trusting(t, x, great)
		wantOffer(t, "at each digit", k, 1, "", api.OK, x)
		wantOffer(t, "at each digit", k, 2, "", api.OK, great)
		wantDrop(t, "at each digit", k, 2, api.OK)
		wantKept(t, "at each digit", k, 2)
	}
}

// What is kept below a node that is not kept is not reached.
func TestDropGoesByWhatIsKept(t *testing.T) {
	k := trusting(t, alpha, alphaFork, alphaA)
	wantOffer(t, "the extension alone", k, 1, "", api.OK, alpha)
	wantOffer(t, "the leaf alone", k, 3, "", api.OK, alphaA)
	noGet(t, "the branch is missing", k, 1, "a", api.ErrUnknown)
	wantDrop(t, "the leaf", k, 3, api.OK)
	wantKept(t, "the extension alone", k, 1)
}

func TestGetWhereNoProofCouldGo(t *testing.T) {
	inner := extensionOf("3", refTo(fork))
	for _, c := range []struct {
		name  string
		top   api.Item
		below api.Item
	}{
		{"an extension to a leaf", extensionOf("4", bySum(great)), great},
		{"an extension to an extension", extensionOf("4", bySum(inner)), inner},
		{"an extension to a short leaf", extensionOf("4", bySum(small)), small},
		{"an extension to the empty bytes", extensionOf("4", bySum(bytes(""))), bytes("")},
		{"a branch to a short leaf", branchOf("v", at{'4': bySum(small)}), small},
		{"a branch to a leaf of 7 bytes", branchOf("v", at{'4': bySum(leafOf("", "abcd"))}), leafOf("", "abcd")},
		{"a branch to the empty bytes", branchOf("v", at{'4': bySum(bytes(""))}), bytes("")},
	} {
		k := trusting(t, c.top, c.below)
		value := c.top.Items[len(c.top.Items)-1].Bytes
		if len(c.top.Items) == 2 {
			value = ""
		}
		wantOffer(t, c.name, k, 1, "", api.OK, c.top)
		noGet(t, c.name+", not kept", k, 1, "\x40", api.ErrUnknown)
		wantOffer(t, c.name, k, 2, "\x40", api.OK, c.below)
		wantKept(t, c.name, k, 2)
		noGet(t, c.name, k, 1, "\x40", api.ErrUnknown)
		noGet(t, c.name, k, 1, "\x4f\x00", api.ErrUnknown)
		wantGet(t, c.name+", beside it", k, 1, "\x50", "")
		wantGet(t, c.name+", above it", k, 1, "", value)
		wantGet(t, c.name+", as a root", k, 2, "\x50", "")
		wantOffer(t, c.name+", as a proof", k, 1, "\x40", api.ErrProof, c.top, c.below)
		wantDrop(t, c.name, k, 2, api.OK)
		wantKept(t, c.name+", reached by its sum all the same", k, 2)
	}
	above := branchOf("v", at{'4': refTo(inner)})
	k := trusting(t, above, inner, fork)
	wantOffer(t, "a branch to an extension", k, 1, "", api.OK, above)
	wantOffer(t, "an extension to a branch", k, 2, "", api.OK, inner)
	wantOffer(t, "a branch to a leaf", k, 3, "", api.OK, fork)
	wantGet(t, "each from another root", k, 1, "\x43", "f")
	wantGet(t, "each from another root", k, 1, "\x43\x50", "")
	noGet(t, "the leaf is missing", k, 1, "\x43\x40", api.ErrUnknown)
}

func TestTheLongestWayOfAKeeper(t *testing.T) {
	root, _ := witness.Root(staircase())
	k := witness.Open()
	wantTrust(t, "staircase", k, api.MaxHeight, root, api.OK)
	proof, _ := witness.Prove(staircase(), "abcdef")
	wantErr(t, "staircase", k.Offer(api.MaxHeight, "abcdef", proof), api.OK)
	wantKept(t, "staircase", k, 13)
	wantGet(t, "staircase", k, api.MaxHeight, "abcdef", letters(40))
	wantGet(t, "the empty bytes at the bottom", k, api.MaxHeight, "abcdeg", "")
	noGet(t, "a leaf beside", k, api.MaxHeight, "abcden", api.ErrUnknown)
}

func TestOfferTellsTheErrorNamedFirst(t *testing.T) {
	right := proofOf(fork, great)
	for _, c := range []struct {
		name   string
		height int
		key    string
		proof  []string
		want   api.Errno
	}{
		{"no head, a long key", 2, letters(7), make([]string, 21), api.ErrHead},
		{"no head, too many", 0, "", make([]string, 21), api.ErrHead},
		{"no head, a right proof", 2, "\x40", right, api.ErrHead},
		{"a long key, too many", 1, letters(7), make([]string, 21), api.ErrKey},
		{"a long key, none", 1, letters(1000000), nil, api.ErrKey},
		{"MaxProof and 1", 1, "\x40", make([]string, 21), api.ErrBig},
		{"a million", 1, "\x40", make([]string, 1000000), api.ErrBig},
		{"a big element", 1, "\x40", append(slices.Clone(right), letters(1001)), api.ErrBig},
		{"MaxProof", 1, "\x40", make([]string, 20), api.ErrProof},
		{"none", 1, "\x40", nil, api.ErrProof},
		{"one missing", 1, "\x40", right[:1], api.ErrProof},
		{"the first missing", 1, "\x40", right[1:], api.ErrProof},
		{"one left over", 1, "", right, api.ErrProof},
		{"one twice", 1, "\x40", append(slices.Clone(right), right[1]), api.ErrProof},
		{"another root's", 1, "a", proofOf(leafOf("61", "x")), api.ErrProof},
	} {
		for _, height := range append([]int{c.height}, outside...) {
			want := c.want
			if height != c.height {
				want = api.ErrHead
			}
			k := trusting(t, fork)
			unchanged(t, c.name, k, want, func() api.Errno { return k.Offer(height, c.key, c.proof) })
			wantErr(t, c.name, k.Offer(1, "\x40", right), api.OK)
			unchanged(t, c.name+", all kept", k, want, func() api.Errno { return k.Offer(height, c.key, c.proof) })
			wantKept(t, c.name, k, 2)
		}
	}
}

func TestGetAndDropTellTheErrorNamedFirst(t *testing.T) {
	k := trusting(t, fork, alpha)
	wantOffer(t, "fork", k, 1, "", api.OK, fork)
	for n := range 20 {
		want := api.ErrKey
		if n <= 6 {
			want = api.ErrUnknown
		}
		noGet(t, "the key's length, nothing kept", k, 2, letters(n), want)
		noGet(t, "the key's length, no head", k, 3, letters(n), api.ErrHead)
	}
	noGet(t, "a long key", k, 1, letters(7), api.ErrKey)
	noGet(t, "a million bytes", k, 1, letters(1000000), api.ErrKey)
	for _, height := range append([]int{0, 3, api.MaxHeight}, outside...) {
		noGet(t, "no head", k, height, letters(7), api.ErrHead)
		noGet(t, "no head", k, height, "", api.ErrHead)
		unchanged(t, "no head", k, api.ErrHead, func() api.Errno { return k.Drop(height) })
	}
	noGet(t, "far below", k, math.MinInt, "", api.ErrHead)
}

func TestOfferKeepsNothingHandedIn(t *testing.T) {
	for _, c := range []struct {
		key, value string
		way        []api.Item
	}{
		{"a", "the value of a", []api.Item{alpha, alphaFork, alphaA}},
		{"c", "x", []api.Item{alpha, alphaFork}},
		{"", "f", []api.Item{fork}},
		{"\x40", "", []api.Item{fork, great}},
	} {
		k := witness.Open()
		proof, change := bentAll(proofOf(c.way...))
		root, b := bendable(ownSum(proof[0]))
		wantTrust(t, "bent", k, 1, root, api.OK)
		wantErr(t, "bent", k.Offer(1, c.key, proof), api.OK)
		change()
		b[0]++
		for i := range proof[:cap(proof)] {
			proof[:cap(proof)][i] = "scribble"
		}
		wantGet(t, "bent", k, 1, c.key, c.value)
		wantTrust(t, "bent, below the root", k, 2, bySum(c.way[len(c.way)-1]).Bytes, api.OK)
		wantDrop(t, "bent", k, 1, api.OK)
		wantKept(t, "bent", k, 1)
	}
}

func TestKeeperCallsWriteIntoNothing(t *testing.T) {
	right := proofOf(alpha, alphaFork, alphaA)
	k := trusting(t, alpha)
	for _, key := range []string{"abcdefg", "q", "", "a", "c"} {
		for n := range len(right) + 1 {
			proof := slices.Clone(right)
			k.Offer(1, key, proof[:n])
			k.Get(1, key)
			if !slices.Equal(proof, right) {
				t.Errorf("Offer wrote into the proof, or behind it: %.100q", proof)
			}
		}
	}
}
