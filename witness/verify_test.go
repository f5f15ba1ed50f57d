package witness_test

import (
	"slices"
	"strings"
	"testing"

	"witness/api"
	"witness/witness"
)

func proofOf(way ...api.Item) []string {
	var proof []string
	for _, x := range way {
		proof = append(proof, ownBytes(x))
	}
	return proof
}

// wantTold asks what a proof tells against the sum of its first element.
func wantTold(t *testing.T, name, key, value string, way ...api.Item) {
	t.Helper()
	proof := proofOf(way...)
	wantVerify(t, name, ownSum(proof[0]), key, proof, value, value != "", api.OK)
}

func wantRefused(t *testing.T, name, key string, way ...api.Item) {
	t.Helper()
	proof := proofOf(way...)
	wantVerify(t, name, ownSum(proof[0]), key, proof, "", false, api.ErrProof)
}

// Nodes to lay into others: eight stands for a sum of something.
var (
	eight = bytes("12345678")
	small = leafOf("", "x")
	great = leafOf("", "a longer value")
	fork  = branchOf("f", at{'3': small, '4': refTo(great)})
)

func fullBranch(with ...api.Item) api.Item {
	all := list()
	for i := range 16 {
		all.Items = append(all.Items, with[i%len(with)])
	}
	all.Items = append(all.Items, bytes(letters(40)))
	return all
}

// All ways for the empty key end at the node itself.
func TestSoundNodes(t *testing.T) {
	for _, c := range []struct {
		name  string
		x     api.Item
		value string
	}{
		{"the empty bytes", bytes(""), ""},
		{"a leaf of no digit", leafOf("", "x"), "x"},
		{"a leaf of MaxValue", leafOf("", letters(40)), letters(40)},
		{"a leaf of one digit", leafOf("0", "x"), ""},
		{"a leaf of an odd number of digits", leafOf("f12", "x"), ""},
		{"a leaf of more digits than a key has", leafOf(ownDigits(letters(7)), "x"), ""},
		{"a leaf of MaxBytes", list(bytes("\x20"+letters(992)), bytes("x")), ""},
		{"an extension of one digit", extensionOf("5", eight), ""},
		{"an extension of two digits", extensionOf("56", eight), ""},
		{"an extension of the digit 0", extensionOf("0", eight), ""},
		{"an extension of more digits than a key has", extensionOf(ownDigits(letters(7)), eight), ""},
		{"an extension of MaxBytes", list(bytes("\x00"+letters(984)), eight), ""},
		{"a branch of two leaves", branchOf("", at{'0': small, 'f': small}), ""},
		{"a branch of two sums", branchOf("", at{'0': eight, 'f': eight}), ""},
		{"a branch of a leaf and a value", branchOf("v", at{'2': small}), "v"},
		{"a branch of a sum and a value of MaxValue", branchOf(letters(40), at{'2': eight}), letters(40)},
		{"a full branch of leaves", fullBranch(small), letters(40)},
		{"a full branch of sums", fullBranch(eight, eight), letters(40)},
		{"a full branch of both", fullBranch(small, eight, leafOf("", "abcd")), letters(40)},
		{"a leaf of 7 bytes in a branch", branchOf("v", at{'2': leafOf("", "abcd")}), "v"},
		{"a leaf of 7 bytes and many digits in a branch", branchOf("v", at{'2': leafOf("1234567", "z")}), "v"},
	} {
		wantTold(t, c.name, "", c.value, c.x)
	}
}

// unsound tells items that are no sound nodes.
func unsound() map[string]api.Item {
	path, value := bytes("\x20"), bytes("x")
	row := func(n int) api.Item { return list(slices.Repeat([]api.Item{small}, n)...) }
	all := map[string]api.Item{
		"one byte":                           bytes("a"),
		"two bytes":                          bytes("ab"),
		"8 bytes":                            eight,
		"many bytes":                         bytes(letters(60)),
		"the empty list":                     list(),
		"a list of a path":                   list(path),
		"a list of a path, a value and more": list(path, value, value),
		"a list of 16":                       row(16),
		"a list of 18":                       row(18),
		"a branch and one more":              list(append(slices.Clone(fork.Items), bytes(""))...),
		"a branch without its last":          list(fork.Items[:16]...),

		"a leaf without a value":         leafOf("1234567890123", ""),
		"a leaf of MaxValue and 1":       leafOf("12", letters(41)),
		"a leaf's value an empty list":   list(path, list()),
		"a leaf's value a list":          list(path, list(bytes("a longer value"))),
		"a leaf's path a list":           list(list(path), bytes("a longer value")),
		"a leaf's path an empty list":    list(list(), bytes("a longer value")),
		"a path of no bytes":             list(bytes(""), bytes("a longer value")),
		"a path of no bytes, and a sum":  list(bytes(""), eight),
		"a path 21":                      list(bytes("\x21"), bytes("a longer value")),
		"a path 2f 61":                   list(bytes("\x2fa"), bytes("a longer value")),
		"a path 01 61":                   list(bytes("\x01a"), eight),
		"a path 0f":                      list(bytes("\x0f"), eight),
		"an extension of no digit":       extensionOf("", eight),
		"an extension to no bytes":       extensionOf("1", bytes("")),
		"an extension to 7 bytes":        extensionOf("1", bytes("1234567")),
		"an extension to 9 bytes":        extensionOf("1", bytes("123456789")),
		"an extension to a value":        extensionOf("1", bytes("a longer value")),
		"an extension to a leaf itself":  extensionOf("1", small),
		"an extension to an empty list":  extensionOf("1", list()),
		"an extension to a list of 8":    extensionOf("1", list(slices.Repeat([]api.Item{value}, 8)...)),
		"an extension to a sum's list":   extensionOf("1", list(eight)),
		"an extension to a whole branch": extensionOf("1", fork),
		"an extension's path a list":     list(list(bytes("\x11")), eight),

		"a branch of nothing":            branchOf("", nil),
		"a branch of a value":            branchOf("x", nil),
		"a branch of one leaf":           branchOf("", at{'4': small}),
		"a branch of one sum":            branchOf("", at{'4': eight}),
		"a branch of MaxValue and 1":     branchOf(letters(41), at{'4': eight, '5': eight}),
		"a branch's value an empty list": list(append(slices.Clone(fork.Items[:16]), list())...),
		"a branch's value a list":        list(append(slices.Clone(fork.Items[:16]), small)...),
		"a branch's value a sum's list":  list(append(slices.Clone(fork.Items[:16]), list(eight))...),
	}
	for sign := 0x40; sign <= 0xff; sign += 0x10 {
		name := "a path " + string("0123456789abcdef"[sign>>4]) + "0"
		all[name] = list(bytes(string([]byte{byte(sign)})), eight)
		all[name+" and more"] = list(bytes(string([]byte{byte(sign)})+"more"), eight)
	}
	for name, x := range map[string]api.Item{
		"one byte":                         bytes("a"),
		"7 bytes":                          bytes("1234567"),
		"9 bytes":                          bytes("123456789"),
		"the empty list":                   list(),
		"a list of a list":                 list(list()),
		"a list of a sum":                  list(eight),
		"a leaf without a value":           leafOf("", ""),
		"a leaf with a path 21":            list(bytes("\x21"), value),
		"a leaf with a path 40":            list(bytes("\x40"), value),
		"a leaf of three":                  list(path, value, value),
		"a leaf of lists":                  list(list(), list()),
		"an unmarked leaf":                 extensionOf("1", value),
		"a leaf of 8 bytes":                leafOf("", "abcde"),
		"a leaf of 8 bytes, most its path": leafOf("123456789", "x"),
		"a leaf of 9 bytes":                leafOf("", "abcdef"),
		"a leaf of MaxValue":               leafOf("", letters(40)),
		"an extension":                     extensionOf("1", eight),
		"a branch":                         fork,
	} {
		for _, d := range []byte("0123456789abcdef") {
			other := byte('0')
			if d == '0' {
				other = '1'
			}
			all["a branch with "+name+" at "+string(d)] = branchOf("v", at{d: x, other: eight})
		}
	}
	return all
}

func TestNodesThatAreNotSound(t *testing.T) {
	for name, x := range unsound() {
		wantRefused(t, name, "", x)
		wantRefused(t, name+", another key", "\x40", x)
		over := branchOf("v", at{'4': bySum(x)})
		wantRefused(t, name+", below a branch", "\x40", over, x)
		wantTold(t, name+", beside the way", "", "v", over)
		above := extensionOf("4", bySum(x))
		wantRefused(t, name+", below an extension", "\x40", above, x)
		wantTold(t, name+", behind the way's end", "\x50", "", above)
	}
}

func TestElementsThatAreNoItems(t *testing.T) {
	for _, s := range []string{
		"", "\xc1", "\x81\x20", "\xc3\x81\x20x", "\xc2\x20x\x80", "\xc2\x20xx", "\xc3\x20x", "\xf8\x02\x20x", "\xff",
		"\x80\x80", letters(1000), strings.Repeat("\xc1", 999) + "\xc0", "\xc8\xc7\xc6\xc5\xc4\xc3\xc2\xc1\xc0",
	} {
		wantVerify(t, "no item", ownSum(s), "", []string{s}, "", false, api.ErrProof)
		over := ownBytes(branchOf("v", at{'4': bytes(ownSum(s))}))
		wantVerify(t, "no item below", ownSum(over), "\x40", []string{over, s}, "", false, api.ErrProof)
		wantVerify(t, "no item left over", ownSum(over), "", []string{over, s}, "", false, api.ErrProof)
	}
}

func TestWaysThatVerify(t *testing.T) {
	over := extensionOf("61", refTo(fork))
	wantTold(t, "a branch's value", "", "f", fork)
	wantTold(t, "a leaf itself, a digit left", "\x30", "", fork)
	wantTold(t, "a leaf by its sum, a digit left", "\x40", "", fork, great)
	wantTold(t, "the empty bytes", "\x50", "", fork)
	wantTold(t, "an extension and a branch's value", "a", "f", over, fork)
	wantTold(t, "an extension and the empty bytes", "ab", "", over, fork)
	wantTold(t, "an extension and a leaf itself", "a3", "", over, fork)
	wantTold(t, "an extension and a leaf", "aC", "", over, fork, great)
	wantTold(t, "an extension, another digit", "b", "", over)
	wantTold(t, "an extension, no digit", "", "", over)

	deep := branchOf("", at{'1': refTo(fork), '2': leafOf("0", "y")})
	wantTold(t, "a leaf by its sum", "\x14", "a longer value", deep, fork, great)
	wantTold(t, "a leaf itself", "\x13", "x", deep, fork)
	wantTold(t, "a leaf itself, another digit", "\x21", "", deep)
	wantTold(t, "a leaf itself, more digits", "\x20\x00", "", deep)
	wantTold(t, "a leaf itself, its digit", "\x20", "y", deep)

	ladder := branchOf("", at{'1': leafOf("0", "y"), '2': refTo(over), '3': refTo(extensionOf("1", refTo(deep)))})
	wantTold(t, "a leaf itself with a digit", "\x10", "y", ladder)
	wantTold(t, "a branch below a branch below an extension", "\x31\x14", "a longer value", ladder, extensionOf("1", refTo(deep)), deep, fork, great)
	wantTold(t, "an extension below a branch, its end in the midst", "\x26", "", ladder, over)
}

func TestProofsWithAWrongElement(t *testing.T) {
	over := extensionOf("61", refTo(fork))
	other := leafOf("", "another value")
	for name, way := range map[string][]api.Item{
		"the last missing":            {over, fork},
		"the midst missing":           {over, great},
		"the first missing":           {fork, great},
		"all but the first missing":   {over},
		"the last again":              {over, fork, great, great},
		"the first again":             {over, over, fork, great},
		"one left over":               {over, fork, great, other},
		"the empty bytes left over":   {over, fork, great, bytes("")},
		"the empty bytes ahead":       {bytes(""), over, fork, great},
		"another one the last":        {over, fork, other},
		"another one between":         {over, other, fork, great},
		"two turned":                  {over, great, fork},
		"all turned":                  {great, fork, over},
		"a leaf itself as an element": {over, fork, small, great},
	} {
		proof := proofOf(way...)
		wantVerify(t, name, ownSum(ownBytes(over)), "aC", proof, "", false, api.ErrProof)
	}
	right := proofOf(over, fork, great)
	wantVerify(t, "no element", ownSum(""), "", nil, "", false, api.ErrProof)
	wantVerify(t, "no element, the empty table", ownSum("\x80"), "", []string{}, "", false, api.ErrProof)
	wantVerify(t, "the empty table, and more", ownSum("\x80"), "", []string{"\x80", "\x80"}, "", false, api.ErrProof)
	wantVerify(t, "another root", ownSum(right[1]), "aC", right, "", false, api.ErrProof)
	wantVerify(t, "the root's bytes turned", "\x25\x23\x22\x84\xe4\x9c\xf2\xcb", "aC", right, "", false, api.ErrProof)
	wantVerify(t, "a key that goes less far", ownSum(right[0]), "a", right, "", false, api.ErrProof)
	wantVerify(t, "a key that ends at the first", ownSum(right[0]), "b", right, "", false, api.ErrProof)
	wantVerify(t, "a key that goes further", ownSum(right[0]), "aC", right[:2], "", false, api.ErrProof)
}

func TestWhatMayFollow(t *testing.T) {
	inner := extensionOf("3", refTo(fork))
	wantRefused(t, "an extension to a leaf", "\x40", extensionOf("4", refTo(great)), great)
	wantRefused(t, "an extension to an extension", "\x43", extensionOf("4", refTo(inner)), inner, fork)
	wantRefused(t, "an extension to an extension, the end", "\x45", extensionOf("4", refTo(inner)), inner)
	wantRefused(t, "an extension to a short leaf", "\x40", extensionOf("4", bySum(small)), small)
	wantRefused(t, "an extension to the empty bytes", "\x40", extensionOf("4", bySum(bytes(""))), bytes(""))
	wantTold(t, "an extension to a leaf, not followed", "\x30", "", extensionOf("4", refTo(great)))
	wantTold(t, "a branch to an extension", "\x43", "f", branchOf("v", at{'4': refTo(inner)}), inner, fork)
	wantTold(t, "a branch to a branch", "\x45", "", branchOf("v", at{'4': refTo(fork)}), fork)
	for n := 1; n <= 6; n++ {
		leaf := leafOf("0", letters(n))
		over := branchOf("v", at{'4': bySum(leaf)})
		if len(ownBytes(leaf)) < 8 {
			wantRefused(t, "a short leaf by its sum", "\x40", over, leaf)
		} else {
			wantTold(t, "a leaf by its sum", "\x40", letters(n), over, leaf)
		}
		wantTold(t, "a leaf by its sum, not followed", "\x50", "", over)
		wantTold(t, "a short first one", "\x40", "", leaf)
	}
	wantRefused(t, "the empty bytes by their sum", "\x40", branchOf("v", at{'4': bySum(bytes(""))}), bytes(""))
}

func TestVerifyTellsTheErrorNamedFirst(t *testing.T) {
	right := proofOf(fork)
	roots := map[string]api.Errno{ownSum(right[0]): api.OK, "": api.ErrRoot, "1234567": api.ErrRoot, "123456789": api.ErrRoot, letters(1000000): api.ErrRoot}
	keys := map[string]api.Errno{"": api.OK, letters(7): api.ErrKey, letters(1000000): api.ErrKey}
	proofs := []struct {
		proof []string
		e     api.Errno
	}{
		{right, api.OK},
		{make([]string, 21), api.ErrBig},
		{make([]string, 1000000), api.ErrBig},
		{slices.Repeat(right, 21), api.ErrBig},
		{[]string{letters(1001)}, api.ErrBig},
		{[]string{"", right[0], letters(1001)}, api.ErrBig},
		{append(make([]string, 19), ownBytes(leafOf(letters(2000), "x"))), api.ErrBig},
		{make([]string, 20), api.ErrProof},
		{slices.Repeat(right, 20), api.ErrProof},
		{[]string{letters(1000)}, api.ErrProof},
		{nil, api.ErrProof},
	}
	for root, rootErr := range roots {
		for key, keyErr := range keys {
			for _, p := range proofs {
				want := p.e
				if keyErr != api.OK {
					want = keyErr
				}
				if rootErr != api.OK {
					want = rootErr
				}
				value := ""
				if want == api.OK {
					value = "f"
				}
				if v, found, e := witness.Verify(root, key, p.proof); v != value || found != (value != "") || e != want {
					t.Errorf("Verify(%.12q, %.12q, %d elements) = %q, %v, %d, want %q, %d", root, key, len(p.proof), v, found, e, value, want)
				}
			}
		}
	}
	for n := range 20 {
		if _, _, e := witness.Verify(letters(n), "", right); (e == api.ErrRoot) != (n != 8) {
			t.Errorf("Verify with a root of %d bytes: %d", n, e)
		}
		if _, _, e := witness.Verify(ownSum(right[0]), letters(n), right); (e == api.ErrKey) != (n > 6) {
			t.Errorf("Verify with a key of %d bytes: %d", n, e)
		}
	}
}

// likeOwn holds an answer against the tests' own, and tells the error.
func likeOwn(t *testing.T, name, root, key string, proof []string) (bool, api.Errno) {
	t.Helper()
	value, found, e := ownVerify(root, key, proof)
	wantVerify(t, name, root, key, proof, value, found, e)
	return found, e
}

func TestEveryByteChanged(t *testing.T) {
	nodes := proofOf(small, great, leafOf("4", "abcde"), fork, extensionOf("40", refTo(fork)), extensionOf("4", eight),
		branchOf("", at{'4': leafOf("0", "x"), '0': leafOf("12345", "y")}))
	for _, s := range nodes {
		for i := range len(s) {
			for b := range 256 {
				changed := s[:i] + string([]byte{byte(b)}) + s[i+1:]
				for _, key := range []string{"", "\x40", "\x50"} {
					likeOwn(t, "a byte changed", ownSum(changed), key, []string{changed})
					likeOwn(t, "a byte changed, not the root", ownSum(s), key, []string{changed})
				}
			}
			likeOwn(t, "cut", ownSum(s[:i]), "\x40", []string{s[:i]})
		}
	}
}

func TestProofsOfOtherKeys(t *testing.T) {
	m := maker(5)
	for range 40 {
		pairs := m.pairs(12)
		table := ownTable(pairs)
		root, _ := witness.Root(pairs)
		for range 20 {
			key, other := m.key(), m.key()
			proof := ownProof(table, other)
			want := api.ErrProof
			if slices.Equal(proof, ownProof(table, key)) {
				want = api.OK
			}
			if _, _, e := witness.Verify(root, key, proof); e != want {
				t.Errorf("Verify(.., %q, the proof for %q) of %q: %d, want %d", key, other, pairs, e, want)
			}
		}
	}
}

func (m *maker) oneOf(l ...string) string { return l[m.below(len(l))] }

// bottom makes the last node of a way, and the digits that the way still has.
func (m *maker) bottom() (api.Item, string) {
	digits := m.oneOf("", "0", "1", "10", "01", "100", "6162")
	value := m.oneOf("x", "\x80", "abcd", "abcde", letters(40), "x", "abcd", "abcde", "", letters(41))
	switch m.below(8) {
	case 0:
		return bytes(""), digits
	case 1:
		return branchOf(value, at{'1': eight, '2': small}), ""
	case 2:
		return leafOf(m.oneOf("", "0", "1", "10"), value), digits
	case 3:
		return extensionOf("5", eight), digits
	}
	return leafOf(digits, value), digits
}

// beside makes a reference off the way.
func (m *maker) beside() api.Item {
	switch m.below(40) {
	case 0:
		return great
	case 1:
		return bytes("1234567")
	case 2, 3, 4, 5:
		return small
	case 6, 7, 8, 9:
		return eight
	}
	return bytes("")
}

// way makes the nodes of a way, sound or not, the elements among them, and
// the digits that lead down.
func (m *maker) way(levels int) (elements []string, digits string) {
	x, digits := m.bottom()
	elements = proofOf(x)
	for range levels {
		to := refTo(x)
		switch m.below(12) {
		case 0:
			to = bySum(x)
		case 1:
			to = x
		}
		if to.List || to.Bytes == "" {
			elements = elements[1:]
		}
		if m.below(3) == 0 {
			path := m.oneOf("1", "6", "61", "161", "")
			x, digits = extensionOf(path, to), path+digits
		} else {
			x = branchOf(m.oneOf("", "", "v", letters(40)), nil)
			for i := range 16 {
				x.Items[i] = m.beside()
			}
			d := m.below(16)
			x.Items[d] = to
			digits = "0123456789abcdef"[d:d+1] + digits
		}
		elements = append(proofOf(x), elements...)
	}
	return elements, digits
}

// spoil changes a proof in one place.
func (m *maker) spoil(proof []string) []string {
	i, j := m.below(len(proof)), m.below(len(proof))
	switch m.below(4) {
	case 0:
		return slices.Delete(proof, i, i+1)
	case 1:
		return slices.Insert(proof, i, proof[j])
	case 2:
		proof[i], proof[j] = proof[j], proof[i]
		return proof
	}
	return append(proof, ownBytes(great))
}

func TestManyWays(t *testing.T) {
	m := maker(6)
	found, none, refused := 0, 0, 0
	for range 20000 {
		proof, digits := m.way(m.below(5))
		digits = digits[:min(len(digits), 12)]
		if len(digits)%2 == 1 {
			digits = digits[:len(digits)-1]
		}
		root := ownSum(proof[0])
		if m.below(4) == 0 {
			proof = m.spoil(proof)
		}
		is, e := likeOwn(t, "made", root, unhex(digits), proof)
		switch {
		case is:
			found++
		case e == api.OK:
			none++
		default:
			refused++
		}
	}
	if min(found, none, refused) < 1000 {
		t.Errorf("of the ways %d told a value, %d none, %d were refused: too few of one", found, none, refused)
	}
}

// The leaves of no digit and these values have the same sum.
var likeSums = [2]string{
	unhex("65737a7963696470796f70756d7a676470616d6e74797961776f24646007ce505c05b873774929ca"),
	unhex("65737a7963696470796f70756d7a676470616d6e74797961776f2911e006dc564704440094cc32cf"),
}

func TestTwoNodesOfOneSum(t *testing.T) {
	one, other := leafOf("", likeSums[0]), leafOf("", likeSums[1])
	if !same(bySum(one), bySum(other)) || same(one, other) {
		t.Fatalf("the sums are %q, %q", bySum(one).Bytes, bySum(other).Bytes)
	}
	branch := branchOf("", at{'1': bySum(one), '2': bySum(one)})
	top := extensionOf("6", refTo(branch))
	pairs := pairsOf("a", likeSums[0], "b", likeSums[1])
	wantAll(t, "the first", pairs, "a", likeSums[0], proofOf(top, branch, one)...)
	wantAll(t, "the other", pairs, "b", likeSums[1], proofOf(top, branch, other)...)
	wantTold(t, "the other in the first's place", "a", likeSums[1], top, branch, other)
	wantVerify(t, "the other as the root", bySum(one).Bytes, "", proofOf(other), likeSums[1], true, api.OK)
}
