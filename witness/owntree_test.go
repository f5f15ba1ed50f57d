package witness_test

import (
	"encoding/hex"
	"hash/fnv"
	"maps"
	"slices"
	"strings"

	"witness/api"
	"witness/witness"
)

// Here trees are made and proofs are checked once more, from the document, so
// that the program can be held against it. Digits are hexadecimal letters, a
// table goes from digits to values.

func ownSum(s string) string {
	h := fnv.New64a()
	h.Write([]byte(s))
	return string(h.Sum(nil))
}

func ownDigits(key string) string { return hex.EncodeToString([]byte(key)) }

func unhex(s string) string {
	b, err := hex.DecodeString(s)
	if err != nil {
		panic(err)
	}
	return string(b)
}

func ownPath(digits, even, odd string) api.Item {
	if len(digits)%2 == 0 {
		return bytes(unhex(even + digits))
	}
	return bytes(unhex(odd + digits))
}

func leafOf(digits, value string) api.Item {
	return list(ownPath(digits, "20", "3"), bytes(value))
}

func extensionOf(digits string, to api.Item) api.Item {
	return list(ownPath(digits, "00", "1"), to)
}

// at is what stands in a branch at a digit.
type at map[byte]api.Item

func branchOf(value string, to at) api.Item {
	all := list()
	for _, d := range []byte("0123456789abcdef") {
		all.Items = append(all.Items, to[d])
	}
	all.Items = append(all.Items, bytes(value))
	return all
}

func bySum(node api.Item) api.Item { return bytes(ownSum(ownBytes(node))) }

func refTo(node api.Item) api.Item {
	if len(ownBytes(node)) < 8 {
		return node
	}
	return bySum(node)
}

func ownTable(pairs []api.Pair) map[string]string {
	table := map[string]string{}
	for _, p := range pairs {
		if p.Value == "" {
			delete(table, ownDigits(p.Key))
		} else {
			table[ownDigits(p.Key)] = p.Value
		}
	}
	return table
}

// ownStart is what the first and the last of the table's digits begin with.
func ownStart(table map[string]string) string {
	all := slices.Sorted(maps.Keys(table))
	first, last := all[0], all[len(all)-1]
	n := 0
	for n < len(first) && n < len(last) && first[n] == last[n] {
		n++
	}
	return first[:n]
}

func ownBehind(table map[string]string, start string) map[string]string {
	below := map[string]string{}
	for digits, value := range table {
		if rest, ok := strings.CutPrefix(digits, start); ok {
			below[rest] = value
		}
	}
	return below
}

func ownNode(table map[string]string) api.Item {
	if len(table) == 0 {
		return bytes("")
	}
	start := ownStart(table)
	if len(table) == 1 {
		return leafOf(start, table[start])
	}
	if start != "" {
		return extensionOf(start, refTo(ownNode(ownBehind(table, start))))
	}
	to := at{}
	for _, d := range []byte("0123456789abcdef") {
		to[d] = refTo(ownNode(ownBehind(table, string(d))))
	}
	return branchOf(table[""], to)
}

// ownWay tells the bytes of all nodes on the way, however they are referred
// to.
func ownWay(table map[string]string, digits string) []string {
	way := []string{ownBytes(ownNode(table))}
	if len(table) < 2 {
		return way
	}
	start := ownStart(table)
	if start == "" && digits != "" {
		start = digits[:1]
	}
	rest, ok := strings.CutPrefix(digits, start)
	if !ok || start == "" {
		return way
	}
	return append(way, ownWay(ownBehind(table, start), rest)...)
}

func ownProof(table map[string]string, key string) []string {
	way := ownWay(table, ownDigits(key))
	return append(way[:1:1], slices.DeleteFunc(way[1:], func(s string) bool { return len(s) < 8 })...)
}

func isOwnPath(x api.Item, signs string, least int) bool {
	s := ownDigits(x.Bytes)
	if x.List || len(s) < 2 || !strings.Contains(signs, s[:1]) {
		return false
	}
	if s[0] == '1' || s[0] == '3' {
		return true
	}
	return s[1] == '0' && len(s)-2 >= least
}

func isOwnLeaf(x api.Item) bool {
	return x.List && len(x.Items) == 2 && isOwnPath(x.Items[0], "23", 0) &&
		!x.Items[1].List && len(x.Items[1].Bytes) >= 1 && len(x.Items[1].Bytes) <= 40
}

func isOwnExtension(x api.Item) bool {
	return x.List && len(x.Items) == 2 && isOwnPath(x.Items[0], "01", 1) &&
		!x.Items[1].List && len(x.Items[1].Bytes) == 8
}

func isOwnBranch(x api.Item) bool {
	if !x.List || len(x.Items) != 17 || x.Items[16].List || len(x.Items[16].Bytes) > 40 {
		return false
	}
	empty := 0
	for i, y := range x.Items {
		if same(y, bytes("")) {
			empty++
			continue
		}
		byItself := (isOwnLeaf(y) || isOwnExtension(y)) && len(ownBytes(y)) < 8
		if i < 16 && !byItself && (y.List || len(y.Bytes) != 8) {
			return false
		}
	}
	return empty <= 15
}

func isOwnSound(s string) bool {
	x, e := witness.Decode(s)
	return e == api.OK && (s == "\x80" || isOwnLeaf(x) || isOwnExtension(x) || isOwnBranch(x))
}

// ownGo goes on by a reference with what is left of a proof.
func ownGo(to api.Item, digits string, left []string, fromExtension bool) (string, bool) {
	if to.List || to.Bytes == "" {
		return ownTell(to, digits, left)
	}
	if len(left) == 0 || ownSum(left[0]) != to.Bytes || len(left[0]) < 8 {
		return "", false
	}
	next, _ := witness.Decode(left[0])
	if fromExtension && len(next.Items) != 17 {
		return "", false
	}
	return ownTell(next, digits, left[1:])
}

// ownNext tells the reference by which a way goes on from a node, and the
// digits that are left then.
func ownNext(node api.Item, digits string) (to api.Item, rest string, on bool) {
	if isOwnExtension(node) {
		for _, odd := range []string{"00", "1"} {
			path, is := strings.CutPrefix(ownDigits(node.Items[0].Bytes), odd)
			rest, ok := strings.CutPrefix(digits, path)
			if is && ok {
				return node.Items[1], rest, true
			}
		}
	}
	if isOwnBranch(node) && digits != "" {
		d := strings.IndexByte("0123456789abcdef", digits[0])
		return node.Items[d], digits[1:], true
	}
	return api.Item{}, "", false
}

// ownTell tells what a way down from a node tells, and whether just what is
// left of a proof is needed for it.
func ownTell(node api.Item, digits string, left []string) (string, bool) {
	if to, rest, on := ownNext(node, digits); on {
		return ownGo(to, rest, left, isOwnExtension(node))
	}
	return ownValue(node, digits), len(left) == 0
}

// ownValue tells the value where a way ends.
func ownValue(node api.Item, digits string) string {
	value := ""
	if isOwnBranch(node) {
		value = node.Items[16].Bytes
	}
	if isOwnLeaf(node) && same(node, leafOf(digits, node.Items[1].Bytes)) {
		value = node.Items[1].Bytes
	}
	return value
}

// ownVerify is what P5 asks where nothing is too big.
func ownVerify(root, key string, proof []string) (string, bool, api.Errno) {
	for _, s := range proof {
		if !isOwnSound(s) {
			return "", false, api.ErrProof
		}
	}
	if len(proof) == 0 || ownSum(proof[0]) != root {
		return "", false, api.ErrProof
	}
	first, _ := witness.Decode(proof[0])
	value, ok := ownTell(first, ownDigits(key), proof[1:])
	if !ok {
		return "", false, api.ErrProof
	}
	return value, value != "", api.OK
}
