package tree

import (
	"witness/api"
	"witness/items"
)

// How many items the list of a node has: of a leaf or an extension, of a
// branch.
const (
	pathItems   = 2
	branchItems = manyDigits + 1
)

// read tells the sound node that s is the bytes of.
func read(s string) (Node, bool) {
	x, e := items.Decode(s)
	if e != api.OK {
		return nil, false
	}
	return readNode(x)
}

func readAll(proof []string) ([]Node, bool) {
	var all []Node
	for _, s := range proof {
		n, ok := read(s)
		if !ok {
			return nil, false
		}
		all = append(all, n)
	}
	return all, true
}

func readNode(x api.Item) (Node, bool) {
	switch {
	case !x.List:
		return newEmpty(), x.Bytes == ""
	case len(x.Items) == branchItems:
		return readBranch(x)
	case len(x.Items) == pathItems && !x.Items[0].List:
		digits, marked, ok := readPath(x.Items[0].Bytes)
		if !ok {
			return nil, false
		}
		if marked {
			return readLeaf(x, digits)
		}
		return readExtension(x, digits)
	}
	return nil, false
}

func readLeaf(x api.Item, digits string) (Node, bool) {
	value, ok := readValue(x.Items[1])
	return leafNode{common{Leaf, x}, digits, value}, ok && value != ""
}

func readExtension(x api.Item, digits string) (Node, bool) {
	to := x.Items[1]
	n := extensionNode{common{Extension, x}, digits, reference{sum: to.Bytes}}
	return n, digits != "" && isSum(to)
}

func readBranch(x api.Item) (Node, bool) {
	n := branchNode{common: common{Branch, x}}
	used := 0
	for d := range n.to {
		to, ok := readReference(x.Items[d])
		if !ok {
			return nil, false
		}
		if !to.leadsNowhere() {
			used++
		}
		n.to[d] = to
	}
	value, ok := readValue(x.Items[manyDigits])
	if value != "" {
		used++
	}
	n.value = value
	return n, ok && used >= 2
}

func readReference(x api.Item) (reference, bool) {
	if isSum(x) {
		return reference{sum: x.Bytes}, true
	}
	n, ok := readNode(x)
	// A branch never stands here itself: its 17 items alone are too many bytes.
	return reference{node: n}, ok && isShort(n)
}

func readValue(x api.Item) (string, bool) {
	return x.Bytes, !x.List && len(x.Bytes) <= api.MaxValue
}

func isSum(x api.Item) bool { return !x.List && len(x.Bytes) == sumSize }
