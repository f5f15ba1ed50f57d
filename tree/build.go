package tree

import (
	"strings"

	"witness/api"
)

type pair struct{ digits, value string }

// tableOf leaves out the pairs that a later one with the same key puts out,
// and those that put their key out themselves.
func tableOf(pairs []api.Pair) []pair {
	last := map[string]int{}
	for i, p := range pairs {
		last[p.Key] = i
	}
	var table []pair
	for i, p := range pairs {
		if last[p.Key] == i && p.Value != "" {
			table = append(table, pair{digitsOf(p.Key), p.Value})
		}
	}
	return table
}

// build makes the node of pairs, and all nodes below it.
func build(pairs []pair) Node {
	switch len(pairs) {
	case 0:
		return newEmpty()
	case 1:
		return newLeaf(pairs[0].digits, pairs[0].value)
	}
	if start := sharedStart(pairs); start != "" {
		// Behind all that they share, several pairs always make a branch.
		return newExtension(start, buildBranch(behind(start, pairs)))
	}
	return buildBranch(pairs)
}

func buildBranch(pairs []pair) branchNode {
	var to [manyDigits]reference
	for d := range to {
		to[d] = referenceTo(build(behind(oneDigit(d), pairs)))
	}
	value := ""
	for _, p := range pairs {
		if p.digits == "" {
			value = p.value
		}
	}
	return newBranch(to, value)
}

// sharedStart tells the digits that all pairs begin with.
func sharedStart(pairs []pair) string {
	start := pairs[0].digits
	for _, p := range pairs {
		for !strings.HasPrefix(p.digits, start) {
			start = start[:len(start)-1]
		}
	}
	return start
}

// behind tells the pairs that begin with start, without it.
func behind(start string, pairs []pair) []pair {
	var some []pair
	for _, p := range pairs {
		if rest, ok := strings.CutPrefix(p.digits, start); ok {
			some = append(some, pair{rest, p.value})
		}
	}
	return some
}

func newEmpty() Node { return emptyNode{common{Empty, bytesItem("")}} }

func newLeaf(digits, value string) Node {
	x := listItem(bytesItem(pathOf(digits, true)), bytesItem(value))
	return leafNode{common{Leaf, x}, digits, value}
}

func newExtension(digits string, below branchNode) Node {
	// By its sum: a branch is never short enough to stand here itself.
	to := reference{sum: below.Sum(), node: below}
	x := listItem(bytesItem(pathOf(digits, false)), to.item())
	return extensionNode{common{Extension, x}, digits, to}
}

func newBranch(to [manyDigits]reference, value string) branchNode {
	var all []api.Item
	for _, r := range to {
		all = append(all, r.item())
	}
	x := listItem(append(all, bytesItem(value))...)
	return branchNode{common{Branch, x}, to, value}
}
