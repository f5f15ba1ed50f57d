// Package tree puts tables into trees of nodes, proves what they have for a
// key, checks such proofs (P4, P5), and stores their nodes (for P7).
package tree

import (
	"strings"

	"witness/api"
	"witness/items"
)

// Kind tells one kind of nodes from the others.
type Kind int

const (
	Empty Kind = iota
	Leaf
	Extension
	Branch
)

// Node is a node of one of the kinds. What common cannot do for all of them,
// they do each for itself.
type Node interface {
	Kind() Kind
	Item() api.Item
	Bytes() string
	Sum() string

	// next tells by which reference a way with these digits goes on, and the
	// digits that are left then; ok is false if the way ends at the node.
	next(digits string) (to reference, rest string, ok bool)
	// valueAt tells the value where a way ends, empty if there is none.
	valueAt(digits string) string
	// sums tells the sums in the node's references.
	sums() []string
}

// common is what all kinds of nodes have; each of them embeds it.
type common struct {
	kind Kind
	item api.Item
}

func (c common) Kind() Kind { return c.kind }

func (c common) Item() api.Item { return c.item }

func (c common) Bytes() string {
	// A node was read from an item's bytes, or made by the limits of a table,
	// which leave it far smaller than an item may be.
	s, _ := items.Encode(c.item)
	return s
}

func (c common) Sum() string { return sumOf(c.Bytes()) }

func (c common) next(string) (reference, string, bool) {
	return reference{}, "", false
}

func (c common) valueAt(string) string { return "" }

func (c common) sums() []string { return nil }

type emptyNode struct{ common }

type leafNode struct {
	common
	digits, value string
}

func (n leafNode) valueAt(digits string) string {
	if digits != n.digits {
		return ""
	}
	return n.value
}

type extensionNode struct {
	common
	digits string
	to     reference
}

func (n extensionNode) next(digits string) (reference, string, bool) {
	rest, ok := strings.CutPrefix(digits, n.digits)
	return n.to, rest, ok
}

func (n extensionNode) sums() []string { return []string{n.to.sum} }

type branchNode struct {
	common
	to    [manyDigits]reference
	value string
}

func (n branchNode) next(digits string) (reference, string, bool) {
	if digits == "" {
		return reference{}, "", false
	}
	return n.to[digits[0]], digits[1:], true
}

// valueAt has no digits to look at: a way ends here only where none is left.
func (n branchNode) valueAt(string) string { return n.value }

// sums needs not look into the nodes that stand here themselves: they are too
// short to have a sum in them.
func (n branchNode) sums() []string {
	var all []string
	for _, r := range n.to {
		if r.sum != "" {
			all = append(all, r.sum)
		}
	}
	return all
}

// reference refers to a node by its sum or, if the sum is empty, by the node
// itself. In a tree that was built, the node stands beside its sum too.
type reference struct {
	sum  string
	node Node
}

func referenceTo(n Node) reference {
	if isShort(n) {
		return reference{node: n}
	}
	return reference{sum: n.Sum(), node: n}
}

func isShort(n Node) bool { return len(n.Bytes()) < sumSize }

func (r reference) item() api.Item {
	if r.sum == "" {
		return r.node.Item()
	}
	return bytesItem(r.sum)
}

// leadsNowhere holds for a reference to the node of no pair.
func (r reference) leadsNowhere() bool {
	return r.sum == "" && r.node.Kind() == Empty
}

func bytesItem(s string) api.Item { return api.Item{Bytes: s} }

func listItem(l ...api.Item) api.Item { return api.Item{List: true, Items: l} }
