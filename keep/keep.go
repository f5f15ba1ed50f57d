// Package keep keeps what was proved against roots that are trusted, and
// answers from it (P6, P7).
package keep

import (
	"cmp"
	"slices"
	"strings"

	"witness/api"
	"witness/tree"
)

// Keeper has the roots that it trusts, by rising heights, and the nodes that
// were proved against them.
type Keeper struct {
	heads []api.Head
	nodes *tree.Store
}

// New makes a keeper that trusts nothing.
func New() *Keeper { return &Keeper{nodes: tree.NewStore()} }

// Trust lets the keeper trust a root at a height.
func (k *Keeper) Trust(height int, root string) api.Errno {
	if height < 0 || height > api.MaxHeight {
		return api.ErrHeight
	}
	if !tree.IsRoot(root) {
		return api.ErrRoot
	}
	place, taken := k.place(height)
	if taken && k.heads[place].Root != root {
		return api.ErrTwice
	}
	if taken {
		return api.OK
	}
	if len(k.heads) >= api.MaxHeads {
		return api.ErrFull
	}
	// The root is copied: nothing that is handed in is kept.
	head := api.Head{Height: height, Root: strings.Clone(root)}
	k.heads = slices.Insert(k.heads, place, head)
	return api.OK
}

// Drop lets it trust no root at a height any more, and forget what only that
// one reached.
func (k *Keeper) Drop(height int) api.Errno {
	place, trusted := k.place(height)
	if !trusted {
		return api.ErrHead
	}
	k.heads = slices.Delete(k.heads, place, place+1)
	k.nodes.ForgetAllBut(k.roots())
	return api.OK
}

// Offer gives it a proof for a key against the root at a height.
func (k *Keeper) Offer(height int, key string, proof []string) api.Errno {
	place, trusted := k.place(height)
	if !trusted {
		return api.ErrHead
	}
	return k.nodes.Add(k.heads[place].Root, key, proof)
}

// Get tells what it knows of a key in the table of the root at a height.
func (k *Keeper) Get(height int, key string) (string, bool, api.Errno) {
	place, trusted := k.place(height)
	if !trusted {
		return "", false, api.ErrHead
	}
	return k.nodes.Tell(k.heads[place].Root, key)
}

// Heads lists the roots that are trusted. The list is a copy: the caller may
// write into it.
func (k *Keeper) Heads() []api.Head { return slices.Clone(k.heads) }

// Kept tells how many nodes are kept.
func (k *Keeper) Kept() int { return k.nodes.Count() }

// place tells where the head of a height stands, or would stand.
func (k *Keeper) place(height int) (place int, trusted bool) {
	return slices.BinarySearchFunc(k.heads, height, func(h api.Head, height int) int {
		return cmp.Compare(h.Height, height)
	})
}

func (k *Keeper) roots() []string {
	var roots []string
	for _, h := range k.heads {
		roots = append(roots, h.Root)
	}
	return roots
}
