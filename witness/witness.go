// Package witness: tables whose every answer can be checked: see DOC.md.
package witness

import (
	"witness/api"
	"witness/items"
	"witness/keep"
	"witness/tree"
)

// Keeper keeps what was proved.
type Keeper struct{ inner *keep.Keeper }

// Encode writes an item as bytes (P3).
func Encode(x api.Item) (string, api.Errno) { return items.Encode(x) }

// Decode reads an item (P3).
func Decode(s string) (api.Item, api.Errno) { return items.Decode(s) }

// Root tells the root of a table (P4).
func Root(pairs []api.Pair) (string, api.Errno) { return tree.Root(pairs) }

// Prove tells the proof for a key (P4).
func Prove(pairs []api.Pair, key string) ([]string, api.Errno) { return tree.Prove(pairs, key) }

// Verify tells what a proof proves (P5).
func Verify(root string, key string, proof []string) (string, bool, api.Errno) {
	return tree.Verify(root, key, proof)
}

// Open makes a keeper (P6).
func Open() *Keeper { return &Keeper{inner: keep.New()} }

// Trust lets a keeper trust a root (P6).
func (k *Keeper) Trust(height int, root string) api.Errno { return k.inner.Trust(height, root) }

// Drop lets it trust one no more (P7).
func (k *Keeper) Drop(height int) api.Errno { return k.inner.Drop(height) }

// Offer gives it a proof (P7).
func (k *Keeper) Offer(height int, key string, proof []string) api.Errno {
	return k.inner.Offer(height, key, proof)
}

// Get tells what it knows of a key (P7).
func (k *Keeper) Get(height int, key string) (string, bool, api.Errno) {
	return k.inner.Get(height, key)
}

// Heads lists the roots that are trusted (P6).
func (k *Keeper) Heads() []api.Head { return k.inner.Heads() }

// Kept tells how many nodes are kept (P7).
func (k *Keeper) Kept() int { return k.inner.Kept() }
