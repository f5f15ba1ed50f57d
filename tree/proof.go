package tree

import "witness/api"

// Root tells the root of a table.
func Root(pairs []api.Pair) (string, api.Errno) {
	// No key is asked for; the empty one is never at fault.
	if e := tableFault(pairs, ""); e != api.OK {
		return "", e
	}
	return build(tableOf(pairs)).Sum(), api.OK
}

// Prove tells the proof for a key in a table.
func Prove(pairs []api.Pair, key string) ([]string, api.Errno) {
	if e := tableFault(pairs, key); e != api.OK {
		return nil, e
	}
	return proofFor(build(tableOf(pairs)), digitsOf(key)), api.OK
}

func proofFor(root Node, digits string) []string {
	var proof []string
	// The nodes stand beside their sums in the tree and are taken from there:
	// two of them might have the same sum.
	walk(reference{root.Sum(), root}, digits, func(to reference) (Node, bool) {
		proof = append(proof, to.node.Bytes())
		return to.node, true
	})
	return proof
}

// Verify tells what a proof tells for a key.
func Verify(root, key string, proof []string) (string, bool, api.Errno) {
	_, value, e := check(root, key, proof)
	return value, value != "", e
}

// check tells the nodes of a proof, and the value that it tells for a key,
// empty if there is none.
func check(root, key string, proof []string) ([]Node, string, api.Errno) {
	if e := proofFault(root, key, proof); e != api.OK {
		return nil, "", e
	}
	nodes, ok := readAll(proof)
	if !ok {
		return nil, "", api.ErrProof
	}
	left := nodes
	value, ok := walk(reference{sum: root}, digitsOf(key), func(to reference) (Node, bool) {
		if len(left) == 0 || left[0].Sum() != to.sum {
			return nil, false
		}
		n := left[0]
		left = left[1:]
		return n, true
	})
	if !ok || len(left) > 0 {
		return nil, "", api.ErrProof
	}
	return nodes, value, api.OK
}

// tableFault goes through the keys of all pairs ahead of their values: of two
// faults the key's is told.
func tableFault(pairs []api.Pair, key string) api.Errno {
	if len(pairs) > api.MaxPairs {
		return api.ErrBig
	}
	for _, p := range pairs {
		if isLongKey(p.Key) {
			return api.ErrKey
		}
	}
	if isLongKey(key) {
		return api.ErrKey
	}
	for _, p := range pairs {
		if len(p.Value) > api.MaxValue {
			return api.ErrValue
		}
	}
	return api.OK
}

// proofFault tells what is wrong with a proof before it is looked into.
func proofFault(root, key string, proof []string) api.Errno {
	switch {
	case !IsRoot(root):
		return api.ErrRoot
	case isLongKey(key):
		return api.ErrKey
	case len(proof) > api.MaxProof:
		return api.ErrBig
	}
	for _, s := range proof {
		if len(s) > api.MaxBytes {
			return api.ErrBig
		}
	}
	return api.OK
}

// IsRoot tells whether a string could be a root.
func IsRoot(root string) bool { return len(root) == sumSize }

func isLongKey(key string) bool { return len(key) > api.MaxKey }
