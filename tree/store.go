package tree

import (
	"maps"

	"witness/api"
)

// Store has the nodes that are kept; each is found by its sum.
type Store struct{ nodes map[string]Node }

func NewStore() *Store { return &Store{nodes: map[string]Node{}} }

// Count tells how many nodes are kept.
func (s *Store) Count() int { return len(s.nodes) }

// Add keeps the elements of a proof for a key against a root.
func (s *Store) Add(root, key string, proof []string) api.Errno {
	nodes, _, e := check(root, key, proof)
	if e != api.OK {
		return e
	}
	// A copy is added to: if it grows too great, nothing has changed.
	with := maps.Clone(s.nodes)
	for _, n := range nodes {
		sum := n.Sum()
		if _, kept := with[sum]; !kept {
			with[sum] = n
		}
	}
	if len(with) > api.MaxKept {
		return api.ErrFull
	}
	s.nodes = with
	return api.OK
}

// Tell tells what the nodes that are kept tell for a key against a root.
func (s *Store) Tell(root, key string) (string, bool, api.Errno) {
	if isLongKey(key) {
		return "", false, api.ErrKey
	}
	value, ok := walk(reference{sum: root}, digitsOf(key), func(to reference) (Node, bool) {
		n, kept := s.nodes[to.sum]
		return n, kept
	})
	if !ok {
		return "", false, api.ErrUnknown
	}
	return value, value != "", api.OK
}

// ForgetAllBut forgets what is not reached from the roots.
func (s *Store) ForgetAllBut(roots []string) {
	reached := map[string]Node{}
	for _, root := range roots {
		s.reach(root, reached)
	}
	s.nodes = reached
}

// reach adds what is reached from a sum. What was reached before is not gone
// down from again: sums are short, so that nodes may refer to one another in a
// circle.
func (s *Store) reach(sum string, reached map[string]Node) {
	n, kept := s.nodes[sum]
	_, before := reached[sum]
	if !kept || before {
		return
	}
	reached[sum] = n
	for _, below := range n.sums() {
		s.reach(below, reached)
	}
}
