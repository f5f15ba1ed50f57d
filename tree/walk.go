package tree

// finder tells the node that is referred to by a sum; ok is false if it has
// none.
type finder func(to reference) (n Node, ok bool)

// walk goes down by the digits from the root, and tells the value at the end
// of the way; ok is false where a node on it is not found, or is not what it
// must be there. It ends: no reference is followed without using up a digit.
func walk(root reference, digits string, find finder) (value string, ok bool) {
	here, ok := find(root)
	for ok {
		to, rest, on := here.next(digits)
		if !on {
			return here.valueAt(digits), true
		}
		here, ok = follow(here, to, find)
		digits = rest
	}
	return "", false
}

func follow(from Node, to reference, find finder) (Node, bool) {
	if to.sum == "" {
		return to.node, true
	}
	n, ok := find(to)
	return n, ok && mayFollow(from, n)
}

// mayFollow tells whether a tree could have n where from refers to it by its
// sum.
func mayFollow(from, n Node) bool {
	if isShort(n) {
		return false
	}
	return from.Kind() != Extension || n.Kind() == Branch
}
