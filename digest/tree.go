package digest

import "royalty/api"

// Root returns the root of the entries l.
func Root(l []string) string {
	switch len(l) {
	case 0:
		return Sum("")
	case 1:
		return Leaf(l[0])
	}
	k := firstPart(len(l))
	return Node(Root(l[:k]), Root(l[k:]))
}

// Proof returns the proof of the entry with the index i in l, or ErrArg if there is no such entry.
func Proof(l []string, i int) ([]string, api.Errno) {
	if i < 0 || i >= len(l) {
		return nil, api.ErrArg
	}
	return path(l, i), api.OK
}

// path returns the roots beside the way from entry i to the root, the lowest one first.
func path(l []string, i int) []string {
	if len(l) == 1 {
		return nil
	}
	k := firstPart(len(l))
	if i < k {
		return append(path(l[:k], i), Root(l[k:]))
	}
	return append(path(l[k:], i-k), Root(l[:k]))
}

// Verify reports whether the proof shows that s is the entry with the index i of a list with n entries and the given root.
func Verify(root string, n int, i int, s string, proof []string) bool {
	if i < 0 || i >= n || !areDigests(proof...) {
		return false
	}
	v, ok := value(n, i, Leaf(s), proof)
	return ok && v == root
}

// value returns the root of n entries that the proof yields for the entry i with the given leaf, or false if the proof is too short or too long.
func value(n int, i int, leaf string, proof []string) (string, bool) {
	if n == 1 {
		return leaf, len(proof) == 0
	}
	if len(proof) == 0 {
		return "", false
	}
	rest, x := splitLast(proof)
	k := firstPart(n)
	if i < k {
		v, ok := value(k, i, leaf, rest)
		return Node(v, x), ok
	}
	v, ok := value(n-k, i-k, leaf, rest)
	return Node(x, v), ok
}

// firstPart returns the greatest power of two that is less than n, which is at least 2. It compares k with n - k, since 2k may overflow.
func firstPart(n int) int {
	k := 1
	for k < n-k {
		k *= 2
	}
	return k
}

// areDigests reports whether all elements of l have the size of a digest.
func areDigests(l ...string) bool {
	for _, s := range l {
		if len(s) != api.DigestSize {
			return false
		}
	}
	return true
}

// splitLast returns all elements of l but the last one, and the last one. l is not empty.
func splitLast(l []string) ([]string, string) {
	last := len(l) - 1
	return l[:last], l[last]
}
