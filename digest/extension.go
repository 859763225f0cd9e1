package digest

import "royalty/api"

// Extension returns a proof that l begins with its first m entries, or ErrArg if m is not from 0 to the number of entries.
func Extension(l []string, m int) ([]string, api.Errno) {
	if m < 0 || m > len(l) {
		return nil, api.ErrArg
	}
	if m == 0 {
		return nil, api.OK
	}
	return part(l, m, true), api.OK
}

// part returns the roots from which those of the first m entries and of l follow, the lowest one first. It is whole if l begins where the list of the proof does: then the root of its first m entries is that of all the old ones, which the verifier knows.
func part(l []string, m int, whole bool) []string {
	if m == len(l) {
		if whole {
			return nil
		}
		return []string{Root(l)}
	}
	k := firstPart(len(l))
	if m <= k {
		return append(part(l[:k], m, whole), Root(l[k:]))
	}
	return append(part(l[k:], m-k, false), Root(l[:k]))
}

// VerifyExtension reports whether the proof shows that a list with n entries and the given root begins with m entries whose root is old.
func VerifyExtension(old string, m int, root string, n int, proof []string) bool {
	if m < 0 || m > n || !areDigests(old, root) || !areDigests(proof...) {
		return false
	}
	if m == 0 {
		return len(proof) == 0 && old == Root(nil)
	}
	first, second, ok := twoValues(old, m, n, proof, true)
	return ok && first == old && second == root
}

// twoValues returns the roots of the first m and of all n entries that the proof yields, or false if the proof is too short or too long.
func twoValues(old string, m int, n int, proof []string, whole bool) (string, string, bool) {
	if m == n && whole {
		return old, old, len(proof) == 0
	}
	if len(proof) == 0 {
		return "", "", false
	}
	rest, x := splitLast(proof)
	if m == n {
		return x, x, len(rest) == 0
	}
	k := firstPart(n)
	if m <= k {
		first, second, ok := twoValues(old, m, k, rest, whole)
		return first, Node(second, x), ok
	}
	first, second, ok := twoValues(old, m-k, n-k, rest, false)
	return Node(x, first), Node(x, second), ok
}
