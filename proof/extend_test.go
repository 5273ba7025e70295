package proof_test

import (
	"math"
	"slices"
	"testing"

	"guilloche/api"
	"guilloche/proof"
)

func TestExtend(t *testing.T) {
	for n := range 40 {
		for m := 1; m <= n; m++ {
			path, err := proof.Extend(words(n), m)
			checkPath(t, "Extend", path, err, extension(m, words(n), true), api.OK)
		}
		for _, m := range []int{0, -1, n + 1, n + 2, math.MinInt, math.MaxInt} {
			path, err := proof.Extend(words(n), m)
			checkPath(t, "Extend", path, err, nil, api.ErrRange)
		}
	}
	for _, n := range lengths() {
		for _, m := range somePositions(n) {
			path, err := proof.Extend(words(n), m+1)
			checkPath(t, "Extend", path, err, extension(m+1, words(n), true), api.OK)
		}
	}
}

func TestExtendExample(t *testing.T) {
	list := words(7)
	path, err := proof.Extend(list, 4)
	checkPath(t, "Extend", path, err, []api.Hash{treeHash(list[4:])}, api.OK)
	path, err = proof.Extend(list, 7)
	checkPath(t, "Extend", path, err, nil, api.OK)
	path, err = proof.Extend(list, 3)
	checkPath(t, "Extend", path, err, []api.Hash{treeHash(list[2:3]), treeHash(list[3:4]), treeHash(list[:2]), treeHash(list[4:])}, api.OK)
	path, err = proof.Extend(list, 6)
	checkPath(t, "Extend", path, err, []api.Hash{treeHash(list[4:6]), treeHash(list[6:]), treeHash(list[:4])}, api.OK)
}

func TestVerifyExtend(t *testing.T) {
	for n := range 20 {
		for m := 1; m <= n; m++ {
			checkVerifyExtend(t, words(n), m)
		}
	}
	for _, n := range lengths() {
		for _, m := range somePositions(n) {
			checkVerifyExtend(t, words(n), m+1)
		}
	}
}

// checkVerifyExtend checks that a proof is accepted, and is not if anything of it is changed.
func checkVerifyExtend(t *testing.T, list []string, m int) {
	t.Helper()
	n, old, root := len(list), treeHash(list[:m]), treeHash(list)
	path, err := proof.Extend(list, m)
	if err != api.OK || !proof.VerifyExtend(old, root, m, n, path) {
		t.Errorf("the proof of %d of %d strings is not accepted: %d", m, n, err)
	}
	for _, bad := range spoiled(path) {
		if proof.VerifyExtend(old, root, m, n, bad) {
			t.Errorf("a wrong proof of %d of %d strings is accepted: %x", m, n, bad)
		}
	}
	for bit := range 256 {
		if proof.VerifyExtend(flipped(old, bit), root, m, n, path) || proof.VerifyExtend(old, flipped(root, bit), m, n, path) {
			t.Errorf("the proof of %d of %d strings is accepted for another hash", m, n)
		}
	}
	if m < n && proof.VerifyExtend(root, old, m, n, path) {
		t.Errorf("the proof of %d of %d strings is accepted for exchanged hashes", m, n)
	}
	for _, bad := range []int{0, -1, math.MinInt, math.MaxInt, n + 1} {
		if proof.VerifyExtend(old, root, bad, n, path) {
			t.Errorf("the proof of %d of %d strings is accepted for %d of them", m, n, bad)
		}
	}
	for _, bad := range []int{0, -1, math.MinInt, math.MaxInt, m - 1, api.MaxRuns + 1} {
		if proof.VerifyExtend(old, root, m, bad, path) {
			t.Errorf("the proof of %d of %d strings is accepted for %d strings", m, n, bad)
		}
	}
}

// A proof for one list is tried for all numbers, with both hashes of the list for these.
func TestVerifyExtendOfOtherNumbers(t *testing.T) {
	const most = 13
	list := words(most)
	for n := 1; n <= most; n++ {
		for m := 1; m <= n; m++ {
			path := extension(m, list[:n], true)
			for otherN := 1; otherN <= most; otherN++ {
				for otherM := 1; otherM <= otherN; otherM++ {
					for _, old := range []api.Hash{treeHash(list[:m]), treeHash(list[:otherM])} {
						for _, root := range []api.Hash{treeHash(list[:n]), treeHash(list[:otherN])} {
							first, second, rest, ok := extended(otherM, otherN, true, old, path)
							want := ok && len(rest) == 0 && first == old && second == root
							if proof.VerifyExtend(old, root, otherM, otherN, path) != want {
								t.Errorf("VerifyExtend of %d of %d for %d of %d is not %v", m, n, otherM, otherN, want)
							}
						}
					}
				}
			}
		}
	}
}

// extended returns the tree hashes of the first m of n strings and of all of them, as the path says; what is left of the path; and whether it is long enough.
func extended(m, n int, whole bool, old api.Hash, path []api.Hash) (api.Hash, api.Hash, []api.Hash, bool) {
	if m == n && whole {
		return old, old, path, true
	}
	if m == n && len(path) > 0 {
		return path[0], path[0], path[1:], true
	}
	if m == n {
		return api.Hash{}, api.Hash{}, nil, false
	}
	k := firstLength(n)
	if m <= k {
		first, second, rest, ok := extended(m, k, whole, old, path)
		if !ok || len(rest) == 0 {
			return api.Hash{}, api.Hash{}, nil, false
		}
		return first, nodeHash(second, rest[0]), rest[1:], true
	}
	first, second, rest, ok := extended(m-k, n-k, false, old, path)
	if !ok || len(rest) == 0 {
		return api.Hash{}, api.Hash{}, nil, false
	}
	return nodeHash(rest[0], first), nodeHash(rest[0], second), rest[1:], true
}

// Any hashes may be claimed, not only those of lists.
func TestVerifyExtendOfForgedHashes(t *testing.T) {
	r := newSource(2)
	for n := 1; n <= 40; n++ {
		for m := 1; m <= n; m++ {
			path := make([]api.Hash, len(extension(m, words(n), true)))
			for i := range path {
				path[i] = sum(words(40)[r.IntN(40)])
			}
			old := sum("old")
			first, root, rest, ok := extended(m, n, true, old, path)
			if !ok || len(rest) > 0 {
				t.Fatalf("the path for %d of %d strings has a wrong length", m, n)
			}
			if !proof.VerifyExtend(first, root, m, n, path) {
				t.Errorf("forged hashes for %d of %d strings are not accepted", m, n)
			}
			if first != old && proof.VerifyExtend(old, root, m, n, path) {
				t.Errorf("another old hash for %d of %d strings is accepted", m, n)
			}
		}
	}
}

// A list that does not begin with the first strings has no proof.
func TestVerifyExtendOfAnotherBeginning(t *testing.T) {
	for n := 2; n < 20; n++ {
		for m := 1; m < n; m++ {
			for at := range m {
				other := slices.Clone(words(n))
				other[at] += "x"
				path, _ := proof.Extend(other, m)
				root, _ := proof.Root(other)
				if proof.VerifyExtend(treeHash(words(n)[:m]), root, m, n, path) {
					t.Errorf("a list of %d strings that differs at %d begins with %d strings", n, at, m)
				}
				path, _ = proof.Extend(words(n), m)
				if proof.VerifyExtend(treeHash(words(n)[:m]), root, m, n, path) {
					t.Errorf("a list of %d strings that differs at %d begins with %d strings", n, at, m)
				}
			}
		}
	}
}
