package proof_test

import (
	"encoding/hex"
	"math"
	"slices"
	"strings"
	"testing"

	"guilloche/api"
	"guilloche/proof"
)

func TestRoot(t *testing.T) {
	for n := range 70 {
		root, err := proof.Root(words(n))
		checkHash(t, "Root", root, err, treeHash(words(n)), api.OK)
		root, err = proof.Root(make([]string, n))
		checkHash(t, "Root of empty strings", root, err, treeHash(make([]string, n)), api.OK)
	}
	for _, n := range lengths() {
		root, err := proof.Root(words(n))
		checkHash(t, "Root", root, err, treeHash(words(n)), api.OK)
	}
	root, err := proof.Root(nil)
	checkHash(t, "Root(nil)", root, err, sum(""), api.OK)
	long := []string{strings.Repeat("x", 1<<20), strings.Repeat("y", 1<<20)}
	root, err = proof.Root(long)
	checkHash(t, "Root of long strings", root, err, treeHash(long), api.OK)
}

// The test vectors of the first implementation of RFC 6962.
func TestRootOfKnownLists(t *testing.T) {
	list := []string{"", "\x00", "\x10", "\x20\x21", "\x30\x31", "\x40\x41\x42\x43", "PQRSTUVW", "`abcdefghijklmno"}
	for n, want := range []string{
		"e3b0c44298fc1c149afbf4c8996fb92427ae41e4649b934ca495991b7852b855",
		"6e340b9cffb37a989ca544e6bb780a2c78901d3fb33738768511a30617afa01d",
		"fac54203e7cc696cf0dfcb42c92a1d9dbaf70ad9e621f4bd8d98662f00e3c125",
		"aeb6bcfe274b70a14fb067a5e5578264db0fa9b51af5e0ba159158f329e06e77",
		"d37ee418976dd95753c1c73862b9398fa2a2cf9b4ff0fdfe8b30cd95209614b7",
		"4e3bbb1f7b478dcfe71fb631631519a3bca12c9aefca1612bfce4c13a86264d4",
		"76e67dadbcdf1e10e1b74ddc608abd2f98dfb16fbce75277b5232a127f2087ef",
		"ddb89be403809e325750d3d263cd78929c2942b7942a34b77e122c9594a74c8c",
		"5dc9da79a70659a9ad559cb701ded9a2ab9d823aad2f4960cfe370eff4604328",
	} {
		root, err := proof.Root(list[:n])
		if got := hex.EncodeToString(root[:]); got != want || err != api.OK {
			t.Errorf("Root of %d strings = %s, %d; not %s", n, got, err, want)
		}
	}
}

func TestProve(t *testing.T) {
	for n := range 40 {
		for i := range n {
			path, err := proof.Prove(words(n), i)
			checkPath(t, "Prove", path, err, outerHashes(words(n), i, i+1), api.OK)
		}
		for _, i := range odd(n) {
			path, err := proof.Prove(words(n), i)
			checkPath(t, "Prove", path, err, nil, api.ErrRange)
		}
	}
	for _, n := range lengths() {
		for _, i := range somePositions(n) {
			path, err := proof.Prove(words(n), i)
			checkPath(t, "Prove", path, err, outerHashes(words(n), i, i+1), api.OK)
		}
	}
	path, err := proof.Prove(nil, 0)
	checkPath(t, "Prove(nil, 0)", path, err, nil, api.ErrRange)
}

func TestProveExample(t *testing.T) {
	list := words(7)
	path, err := proof.Prove(list, 4)
	checkPath(t, "Prove", path, err, []api.Hash{treeHash(list[:4]), treeHash(list[5:6]), treeHash(list[6:])}, api.OK)
}

// ErrFull comes before ErrRange.
func TestTooManyStrings(t *testing.T) {
	for _, n := range []int{api.MaxRuns + 1, 3 * api.MaxRuns} {
		list := words(n)
		root, err := proof.Root(list)
		checkHash(t, "Root", root, err, api.Hash{}, api.ErrFull)
		for _, i := range append(odd(n), 0, 1, n-1) {
			path, err := proof.Prove(list, i)
			checkPath(t, "Prove", path, err, nil, api.ErrFull)
			path, err = proof.Extend(list, i)
			checkPath(t, "Extend", path, err, nil, api.ErrFull)
		}
		// Right proofs are not accepted for so many strings.
		if path := outerHashes(list, 1, 2); proof.Verify(treeHash(list), list[1], 1, n, path) {
			t.Errorf("Verify accepts a list of %d strings", n)
		}
		if path := extension(5, list, true); proof.VerifyExtend(treeHash(list[:5]), treeHash(list), 5, n, path) {
			t.Errorf("VerifyExtend accepts a list of %d strings", n)
		}
	}
}

func TestVerify(t *testing.T) {
	for n := range 20 {
		for i := range n {
			checkVerify(t, words(n), i)
		}
	}
	for _, n := range lengths() {
		for _, i := range somePositions(n) {
			checkVerify(t, words(n), i)
		}
	}
}

// checkVerify checks that a proof is accepted, and is not if anything of it is changed.
func checkVerify(t *testing.T, list []string, i int) {
	t.Helper()
	n, root := len(list), treeHash(list)
	path, err := proof.Prove(list, i)
	if err != api.OK || !proof.Verify(root, list[i], i, n, path) {
		t.Errorf("the proof of %d in %d strings is not accepted: %d", i, n, err)
	}
	for _, bad := range spoiled(path) {
		if proof.Verify(root, list[i], i, n, bad) {
			t.Errorf("a wrong proof of %d in %d strings is accepted: %x", i, n, bad)
		}
	}
	for bit := range 256 {
		if proof.Verify(flipped(root, bit), list[i], i, n, path) {
			t.Errorf("the proof of %d in %d strings is accepted for another root", i, n)
		}
	}
	for _, entry := range []string{list[i] + "\x00", "\x00" + list[i], list[i] + list[i] + "x", string(root[:])} {
		if proof.Verify(root, entry, i, n, path) {
			t.Errorf("the proof of %d in %d strings is accepted for %q", i, n, entry)
		}
	}
	for _, other := range append(odd(n), i-1, i+1, i^1, n-1-i) {
		if other != i && proof.Verify(root, list[i], other, n, path) {
			t.Errorf("the proof of %d in %d strings is accepted for the position %d", i, n, other)
		}
	}
	for _, other := range []int{0, -1, i, math.MinInt, math.MaxInt} {
		if proof.Verify(root, list[i], i, other, path) {
			t.Errorf("the proof of %d in %d strings is accepted for %d strings", i, n, other)
		}
	}
}

// What is accepted for other numbers depends on entry and path alone: this is computed here by a search for the root.
func TestVerifyOfOtherNumbers(t *testing.T) {
	const most = 17
	for n := 1; n <= most; n++ {
		for i := range n {
			root, path := treeHash(words(n)), outerHashes(words(n), i, i+1)
			for other := 1; other <= most; other++ {
				for at := range other {
					hash, rest, ok := rebuilt(other, at, words(n)[i], path)
					want := ok && len(rest) == 0 && hash == root
					if proof.Verify(root, words(n)[i], at, other, path) != want {
						t.Errorf("Verify of %d in %d for %d in %d is not %v", i, n, at, other, want)
					}
				}
			}
		}
	}
}

// rebuilt returns the tree hash of n strings with the entry at the position i, what is left of the path, and whether it is long enough.
func rebuilt(n, i int, entry string, path []api.Hash) (api.Hash, []api.Hash, bool) {
	if i < 0 || i >= n {
		if len(path) == 0 {
			return api.Hash{}, nil, false
		}
		return path[0], path[1:], true
	}
	if n == 1 {
		return sum("\x00" + entry), path, true
	}
	k := firstLength(n)
	left, rest, ok := rebuilt(k, i, entry, path)
	if !ok {
		return api.Hash{}, nil, false
	}
	right, rest, ok := rebuilt(n-k, i-k, entry, rest)
	return nodeHash(left, right), rest, ok
}

func TestVerifyOfOddNumbers(t *testing.T) {
	numbers := append(odd(api.MaxRuns), 0, 1, 2, api.MaxRuns-1)
	for _, i := range numbers {
		for _, n := range numbers {
			for _, path := range [][]api.Hash{nil, {}, {sum("")}, make([]api.Hash, 12), make([]api.Hash, 13), make([]api.Hash, 64)} {
				want := i == 0 && n == 1 && len(path) == 0
				if proof.Verify(sum("\x00x"), "x", i, n, path) != want {
					t.Errorf("Verify for %d in %d with %d hashes is not %v", i, n, len(path), want)
				}
			}
		}
	}
}

// A path of a wrong length proves nothing, whatever the root is.
func TestPathsOfWrongLengths(t *testing.T) {
	for _, length := range []int{0, 1, 2, 4, 5, 100} {
		path := make([]api.Hash, length)
		if proof.Verify(api.Hash{}, "", 0, 8, path) || proof.VerifyExtend(api.Hash{}, api.Hash{}, 5, 8, path) {
			t.Errorf("%d hashes are accepted", length)
		}
		c := api.Claim{Run: api.Run{Lo: 0, Hi: 1, Tag: 1}, Count: 8, Size: 20, Path: path}
		tag, ok := proof.Accept(mapHash(20, 8, api.Hash{}), 0, c)
		checkTag(t, 0, c, tag, ok, 0, false)
		tag, ok = proof.Accept(api.Hash{}, 0, c)
		checkTag(t, 0, c, tag, ok, 0, false)
	}
}

// A string that looks like two hashes is not taken for them, nor two hashes for a string.
func TestKindsOfHashesDiffer(t *testing.T) {
	list := words(2)
	one, two := treeHash(list[:1]), treeHash(list[1:])
	inner := string(one[:]) + string(two[:])
	if proof.Verify(treeHash(list), inner, 0, 1, nil) || proof.Verify(treeHash(list), "\x01"+inner, 0, 1, nil) {
		t.Error("two hashes are accepted as an entry")
	}
	root, _ := proof.Root([]string{inner})
	if root == treeHash(list) || root == proof.Sum(inner) {
		t.Error("an entry has the hash of two hashes")
	}
	root, _ = proof.Root([]string{""})
	if root == proof.Sum("") {
		t.Error("a list of an empty string has the tree hash of an empty list")
	}
}

func TestListsAreNotChanged(t *testing.T) {
	list := words(11)
	path, _ := proof.Prove(list, 6)
	kept := slices.Clone(path)
	proof.Root(list)
	other, _ := proof.Extend(list, 6)
	proof.Verify(treeHash(list), list[6], 6, 11, path)
	proof.VerifyExtend(treeHash(list[:6]), treeHash(list), 6, 11, path)
	if !slices.Equal(list, words(11)) || !slices.Equal(path, kept) {
		t.Error("an argument was changed")
	}
	clear(path)
	clear(other)
	again, err := proof.Prove(list, 6)
	checkPath(t, "Prove", again, err, kept, api.OK)
}
