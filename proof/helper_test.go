package proof_test

import (
	"crypto/sha256"
	"encoding/binary"
	"math"
	"math/rand/v2"
	"slices"
	"strconv"
	"testing"

	"guilloche/api"
	"guilloche/span"
)

// The tests compute what they expect with crypto/sha256, from the lists themselves, word by word as the chapter says it.

func sum(s string) api.Hash { return sha256.Sum256([]byte(s)) }

func nodeHash(left, right api.Hash) api.Hash { return sum("\x01" + string(left[:]) + string(right[:])) }

// firstLength returns the greatest power of two that is less than n.
func firstLength(n int) int {
	k := 1
	for 2*k < n {
		k *= 2
	}
	return k
}

func treeHash(list []string) api.Hash {
	switch len(list) {
	case 0:
		return sum("")
	case 1:
		return sum("\x00" + list[0])
	}
	k := firstLength(len(list))
	return nodeHash(treeHash(list[:k]), treeHash(list[k:]))
}

// outerHashes returns the outer hashes of a list for the positions from i to j - 1.
func outerHashes(list []string, i, j int) []api.Hash {
	n := len(list)
	if j <= 0 || i >= n || i >= j {
		return []api.Hash{treeHash(list)}
	}
	if i <= 0 && j >= n {
		return nil
	}
	k := firstLength(n)
	return slices.Concat(outerHashes(list[:k], i, j), outerHashes(list[k:], i-k, j-k))
}

// extension is P of the chapter.
func extension(m int, list []string, whole bool) []api.Hash {
	n := len(list)
	if m == n && whole {
		return nil
	}
	if m == n {
		return []api.Hash{treeHash(list)}
	}
	k := firstLength(n)
	if m <= k {
		return append(extension(m, list[:k], whole), treeHash(list[k:]))
	}
	return append(extension(m-k, list[k:], false), treeHash(list[:k]))
}

func leaf(run api.Run) string {
	out := binary.BigEndian.AppendUint64(nil, uint64(run.Lo))
	out = binary.BigEndian.AppendUint64(out, uint64(run.Hi))
	return string(append(out, byte(run.Tag)))
}

func leaves(runs []api.Run) []string {
	var out []string
	for _, run := range runs {
		out = append(out, leaf(run))
	}
	return out
}

func mapHash(size, count int, root api.Hash) api.Hash {
	out := binary.BigEndian.AppendUint64([]byte{2}, uint64(size))
	out = binary.BigEndian.AppendUint64(out, uint64(count))
	return sum(string(append(out, root[:]...)))
}

func newSource(seed uint64) *rand.Rand { return rand.New(rand.NewPCG(9, seed)) }

// words returns a list of n different strings, some of which are the bytes of hashes.
func words(n int) []string {
	out := make([]string, n)
	for i := range out {
		out[i] = strconv.Itoa(i)
		if i%3 == 1 {
			hash := sum(out[i])
			out[i] = string(hash[:])
		}
	}
	if n > 2 {
		out[2] = ""
	}
	return out
}

// lengths returns how many strings the lists of the tests have, up to the limit.
func lengths() []int { return []int{1023, 1024, 1025, 2731, api.MaxRuns - 1, api.MaxRuns} }

// somePositions returns positions of a list of n strings, near those where its tree is divided.
func somePositions(n int) []int {
	var out []int
	for _, at := range []int{0, 1, 2, 511, 512, 1023, 1024, 1025, 2047, 2048, 3071, 3072, n / 3, n - 2, n - 1} {
		if at >= 0 && at < n {
			out = append(out, at)
		}
	}
	slices.Sort(out)
	return slices.Compact(out)
}

// odd returns numbers that are no positions of a list of n strings.
func odd(n int) []int {
	return []int{-1, n, n + 1, math.MinInt, math.MinInt + 1, math.MaxInt - 1, math.MaxInt}
}

func checkHash(t *testing.T, what string, got api.Hash, err api.Errno, want api.Hash, wantErr api.Errno) {
	t.Helper()
	if got != want || err != wantErr {
		t.Errorf("%s = %x, %d; not %x, %d", what, got, err, want, wantErr)
	}
}

func checkPath(t *testing.T, what string, got []api.Hash, err api.Errno, want []api.Hash, wantErr api.Errno) {
	t.Helper()
	if !slices.Equal(got, want) || err != wantErr {
		t.Errorf("%s = %x, %d; not %x, %d", what, got, err, want, wantErr)
	}
}

// flipped returns a hash in which one bit differs.
func flipped(h api.Hash, bit int) api.Hash {
	h[bit/8] ^= 1 << (bit % 8)
	return h
}

// spoiled returns paths in which a hash of this one was changed, omitted, added, or exchanged with the next one. (Two equal hashes are not exchanged.)
func spoiled(path []api.Hash) [][]api.Hash {
	var out [][]api.Hash
	for i := range path {
		for _, bit := range []int{0, 7, 100, 255} {
			other := slices.Clone(path)
			other[i] = flipped(other[i], bit)
			out = append(out, other)
		}
		out = append(out, slices.Delete(slices.Clone(path), i, i+1))
		if i > 0 && path[i] != path[i-1] {
			other := slices.Clone(path)
			other[i], other[i-1] = other[i-1], other[i]
			out = append(out, other)
		}
	}
	for i := range len(path) + 1 {
		out = append(out, slices.Insert(slices.Clone(path), i, api.Hash{}))
		if i < len(path) {
			out = append(out, slices.Insert(slices.Clone(path), i, path[i]))
		}
	}
	out = append(out, append(slices.Clone(path), sum("")), make([]api.Hash, 5000))
	if len(path) > 0 {
		out = append(out, nil, make([]api.Hash, len(path)))
	}
	return out
}

// newMap returns the map whose pieces have these tags, each for so many pieces.
func newMap(t *testing.T, tags []int, cell int) (span.Map, []api.Run) {
	t.Helper()
	var runs []api.Run
	for i, tag := range tags {
		if n := len(runs); n > 0 && runs[n-1].Tag == tag {
			runs[n-1].Hi += cell
		} else {
			runs = append(runs, api.Run{Lo: i * cell, Hi: (i + 1) * cell, Tag: tag})
		}
	}
	m, err := span.From(len(tags)*cell, runs)
	if err != api.OK {
		t.Fatalf("From = %d", err)
	}
	return m, runs
}

func randomTags(r *rand.Rand, cells, tags int) []int {
	out := make([]int, cells)
	for i := range out {
		out[i] = r.IntN(tags)
	}
	return out
}

// stripes returns so many tags that each cell is a run.
func stripes(cells int) []int {
	out := make([]int, cells)
	for i := range out {
		out[i] = i % 2 * (1 + i%15)
	}
	return out
}

// mapRoot returns the map hash of a map with these runs.
func mapRoot(runs []api.Run) api.Hash {
	return mapHash(runs[len(runs)-1].Hi, len(runs), treeHash(leaves(runs)))
}
