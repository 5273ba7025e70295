package serial

import (
	"iter"
	"slices"
	"strings"

	"guilloche/api"
)

// series is the serials of a valid scheme. It handles bytes as their values.
type series struct {
	alphabet string
	length   int // bytes of a body
	check    bool
	moves    automaton
	all      counter // counts all serials
}

// free is what a mask has instead of a value where it is `?`: the index of what is not in the alphabet.
const free = -1

// place is how far a body has been read: the number of its bytes, the state of the automaton, and the number p from which the check character is determined.
type place struct {
	at, state, check int
}

// newSeries returns the series of a valid scheme; otherwise, why the scheme is not valid.
func newSeries(s api.Scheme) (*series, api.Errno) {
	if !isWellFormed(s) {
		return nil, api.ErrScheme
	}
	r := &series{alphabet: s.Alphabet, length: s.Length, check: s.Check}
	var banned [][]int
	for _, ban := range s.Banned {
		banned = append(banned, r.values(ban))
	}
	r.moves = newAutomaton(banned, len(r.alphabet))
	r.all = r.counter(r.anything())
	if n := r.total(); n < 1 || n > api.MaxPieces {
		return nil, api.ErrRange
	}
	return r, api.OK
}

// size returns the number of bytes of a serial.
func (r *series) size() int {
	if r.check {
		return r.length + 1
	}
	return r.length
}

func (r *series) total() int { return r.all(r.start()) }

func (r *series) start() place { return place{check: len(r.alphabet)} }

// values returns the values of the signs of text, and free for each that is not in the alphabet.
func (r *series) values(text string) []int {
	var out []int
	for _, sign := range text {
		out = append(out, strings.IndexRune(r.alphabet, sign))
	}
	return out
}

// readWord returns the values of the bytes of text, and whether it consists of so many bytes of the alphabet.
func (r *series) readWord(text string, size int) ([]int, bool) {
	if len(text) != size || !consistsOf(text, r.alphabet) {
		return nil, false
	}
	return r.values(text), true
}

// readMask is like readWord for a mask.
func (r *series) readMask(mask string) ([]int, bool) {
	if len(mask) != r.size() || !consistsOf(mask, r.alphabet+"?") {
		return nil, false
	}
	return r.values(mask), true
}

// anything returns the mask that all serials match.
func (r *series) anything() []int { return slices.Repeat([]int{free}, r.size()) }

// text returns the serial with that body.
func (r *series) text(body []int) string {
	var out []byte
	for _, v := range body {
		out = append(out, r.alphabet[v])
	}
	if r.check {
		out = append(out, r.alphabet[r.checkOf(body)])
	}
	return string(out)
}

// step returns the place after the value v, and whether no banned string is completed by it.
func (r *series) step(p place, v int) (place, bool) {
	state, ok := r.moves[[2]int{p.state, v}]
	return place{p.at + 1, state, r.nextCheck(p.check, v)}, ok
}

// steps visits, in ascending order, the values that may follow at p and match sign, a value or free, with the places to which they lead.
func (r *series) steps(p place, sign int) iter.Seq2[int, place] {
	return func(yield func(int, place) bool) {
		for v := range len(r.alphabet) {
			if sign != free && sign != v {
				continue
			}
			if next, ok := r.step(p, v); ok && !yield(v, next) {
				return
			}
		}
	}
}

// allows reports whether no banned string occurs in body.
func (r *series) allows(body []int) bool {
	p := r.start()
	for _, v := range body {
		next, ok := r.step(p, v)
		if !ok {
			return false
		}
		p = next
	}
	return true
}

// endsWell reports whether the check character of word, if it has one, is that of its body.
func (r *series) endsWell(word []int) bool {
	return !r.check || word[r.length] == r.checkOf(word[:r.length])
}

// neighbors returns the serials that differ from word at exactly one position, in ascending order.
func (r *series) neighbors(word []int) [][]int {
	var out [][]int
	for i, old := range word {
		for v := range len(r.alphabet) {
			near := slices.Clone(word)
			near[i] = v
			if v != old && r.endsWell(near) && r.allows(near[:r.length]) {
				out = append(out, near)
			}
		}
	}
	slices.SortFunc(out, slices.Compare)
	return out
}
