package serial

import "maps"

// automaton recognizes banned strings. Its keys are a state and the value of a byte, and it leads to the next state; it has no entry where a banned string would be completed. State 0 is the first one.
type automaton map[[2]int]int

// tree becomes an automaton. Each of its states stands for a beginning of a banned string: the longest one with which what was read ends.
type tree struct {
	moves automaton
	ends  []bool // per state: whether it ends with a banned string
}

// newAutomaton returns the automaton for the banned strings, as values of an alphabet of so many bytes.
func newAutomaton(banned [][]int, letters int) automaton {
	t := tree{automaton{}, []bool{false}}
	for _, ban := range banned {
		t.add(ban)
	}
	t.complete(letters)
	maps.DeleteFunc(t.moves, func(_ [2]int, next int) bool { return t.ends[next] })
	return t.moves
}

func (t *tree) add(ban []int) {
	state := 0
	for _, v := range ban {
		key := [2]int{state, v}
		next, ok := t.moves[key]
		if !ok {
			next = len(t.ends)
			t.moves[key] = next
			t.ends = append(t.ends, false)
		}
		state = next
	}
	t.ends[state] = true
}

// complete adds the moves that leave the tree. It visits the shorter beginnings first, since the moves of a longer one that leave it are those of the longest shorter one with which it ends.
func (t *tree) complete(letters int) {
	shorter := make([]int, len(t.ends))
	queue := []int{0}
	for len(queue) > 0 {
		state := queue[0]
		queue = queue[1:]
		for v := range letters {
			aside := 0
			if state != 0 {
				aside = t.moves[[2]int{shorter[state], v}]
			}
			next, ok := t.moves[[2]int{state, v}]
			if !ok {
				t.moves[[2]int{state, v}] = aside
				continue
			}
			shorter[next] = aside
			t.ends[next] = t.ends[next] || t.ends[aside]
			queue = append(queue, next)
		}
	}
}
