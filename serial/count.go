package serial

import "guilloche/api"

// counter returns in how many ways a serial that matches a mask can go on from a place. It returns tooMany instead of any greater number, so that no scheme makes it overflow.
type counter func(place) int

const tooMany = api.MaxPieces + 1

// counter returns the counter for the mask. It remembers its results.
func (r *series) counter(mask []int) counter {
	known := map[place]int{}
	last := free
	if r.check {
		last = mask[r.length]
	}
	var count counter
	count = func(p place) int {
		if last == free {
			p.check = 0 // Places that differ only in this have the same result, and are to share it.
		}
		if p.at == r.length {
			if last == free || last == r.lastCheck(p.check) {
				return 1
			}
			return 0
		}
		n, ok := known[p]
		if ok {
			return n
		}
		for _, next := range r.steps(p, mask[p.at]) {
			more := count(next)
			n = min(n+more, tooMany)
		}
		known[p] = n
		return n
	}
	return count
}

// pick returns the body of the serial that matches the mask and for which exactly k others that match it are less. The counter is that of the mask, and counts more than k.
func (r *series) pick(mask []int, count counter, k int) []int {
	var body []int
	p := r.start()
	for i := range r.length {
		for v, next := range r.steps(p, mask[i]) {
			n := count(next)
			if k < n {
				body = append(body, v)
				p = next
				break
			}
			k -= n
		}
	}
	return body
}

// below returns how many serials that match the mask are less than the one with that body. The counter is that of the mask.
func (r *series) below(mask []int, count counter, body []int) int {
	total := 0
	p := r.start()
	for i, end := range body {
		for v, next := range r.steps(p, mask[i]) {
			if v < end {
				total += count(next)
			}
		}
		if mask[i] != free && mask[i] != end {
			return total
		}
		p, _ = r.step(p, end)
	}
	return total
}
