package serial

// The check character is that of the hybrid systems of ISO/IEC 7064.

// nextCheck returns what the number p of the check character becomes by the value v.
func (r *series) nextCheck(p, v int) int {
	m := len(r.alphabet)
	sum := (p + v) % m
	if sum == 0 {
		sum = m
	}
	return 2 * sum % (m + 1)
}

// lastCheck returns the value of the check character after the number p, which is from 1 to the number of bytes of the alphabet.
func (r *series) lastCheck(p int) int {
	m := len(r.alphabet)
	return (m + 1 - p) % m
}

func (r *series) checkOf(body []int) int {
	p := len(r.alphabet)
	for _, v := range body {
		p = r.nextCheck(p, v)
	}
	return r.lastCheck(p)
}
