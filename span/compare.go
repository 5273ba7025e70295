package span

import (
	"iter"

	"guilloche/api"
)

// all visits the runs of the map, in ascending order.
func (m Map) all() iter.Seq[api.Run] { return m.root.within(0, m.size) }

// Equal reports whether the maps have the same size and the same tags. Two unusable maps are equal.
func Equal(a, b Map) bool {
	if a.size != b.size {
		return false
	}
	for run := range a.all() {
		if run != b.root.at(run.Lo) {
			return false
		}
	}
	return true
}

// Diff returns the changes from a to b, in ascending order.
func Diff(a, b Map) ([]api.Change, api.Errno) {
	if err := checkSizes(a, b); err != api.OK {
		return nil, err
	}
	var out []api.Change
	for old := range a.all() {
		for run := range b.root.within(old.Lo, old.Hi) {
			if run.Tag != old.Tag {
				out = append(out, api.Change{Lo: run.Lo, Hi: run.Hi, From: old.Tag, To: run.Tag})
			}
		}
	}
	return out, api.OK
}

// Apply performs the changes one after the other.
func Apply(m Map, l []api.Change) (Map, api.Errno) {
	if !m.isUsable() {
		return Map{}, api.ErrUnusable
	}
	for _, c := range l {
		next, err := m.change(c)
		if err != api.OK {
			return Map{}, err
		}
		m = next
	}
	return m, api.OK
}

func (m Map) change(c api.Change) (Map, api.Errno) {
	if c.Lo == c.Hi {
		return Map{}, api.ErrRange
	}
	if err := m.check(c.Lo, c.Hi, c.From, c.To); err != api.OK {
		return Map{}, err
	}
	run := m.root.at(c.Lo)
	if run.Tag != c.From || run.Hi < c.Hi {
		return Map{}, api.ErrConflict
	}
	return m.Set(c.Lo, c.Hi, c.To)
}

// Merge combines two updates of base. The second result is the conflicts, in ascending order.
func Merge(base, a, b Map) (Map, []api.Change, api.Errno) {
	if err := checkSizes(base, a, b); err != api.OK {
		return Map{}, nil, err
	}
	var runs []api.Run
	var conflicts []api.Change
	for old := range base.all() {
		for x := range a.root.within(old.Lo, old.Hi) {
			for y := range b.root.within(x.Lo, x.Hi) {
				tag, ok := mergeTags(old.Tag, x.Tag, y.Tag)
				runs = addRun(runs, api.Run{Lo: y.Lo, Hi: y.Hi, Tag: tag})
				if !ok {
					conflicts = addChange(conflicts, api.Change{Lo: y.Lo, Hi: y.Hi, From: x.Tag, To: y.Tag})
				}
			}
		}
	}
	if len(runs) > api.MaxRuns {
		return Map{}, nil, api.ErrFull
	}
	return Map{build(runs), base.size}, conflicts, api.OK
}

// checkSizes returns ErrUnusable if a map is unusable, and ErrArg if the sizes are not all equal.
func checkSizes(maps ...Map) api.Errno {
	for _, m := range maps {
		if !m.isUsable() {
			return api.ErrUnusable
		}
	}
	for _, m := range maps {
		if m.size != maps[0].size {
			return api.ErrArg
		}
	}
	return api.OK
}

// mergeTags returns the tag of a piece after a merge; and false if it is in conflict.
func mergeTags(base, a, b int) (int, bool) {
	switch {
	case a == b || b == base:
		return a, true
	case a == base:
		return b, true
	}
	return base, false
}

// addRun appends a run, or makes the last one longer if that has the same tag.
func addRun(list []api.Run, run api.Run) []api.Run {
	if n := len(list); n > 0 && list[n-1].Tag == run.Tag {
		list[n-1].Hi = run.Hi
		return list
	}
	return append(list, run)
}

// addChange appends a change, or makes the last one longer if that is next to it and has the same tags. (Pieces in conflict may differ in their tags in base alone.)
func addChange(list []api.Change, c api.Change) []api.Change {
	if n := len(list); n > 0 {
		last := &list[n-1]
		if last.Hi == c.Lo && last.From == c.From && last.To == c.To {
			last.Hi = c.Hi
			return list
		}
	}
	return append(list, c)
}
