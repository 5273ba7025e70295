package journal

import (
	"cmp"
	"slices"
)

// An area is one half of a disk, unit by unit: a state, followed by records. A checkpoint is written to the area that is not in use; it counts as soon as all of its units are on the disk, because its stamp is the greater one then.
//
// A crash keeps any of the blocks that were written last, among what they and the others contained before. Nothing is cleared after that. Instead, whatever is written between two openings or checkpoints has a stamp of its own, greater than all stamps that were on the disk. A string whose units differ in their stamps is mixed of several strings; and a record whose stamp is less than that of the unit before it was left there by something older. Neither of them counts.
type area []unit

// areaSize returns how many units each area of the disk has.
func areaSize(d *Disk) int { return (d.Blocks() - 2) / 2 }

// place returns the block that contains a unit of the area with that number, which is 0 or 1.
func place(d *Disk, number, at int) int { return number*areaSize(d) + at }

func readArea(d *Disk, number int) area {
	out := make(area, areaSize(d))
	for at := range out {
		content, _ := d.Read(place(d, number, at))
		out[at] = decode(content)
	}
	return out
}

// text returns the string that begins at a unit, and whether all of it is there.
func (a area) text(at int) (string, bool) {
	if at >= len(a) {
		return "", false
	}
	first := a[at].head
	count := unitsOf(first.size)
	if count > len(a)-at {
		return "", false
	}
	var out []byte
	for _, u := range a[at : at+count] {
		if u.head != first {
			return "", false
		}
		out = append(out, u.data[:]...)
	}
	return string(out[:first.size]), true
}

// begun returns the stamp of the area's state, or 0 if it has none.
func (a area) begun() uint64 {
	if _, ok := a.text(0); !ok {
		return 0
	}
	return a[0].stamp
}

// latest returns the greatest stamp in the area.
func (a area) latest() uint64 {
	return slices.MaxFunc(a, func(x, y unit) int { return cmp.Compare(x.stamp, y.stamp) }).stamp
}

// contents returns the state, the records, and how many units they take.
func (a area) contents() (state string, records []string, used int) {
	state, _ = a.text(0)
	used = unitsOf(len(state))
	for {
		record, ok := a.text(used)
		if !ok || a[used].stamp < a[used-1].stamp {
			return state, records, used
		}
		records = append(records, record)
		used += unitsOf(len(record))
	}
}
