package journal_test

import (
	"math"
	"math/rand/v2"
	"slices"
	"strings"
	"testing"

	"guilloche/api"
	"guilloche/journal"
)

// plan is a model of a disk: of each block, all contents since the durable one.
type plan struct {
	blocks [][]string
	off    bool
	fuse   int // negative if there is none
}

func newPlan(blocks int) *plan {
	p := &plan{fuse: -1}
	for range blocks {
		p.blocks = append(p.blocks, []string{padded("")})
	}
	return p
}

func padded(data string) string { return data + strings.Repeat("\x00", api.BlockSize-len(data)) }

func (p *plan) clone() *plan {
	out := &plan{off: p.off, fuse: p.fuse}
	for _, list := range p.blocks {
		out.blocks = append(out.blocks, slices.Clone(list))
	}
	return out
}

func (p *plan) isBlock(block int) bool { return block >= 0 && block < len(p.blocks) }

func (p *plan) read(block int) (string, api.Errno) {
	if p.off {
		return "", api.ErrOff
	}
	if !p.isBlock(block) {
		return "", api.ErrRange
	}
	list := p.blocks[block]
	return list[len(list)-1], api.OK
}

func (p *plan) write(block int, data string) api.Errno {
	switch {
	case p.off:
		return api.ErrOff
	case !p.isBlock(block):
		return api.ErrRange
	case len(data) > api.BlockSize:
		return api.ErrArg
	case p.fuse == 0:
		p.off = true
		return api.ErrOff
	}
	p.fuse--
	p.blocks[block] = append(p.blocks[block], padded(data))
	return api.OK
}

func (p *plan) sync() api.Errno {
	if p.off {
		return api.ErrOff
	}
	if p.fuse == 0 {
		p.off = true
		return api.ErrOff
	}
	p.fuse--
	for i, list := range p.blocks {
		p.blocks[i] = list[len(list)-1:]
	}
	return api.OK
}

func (p *plan) setFuse(calls int) api.Errno {
	if p.off {
		return api.ErrOff
	}
	p.fuse = calls
	if calls < 0 {
		p.fuse = -1
	}
	return api.OK
}

func (p *plan) crash(keep []int) {
	at := 0
	for i, list := range p.blocks {
		if len(list) == 1 {
			continue
		}
		k := 0
		if len(keep) > 0 {
			k = keep[at%len(keep)]
		}
		if k < 0 {
			k = 0
		}
		if k > len(list)-1 {
			k = len(list) - 1
		}
		p.blocks[i] = list[k : k+1]
		at++
	}
	p.off, p.fuse = false, -1
}

// compare checks all that can be read of the disk.
func (p *plan) compare(t *testing.T, d *journal.Disk) {
	t.Helper()
	if d.Blocks() != len(p.blocks) || d.Off() != p.off {
		t.Fatalf("%d blocks, off: %t; not %d, %t", d.Blocks(), d.Off(), len(p.blocks), p.off)
	}
	for i := -1; i <= len(p.blocks); i++ {
		got, err := d.Read(i)
		if want, wrong := p.read(i); got != want || err != wrong {
			t.Fatalf("Read(%d) = %q, %d; not %q, %d", i, got, err, want, wrong)
		}
	}
}

func randomKeep(r *rand.Rand) []int {
	var keep []int
	for range r.IntN(5) {
		keep = append(keep, []int{0, 0, 1, 1, 2, 3, r.IntN(6), -1, math.MinInt, many}[r.IntN(10)])
	}
	return keep
}

// step performs a random call for both.
func step(t *testing.T, r *rand.Rand, d *journal.Disk, p *plan) {
	t.Helper()
	switch r.IntN(12) {
	case 0, 1:
		expect(t, "Sync", d.Sync(), p.sync())
	case 2:
		calls := []int{r.IntN(10), r.IntN(10), -1, math.MinInt, many}[r.IntN(5)]
		expect(t, "Fuse", d.Fuse(calls), p.setFuse(calls))
	case 3:
		keep := randomKeep(r)
		before := slices.Clone(keep)
		expect(t, "Crash", d.Crash(keep), api.OK)
		p.crash(keep)
		if !slices.Equal(keep, before) {
			t.Fatalf("Crash has changed its argument to %v", keep)
		}
	default:
		block := r.IntN(len(p.blocks)+4) - 2
		data := random(r, r.IntN(api.BlockSize+3))
		expect(t, "Write", d.Write(block, data), p.write(block, data))
	}
}

func TestDisk(t *testing.T) {
	r := newSource(1)
	for range 60 {
		blocks := 8 + r.IntN(5)
		disks, plans := []*journal.Disk{newDisk(t, blocks)}, []*plan{newPlan(blocks)}
		for range 150 {
			at := r.IntN(len(disks))
			if len(disks) < 4 && r.IntN(20) == 0 {
				disks, plans = append(disks, disks[at].Clone()), append(plans, plans[at].clone())
			}
			step(t, r, disks[at], plans[at])
			for i := range disks {
				plans[i].compare(t, disks[i])
			}
		}
	}
}

func TestNewDisk(t *testing.T) {
	for _, blocks := range []int{8, 9, 100, 4095, 4096} {
		newPlan(blocks).compare(t, newDisk(t, blocks))
	}
	for _, blocks := range []int{math.MinInt, -8, -1, 0, 1, 7, 4097, 1 << 40, math.MaxInt} {
		if d, err := journal.NewDisk(blocks); d != nil || err != api.ErrArg {
			t.Errorf("NewDisk(%d) = %v, %d", blocks, d, err)
		}
	}
}

func TestUnusableDisk(t *testing.T) {
	for _, d := range []*journal.Disk{nil, {}} {
		if d.Blocks() != 0 || d.Off() || d.Clone() != nil {
			t.Errorf("an unusable disk: %d, %t, %v", d.Blocks(), d.Off(), d.Clone())
		}
		for _, block := range []int{-1, 0, 8} {
			content, err := d.Read(block)
			if content != "" || err != api.ErrUnusable {
				t.Errorf("Read(%d) = %q, %d", block, content, err)
			}
			expect(t, "Write", d.Write(block, strings.Repeat("a", 65)), api.ErrUnusable)
		}
		expect(t, "Sync", d.Sync(), api.ErrUnusable)
		expect(t, "Fuse", d.Fuse(1), api.ErrUnusable)
		expect(t, "Fuse", d.Fuse(-1), api.ErrUnusable)
		expect(t, "Crash", d.Crash(nil), api.ErrUnusable)
		expect(t, "Crash", d.Crash([]int{1}), api.ErrUnusable)
		expect(t, "Format", journal.Format(d), api.ErrUnusable)
		if j, err := journal.Open(d); j != nil || err != api.ErrUnusable {
			t.Errorf("Open = %v, %d", j, err)
		}
	}
}

func TestDiskErrors(t *testing.T) {
	d := newDisk(t, 8)
	long := strings.Repeat("a", api.BlockSize+1)
	expect(t, "Write of a full block", d.Write(7, long[1:]), api.OK)
	d.Fuse(0)
	for _, block := range []int{math.MinInt, -1, 8, 9, math.MaxInt} {
		content, err := d.Read(block)
		if content != "" || err != api.ErrRange {
			t.Errorf("Read(%d) = %q, %d", block, content, err)
		}
		expect(t, "Write to no block", d.Write(block, ""), api.ErrRange)
		expect(t, "Write of too much to no block", d.Write(block, long), api.ErrRange)
	}
	expect(t, "Write of too much", d.Write(0, long), api.ErrArg)
	if d.Off() {
		t.Errorf("wrong calls have turned the disk off")
	}
	expect(t, "Write at the end of the fuse", d.Write(0, "a"), api.ErrOff)
	if !d.Off() {
		t.Errorf("the disk is on")
	}
	for _, block := range []int{-1, 0} {
		content, err := d.Read(block)
		if content != "" || err != api.ErrOff {
			t.Errorf("Read(%d) = %q, %d", block, content, err)
		}
		expect(t, "Write", d.Write(block, long), api.ErrOff)
	}
	expect(t, "Sync", d.Sync(), api.ErrOff)
	expect(t, "Fuse", d.Fuse(-1), api.ErrOff)
	expect(t, "Format", journal.Format(d), api.ErrOff)
	if j, err := journal.Open(d); j != nil || err != api.ErrOff {
		t.Errorf("Open = %v, %d", j, err)
	}
}

// use writes, or makes what was written durable.
func use(d *journal.Disk, i int) api.Errno {
	if i%2 == 0 {
		return d.Write(i, "a")
	}
	return d.Sync()
}

// A fuse lets exactly so many calls succeed, and wrong ones do not count. The call that turns the disk off has no other effect.
func TestFuse(t *testing.T) {
	for calls := range 6 {
		for _, earlier := range []int{-1, 0, 9} {
			d := newDisk(t, 8)
			d.Fuse(earlier)
			d.Fuse(calls)
			for i := range calls {
				d.Write(8, "")
				d.Write(0, strings.Repeat("a", api.BlockSize+1))
				d.Read(0)
				expect(t, "a call before the fuse's end", use(d, i), api.OK)
			}
			lost, kept := after(t, d, nil), after(t, d, []int{many})
			expect(t, "a call at the fuse's end", use(d, calls), api.ErrOff)
			if !d.Off() || !slices.Equal(after(t, d, nil), lost) || !slices.Equal(after(t, d, []int{many}), kept) {
				t.Errorf("off: %t, after %d calls", d.Off(), calls)
			}
		}
	}
}

func TestNoFuse(t *testing.T) {
	for _, calls := range []int{-1, -2, math.MinInt} {
		d := newDisk(t, 8)
		d.Fuse(2)
		expect(t, "Fuse", d.Fuse(calls), api.OK)
		for range 20 {
			expect(t, "Write", d.Write(0, "a"), api.OK)
			expect(t, "Sync", d.Sync(), api.OK)
		}
	}
}

// Which of several writes are kept, block by block.
func TestCrash(t *testing.T) {
	d := newDisk(t, 10)
	d.Write(5, "old")
	d.Sync()
	for _, block := range []int{9, 5, 2, 7} {
		for _, data := range []string{"a", "b", "c"}[:3-block/9] {
			d.Write(block, data)
		}
	}
	for _, x := range []struct {
		keep []int
		want [4]string // of the blocks 2, 5, 7 and 9
	}{
		{nil, [4]string{"", "old", "", ""}},
		{[]int{}, [4]string{"", "old", "", ""}},
		{[]int{0}, [4]string{"", "old", "", ""}},
		{[]int{1}, [4]string{"a", "a", "a", "a"}},
		{[]int{3}, [4]string{"c", "c", "c", "b"}},
		{[]int{many}, [4]string{"c", "c", "c", "b"}},
		{[]int{-1, math.MinInt, 2}, [4]string{"", "old", "b", ""}},
		{[]int{0, 1, 2, 3, 1, 1, 1}, [4]string{"", "a", "b", "b"}},
		{[]int{2, 1}, [4]string{"b", "a", "b", "a"}},
	} {
		for _, off := range []bool{false, true} {
			e := d.Clone()
			if off {
				e.Fuse(0)
				e.Sync()
			}
			if e.Off() != off {
				t.Fatalf("off: %t", e.Off())
			}
			expect(t, "Crash", e.Crash(x.keep), api.OK)
			for i, block := range []int{2, 5, 7, 9} {
				if got, err := e.Read(block); got != padded(x.want[i]) || err != api.OK {
					t.Errorf("after Crash(%v), off: %t: Read(%d) = %q, %d", x.keep, off, block, got, err)
				}
			}
			if !slices.Equal(after(t, e, nil), after(t, e, []int{many})) {
				t.Errorf("writes are pending after a crash")
			}
		}
	}
}

func TestCrashRemovesTheFuse(t *testing.T) {
	for calls := range 3 {
		d := newDisk(t, 8)
		d.Fuse(calls)
		d.Crash(nil)
		for range 5 {
			expect(t, "Write", d.Write(0, "a"), api.OK)
			expect(t, "Sync", d.Sync(), api.OK)
		}
	}
}

// Of a disk and its clone, neither sees what is written on the other one, however many writes were pending before.
func TestClonesOfDisks(t *testing.T) {
	for writes := range 9 {
		d := newDisk(t, 8)
		for range writes {
			d.Write(3, "both")
		}
		e := d.Clone()
		d.Write(3, "first")
		e.Write(3, "second")
		for range 2 {
			for disk, want := range map[*journal.Disk]string{d: "first", e: "second"} {
				if got, _ := disk.Read(3); got != padded(want) {
					t.Errorf("after %d writes: %q, not %q", writes, got, want)
				}
				disk.Crash([]int{many})
			}
		}
	}
}
