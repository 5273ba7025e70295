package journal_test

import (
	"math/rand/v2"
	"testing"

	"guilloche/api"
	"guilloche/journal"
)

// call stands for an Append (a) or a Checkpoint (k) of so many bytes, a Commit (c), or a Format followed by an Open (f).
type call struct {
	kind  byte
	bytes int
}

func scripts() [][]call {
	return [][]call{
		{{'a', 1}, {'a', 80}, {'a', 1}, {'c', 0}},
		{{'a', 41}, {'a', 81}, {'c', 0}},
		{{'a', 81}, {'a', 41}, {'c', 0}},
		{{'a', 1}, {'c', 0}, {'a', 1}, {'a', 1}, {'c', 0}},
		{{'k', 100}},
		{{'k', 0}, {'a', 1}, {'c', 0}, {'k', 50}},
		{{'a', 100}, {'k', 50}, {'a', 1}, {'a', 1}, {'c', 0}},
		{{'f', 0}, {'a', 41}, {'c', 0}},
		{{'a', 1}, {'a', 1}},
	}
}

// run performs calls until one of them turns the disk off, and reports whether none did.
func (b *bench) run(calls []call) bool {
	b.t.Helper()
	for _, c := range calls {
		ok := false
		switch c.kind {
		case 'a':
			ok = b.append(b.text(c.bytes))
		case 'c':
			ok = b.commit()
		case 'k':
			ok = b.checkpoint(b.text(c.bytes))
		case 'f':
			ok = b.format() && b.open()
		}
		if !ok {
			return false
		}
	}
	return true
}

// pendingBlocks returns how many blocks have pending writes.
func pendingBlocks(t *testing.T, d *journal.Disk) int {
	t.Helper()
	lost, kept := after(t, d, nil), after(t, d, []int{many})
	count := 0
	for i := range lost {
		if lost[i] != kept[i] {
			count++
		}
	}
	return count
}

// cuts performs the calls with every fuse that is too short for them, and with none, and passes on what each possible crash leaves, with its journal open.
func (b *bench) cuts(calls []call, visit func(b *bench)) {
	b.t.Helper()
	for fuse := 0; ; fuse++ {
		c := b.clone()
		if c.open() {
			c.disk.Fuse(fuse)
			if c.run(calls) {
				c.disk.Fuse(-1)
				c.crashes(visit)
				return
			}
		}
		c.crashes(visit)
	}
}

// crashes passes on what each set of blocks leaves whose writes are kept.
func (b *bench) crashes(visit func(b *bench)) {
	b.t.Helper()
	blocks := pendingBlocks(b.t, b.disk)
	for set := range 1 << blocks {
		var keep []int
		for i := range blocks {
			keep = append(keep, set>>i&1)
		}
		c := b.clone()
		if !c.crash(keep) {
			c.t.Fatalf("there is no journal any more")
		}
		visit(c)
	}
}

// What one crash leaves is not mistaken after the next one for a part of what was written in between.
func TestTwoCrashes(t *testing.T) {
	for _, first := range scripts() {
		for _, second := range scripts() {
			openBench(t, 60).cuts(first, func(b *bench) {
				b.cuts(second, func(*bench) {})
			})
		}
	}
}

func TestThreeCrashes(t *testing.T) {
	one := []call{{'a', 1}, {'a', 41}, {'c', 0}}
	other := []call{{'a', 41}, {'a', 1}, {'c', 0}}
	check := []call{{'k', 41}, {'a', 1}, {'c', 0}}
	for _, x := range [][3][]call{{one, other, one}, {one, one, one}, {other, one, other}, {check, check, check}, {one, check, other}, {check, one, check}} {
		openBench(t, 60).cuts(x[0], func(b *bench) {
			b.cuts(x[1], func(b *bench) {
				b.cuts(x[2], func(*bench) {})
			})
		})
	}
}

// If the first Format is cut off, there is either a journal, and it remains, or none.
func TestFirstFormat(t *testing.T) {
	for _, tries := range []int{1, 2, 3} {
		for fuse := range 4 {
			for set := range 16 {
				b := newBench(t, 12)
				for range tries {
					b.disk.Fuse(fuse)
					b.format()
					b.crash([]int{set & 1, set >> 1 & 1, set >> 2 & 1, set >> 3})
				}
				b.format()
				b.crash(nil)
				b.append("a")
				b.commit()
				b.crash(nil)
				if len(b.now.records) != 1 {
					t.Errorf("the journal contains %q", b.now)
				}
			}
		}
	}
}

// An Open that finds the disk off, or is cut off, loses nothing.
func TestOpenWithAFuse(t *testing.T) {
	for fuse := range 6 {
		b := used(t)
		b.disk.Fuse(fuse)
		for range 4 {
			if b.open() {
				b.commit()
			}
		}
		b.crash(nil)
		if len(b.now.records) < 2 {
			t.Errorf("the journal contains %q", b.now)
		}
	}
}

// However often a journal is opened, and a checkpoint is made, the last one counts.
func TestManyCheckpoints(t *testing.T) {
	b := openBench(t, 8)
	for range 70000 {
		b.checkpoint(b.text(6))
		b.append(b.text(6))
		b.commit()
		last := b.now
		if b.open(); !b.now.equal(last) {
			t.Fatalf("the journal contains %q, not %q", b.now, last)
		}
	}
}

// randomCall performs a random call.
func (b *bench) randomCall(r *rand.Rand) {
	b.t.Helper()
	kind := r.IntN(30)
	switch {
	case kind == 0:
		b.format()
	case kind < 3 || b.j == nil && !b.disk.Off():
		b.open()
	case kind < 6 || b.j == nil:
		b.crash(randomKeep(r))
	case kind < 9:
		if !b.disk.Off() {
			b.disk.Fuse(r.IntN(12))
		}
	case kind < 11:
		if bytes := r.IntN(200); unitsOf(b.text(bytes)) <= b.units() {
			b.checkpoint(b.text(bytes))
		}
	case kind < 15:
		b.commit()
	default:
		if bytes := r.IntN(130); unitsOf(b.text(bytes)) <= b.j.Room() {
			b.append(b.text(bytes))
		}
	}
}

func TestRandomCalls(t *testing.T) {
	r := newSource(3)
	for range 400 {
		b := newBench(t, []int{8, 9, 14, 31, 64}[r.IntN(5)])
		for range 200 {
			if r.IntN(40) == 0 {
				b = b.clone()
			}
			b.randomCall(r)
		}
	}
}

// The same calls have the same results, and leave the same disk.
func TestSameCalls(t *testing.T) {
	for seed := range uint64(20) {
		var disks [2][]string
		for i := range disks {
			r := newSource(100 + seed)
			b := openBench(t, 30)
			for range 100 {
				b.randomCall(r)
			}
			disks[i] = after(t, b.disk, []int{1, 0})
		}
		for i, content := range disks[0] {
			if disks[1][i] != content {
				t.Fatalf("the block %d is different", i)
			}
		}
	}
}

// Whatever is written on a disk, all calls return.
func TestGarbage(t *testing.T) {
	r := newSource(4)
	for range 2000 {
		b := used(t)
		b.commit()
		for range 1 + r.IntN(10) {
			spoil(t, r, b.disk)
		}
		for range 6 {
			try(r, b.disk)
		}
	}
}

// spoil writes something on the disk: random bytes, a copy of a block, or one with another byte.
func spoil(t *testing.T, r *rand.Rand, d *journal.Disk) {
	t.Helper()
	blocks := contents(t, d)
	data := []byte(blocks[r.IntN(len(blocks))])
	switch r.IntN(3) {
	case 0:
		data = []byte(random(r, api.BlockSize))
	case 1:
		data[r.IntN(len(data))] = []byte{0, 1, 2, 127, 128, 255}[r.IntN(6)]
	}
	d.Write(r.IntN(len(blocks)), string(data))
}

func try(r *rand.Rand, d *journal.Disk) {
	j, err := journal.Open(d)
	if err != api.OK {
		journal.Format(d)
	}
	j.Append(random(r, r.IntN(100)))
	j.Commit()
	j.State()
	j.Records()
	j.Durable()
	j.Room()
	j.Checkpoint(random(r, r.IntN(100)))
	d.Crash(randomKeep(r))
}
