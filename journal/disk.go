package journal

import (
	"maps"
	"slices"

	"guilloche/api"
)

const (
	minBlocks = 8
	noFuse    = -1 // as any other negative number
)

type block [api.BlockSize]byte

// Disk is a disk that loses power at any time. Its zero value is unusable.
type Disk struct {
	durable []block
	pending map[int][]block // in order, for each block that has any
	off     bool
	fuse    int
	era     int // increases whenever the journals that are open on the disk become broken
}

// NewDisk returns a disk with that many blocks.
func NewDisk(blocks int) (*Disk, api.Errno) {
	if blocks < minBlocks || blocks > api.MaxBlocks {
		return nil, api.ErrArg
	}
	return &Disk{durable: make([]block, blocks), pending: map[int][]block{}, fuse: noFuse}, api.OK
}

func (d *Disk) isUsable() bool { return d != nil && d.durable != nil }

// check returns why nothing can be done with the disk, or OK.
func (d *Disk) check() api.Errno {
	if !d.isUsable() {
		return api.ErrUnusable
	}
	if d.off {
		return api.ErrOff
	}
	return api.OK
}

// checkBlock returns why nothing can be done with the block, or OK.
func (d *Disk) checkBlock(number int) api.Errno {
	if err := d.check(); err != api.OK {
		return err
	}
	if number < 0 || number >= len(d.durable) {
		return api.ErrRange
	}
	return api.OK
}

// Blocks returns the number of blocks.
func (d *Disk) Blocks() int {
	if !d.isUsable() {
		return 0
	}
	return len(d.durable)
}

// Off reports whether the disk is off.
func (d *Disk) Off() bool { return d.isUsable() && d.off }

// Read returns the latest content of a block.
func (d *Disk) Read(block int) (string, api.Errno) {
	if err := d.checkBlock(block); err != api.OK {
		return "", err
	}
	content := d.durable[block]
	if writes := d.pending[block]; len(writes) > 0 {
		content = writes[len(writes)-1]
	}
	return string(content[:]), api.OK
}

// Write gives a block a new content, which remains pending: data, and bytes 0 after it.
func (d *Disk) Write(block int, data string) api.Errno {
	if err := d.checkBlock(block); err != api.OK {
		return err
	}
	if len(data) > api.BlockSize {
		return api.ErrArg
	}
	if err := d.burn(); err != api.OK {
		return err
	}
	d.pending[block] = append(d.pending[block], fill(data))
	return api.OK
}

func fill(data string) block {
	var b block
	copy(b[:], data)
	return b
}

// Sync makes all pending writes durable.
func (d *Disk) Sync() api.Errno {
	if err := d.check(); err != api.OK {
		return err
	}
	if err := d.burn(); err != api.OK {
		return err
	}
	for number, writes := range d.pending {
		d.durable[number] = writes[len(writes)-1]
	}
	clear(d.pending)
	return api.OK
}

// burn takes one call off the fuse, or turns the disk off if none is left.
func (d *Disk) burn() api.Errno {
	if d.fuse == 0 {
		d.off = true
		return api.ErrOff
	}
	if d.fuse > 0 {
		d.fuse--
	}
	return api.OK
}

// Fuse lets that many more calls of Write and Sync succeed, or all of them if the number is negative.
func (d *Disk) Fuse(calls int) api.Errno {
	if err := d.check(); err != api.OK {
		return err
	}
	d.fuse = calls
	return api.OK
}

// Crash turns the power off and on again: each block with pending writes keeps as many of them as keep says.
func (d *Disk) Crash(keep []int) api.Errno {
	if !d.isUsable() {
		return api.ErrUnusable
	}
	for i, number := range slices.Sorted(maps.Keys(d.pending)) {
		writes := d.pending[number]
		if kept := countKept(keep, i, len(writes)); kept > 0 {
			d.durable[number] = writes[kept-1]
		}
	}
	clear(d.pending)
	d.off, d.fuse = false, noFuse
	d.era++
	return api.OK
}

// countKept returns how many writes the i-th block with pending ones keeps, if it has that many.
func countKept(keep []int, i, writes int) int {
	if len(keep) == 0 {
		return 0
	}
	return min(max(keep[i%len(keep)], 0), writes)
}

// Clone returns an independent disk that is the same, on which no journal is open.
func (d *Disk) Clone() *Disk {
	if !d.isUsable() {
		return nil
	}
	pending := map[int][]block{}
	for number, writes := range d.pending {
		pending[number] = slices.Clone(writes)
	}
	return &Disk{durable: slices.Clone(d.durable), pending: pending, off: d.off, fuse: d.fuse}
}
