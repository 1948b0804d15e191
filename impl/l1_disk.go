package impl

import "slices"

const BlockSize = 64
const MaxBlocks = 1200
const MaxPending = 400

type Write struct {
	Block int64
	Data  []byte
}

type Disk struct {
	Durable []byte
	Pending []Write
}

// blockBytes is an array, so that a block handed on is a copy and shares no memory.
type blockBytes [BlockSize]byte

type cachedWrite struct {
	block int64
	data  blockBytes
}

// cachedDisk is a valid Disk in working form. The map youngest spares a read the walk through all writes.
type cachedDisk struct {
	durable  []blockBytes
	writes   []cachedWrite
	youngest map[int64]int
}

// openDisk takes valid disks only.
func openDisk(d Disk) *cachedDisk {
	c := &cachedDisk{youngest: map[int64]int{}}
	for piece := range slices.Chunk(d.Durable, BlockSize) {
		c.durable = append(c.durable, blockBytes(piece))
	}
	for _, w := range d.Pending {
		c.write(w.Block, blockBytes(w.Data))
	}
	return c
}

func (c *cachedDisk) hasBlock(block int64) bool {
	return block >= 0 && block < int64(len(c.durable))
}

func (c *cachedDisk) write(block int64, data blockBytes) {
	c.youngest[block] = len(c.writes)
	c.writes = append(c.writes, cachedWrite{block: block, data: data})
}

func (c *cachedDisk) read(block int64) blockBytes {
	if place, ok := c.youngest[block]; ok {
		return c.writes[place].data
	}
	return c.durable[block]
}

func (c *cachedDisk) barrier() {
	for _, w := range c.writes {
		c.durable[w.block] = w.data
	}
	c.forgetWrites()
}

func (c *cachedDisk) crash(choices []int64) {
	for i, w := range c.writes {
		kept := keptBytes(choices, i)
		copy(c.durable[w.block][:kept], w.data[:kept])
	}
	c.forgetWrites()
}

func (c *cachedDisk) forgetWrites() {
	c.writes = nil
	clear(c.youngest)
}

// disk gives every list memory of its own: the answer may be changed by its holder.
func (c *cachedDisk) disk() Disk {
	d := Disk{Durable: make([]byte, 0, len(c.durable)*BlockSize)}
	for _, b := range c.durable {
		d.Durable = append(d.Durable, b[:]...)
	}
	for _, w := range c.writes {
		d.Pending = append(d.Pending, Write{Block: w.block, Data: slices.Clone(w.data[:])})
	}
	return d
}

func keptBytes(choices []int64, i int) int64 {
	if i >= len(choices) {
		return 0
	}
	if choices[i] < 0 || choices[i] >= BlockSize {
		return BlockSize
	}
	return choices[i]
}

func ValidDisk(d Disk) bool {
	blocks := int64(len(d.Durable) / BlockSize)
	if len(d.Durable)%BlockSize != 0 || blocks < 1 || blocks > MaxBlocks || len(d.Pending) > MaxPending {
		return false
	}
	for _, w := range d.Pending {
		if w.Block < 0 || w.Block >= blocks || len(w.Data) != BlockSize {
			return false
		}
	}
	return true
}

func NewDisk(blocks int64) Disk {
	if blocks < 1 || blocks > MaxBlocks {
		return Disk{}
	}
	return Disk{Durable: make([]byte, blocks*BlockSize)}
}

func DiskWrite(d Disk, block int64, data []byte) Disk {
	if !ValidDisk(d) || len(d.Pending) == MaxPending || len(data) != BlockSize {
		return Disk{}
	}
	c := openDisk(d)
	if !c.hasBlock(block) {
		return Disk{}
	}
	c.write(block, blockBytes(data))
	return c.disk()
}

func DiskRead(d Disk, block int64) []byte {
	if !ValidDisk(d) {
		return []byte{}
	}
	c := openDisk(d)
	if !c.hasBlock(block) {
		return []byte{}
	}
	b := c.read(block)
	return b[:]
}

func DiskBarrier(d Disk) Disk {
	if !ValidDisk(d) {
		return Disk{}
	}
	c := openDisk(d)
	c.barrier()
	return c.disk()
}

func DiskCrash(d Disk, choices []int64) Disk {
	if !ValidDisk(d) || len(choices) > MaxPending {
		return Disk{}
	}
	c := openDisk(d)
	c.crash(choices)
	return c.disk()
}
