package tests

import (
	"encoding/binary"

	"loop.example/s02881/impl"
)

// picture is an image that a test puts together piece by piece, good or bad; its bytes are laid out by hand.
type picture struct {
	g       impl.Geometry
	headers [2][]byte
	tables  [2][]uint16
	blocks  map[int64][]byte
}

const inodeBit = 1 << 15

func payloadOf(g impl.Geometry) int64 {
	return g.Segs * g.SegBlocks
}

func tablesOf(g impl.Geometry) int64 {
	return (2*payloadOf(g) + 63) / 64
}

func logOf(g impl.Geometry) int64 {
	return 2 + 2*tablesOf(g)
}

func newPicture(g impl.Geometry) *picture {
	p := &picture{g: g, blocks: map[int64][]byte{}}
	for r := range p.tables {
		p.tables[r] = make([]uint16, 32*tablesOf(g))
	}
	return p
}

// header sets the header of a region, whatever its Seq is.
func (p *picture) header(region int, seq int64) {
	p.headers[region] = headerByHand(impl.Header{Seq: seq, Segs: p.g.Segs, SegBlocks: p.g.SegBlocks})
}

func (p *picture) lid(region int, lid int64, number uint16) {
	p.tables[region][lid-1] = number
}

// file puts a file into the table of a region: the lids of its data and their addresses, in order.
func (p *picture) file(region int, inodeLid, inodeAddr int64, name string, data string, lids, addrs []int64) {
	padded := append([]byte(data), filled(0xEE)...)
	for i, lid := range lids {
		p.lid(region, lid, uint16(addrs[i]))
		p.blocks[addrs[i]] = padded[64*i : 64*i+64]
	}
	p.inode(region, inodeLid, inodeAddr, impl.Inode{Name: name, Size: int64(len(data)), Lids: lids})
}

func (p *picture) inode(region int, lid, addr int64, n impl.Inode) {
	p.lid(region, lid, uint16(addr)|inodeBit)
	p.blocks[addr] = inodeByHand(n)
}

func (p *picture) disk() impl.Disk {
	tables := tablesOf(p.g)
	d := impl.Disk{Durable: make([]byte, 64*(logOf(p.g)+payloadOf(p.g)))}
	for r := range p.headers {
		start := int64(r) * (1 + tables)
		copy(d.Durable[64*start:], p.headers[r])
		for i, number := range p.tables[r] {
			binary.BigEndian.PutUint16(d.Durable[64*(start+1)+int64(2*i):], number)
		}
	}
	for addr, data := range p.blocks {
		copy(d.Durable[64*addr:], data)
	}
	return d
}
