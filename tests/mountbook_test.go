package tests

import (
	"bytes"
	"encoding/binary"
	"fmt"
	"slices"
	"strings"
	"testing"

	"loop.example/s02881/impl"
)

// The mount of section 3.2, told once more from the bytes alone, slowly and step by step.

type bookInode struct {
	name string
	size int
	lids []int
}

func blockAt(d impl.Disk, b int64) []byte {
	return d.Durable[64*b : 64*b+64]
}

func bookRoot(d impl.Disk, g impl.Geometry) int64 {
	root := int64(0)
	for r := range int64(2) {
		b := blockAt(d, r*(1+tablesOf(g)))
		seq := int64(binary.BigEndian.Uint64(b))
		if seq < 1 || seq > impl.MaxSeq || seq&1 != r || seq <= root {
			continue
		}
		if bytes.Equal(b, headerByHand(impl.Header{Seq: seq, Segs: g.Segs, SegBlocks: g.SegBlocks})) {
			root = seq
		}
	}
	return root
}

func bookTable(d impl.Disk, g impl.Geometry, seq int64) []impl.Entry {
	table := []impl.Entry{}
	start := 64 * (seq&1*(1+tablesOf(g)) + 1)
	for i := range payloadOf(g) {
		n := int64(binary.BigEndian.Uint16(d.Durable[start+2*i:]))
		table = append(table, impl.Entry{Addr: n & 32767, Inode: n > 32767})
	}
	return table
}

func bookTableIsBad(table []impl.Entry, g impl.Geometry) bool {
	for i, e := range table {
		if e.Addr == 0 {
			if e.Inode {
				return true
			}
			continue
		}
		if e.Addr < logOf(g) || e.Addr > logOf(g)+payloadOf(g)-1 {
			return true
		}
		for _, other := range table[:i] {
			if other.Addr == e.Addr {
				return true
			}
		}
	}
	return false
}

func bookInodes(d impl.Disk, table []impl.Entry) ([]bookInode, bool) {
	inodes := []bookInode{}
	for _, e := range table {
		if !e.Inode {
			continue
		}
		b := blockAt(d, e.Addr)
		if !inodeFits(b) {
			return nil, false
		}
		n := bookInode{name: strings.Trim(string(b[:16]), "\x00"), size: int(binary.BigEndian.Uint16(b[16:]))}
		for i := 0; 64*i < n.size; i++ {
			lid := int(binary.BigEndian.Uint16(b[18+2*i:]))
			if lid > len(table) || table[lid-1].Addr == 0 || table[lid-1].Inode {
				return nil, false
			}
			n.lids = append(n.lids, lid)
		}
		inodes = append(inodes, n)
	}
	return inodes, true
}

func bookBlocksAreBad(table []impl.Entry, inodes []bookInode) bool {
	for i, e := range table {
		uses := 0
		for _, n := range inodes {
			for _, lid := range n.lids {
				if lid == i+1 {
					uses++
				}
			}
		}
		if uses > 1 || uses == 0 && e.Addr != 0 && !e.Inode {
			return true
		}
	}
	for i := range inodes {
		for j := range i {
			if inodes[i].name == inodes[j].name {
				return true
			}
		}
	}
	return false
}

func bookRoomIsShort(table []impl.Entry, g impl.Geometry) bool {
	used := int64(0)
	for _, e := range table {
		if e.Addr > 0 {
			used++
		}
	}
	return used > (g.Segs-2)*g.SegBlocks || slices.Min(countsByHand(table, g)) > 0
}

func bookFiles(d impl.Disk, table []impl.Entry, inodes []bookInode) []impl.File {
	files := []impl.File{}
	for _, n := range inodes {
		data := ""
		for _, lid := range n.lids {
			data += string(blockAt(d, table[lid-1].Addr))
		}
		files = append(files, impl.File{Name: n.name, Data: data[:n.size]})
	}
	slices.SortFunc(files, func(a, b impl.File) int { return strings.Compare(a.Name, b.Name) })
	return files
}

// mountByBook takes valid geometries, and disks of the right size with nothing pending.
func mountByBook(d impl.Disk, g impl.Geometry) impl.Mounted {
	seq := bookRoot(d, g)
	if seq == 0 {
		return impl.Mounted{Code: 3}
	}
	if seq > 1099511627776-2097152 {
		return impl.Mounted{Code: 8}
	}
	table := bookTable(d, g, seq)
	if bookTableIsBad(table, g) {
		return impl.Mounted{Code: 4}
	}
	inodes, good := bookInodes(d, table)
	if !good {
		return impl.Mounted{Code: 5}
	}
	if bookBlocksAreBad(table, inodes) {
		return impl.Mounted{Code: 6}
	}
	if bookRoomIsShort(table, g) {
		return impl.Mounted{Code: 7}
	}
	return impl.Mounted{Seq: seq, Files: bookFiles(d, table, inodes), Table: table, Counts: countsByHand(table, g)}
}

func shuffled(roll *dice, first, count int64) []int64 {
	list := []int64{}
	for i := range count {
		list = append(list, first+i)
	}
	for i := range list {
		j := roll.roll(i + 1)
		list[i], list[j] = list[j], list[i]
	}
	return list
}

// randomPicture has one good region with random files, whose lids and addresses are all over the place, often garbage in the other region, and now and then no free segment.
func randomPicture(roll *dice, g impl.Geometry) *picture {
	p := newPicture(g)
	region := roll.roll(2)
	seq := int64(2 + 2*roll.roll(100) + region)
	p.header(region, seq)
	if roll.roll(2) == 0 {
		p.header(1-region, seq-1)
		p.tables[1-region][roll.roll(len(p.tables[0]))] = uint16(roll.roll(65536))
	}
	lids, addrs := shuffled(roll, 1, payloadOf(g)), shuffled(roll, logOf(g), payloadOf(g))
	empty := int64(roll.roll(int(g.Segs) + 1))
	addrs = slices.DeleteFunc(addrs, func(addr int64) bool { return (addr-logOf(g))/g.SegBlocks == empty })
	for i := range roll.roll(8) {
		blocks := roll.roll(4)
		if (len(lids)-2*int(g.SegBlocks)) <= blocks || len(addrs) <= blocks {
			break
		}
		data := strings.Repeat(fmt.Sprint(i, "-"), 32*blocks)[:max(0, 64*blocks-roll.roll(64))]
		p.file(region, lids[blocks], addrs[blocks], fmt.Sprint("f", roll.roll(50)+100*i), data, slices.Clone(lids[:blocks]), slices.Clone(addrs[:blocks]))
		lids, addrs = lids[blocks+1:], addrs[blocks+1:]
	}
	return p
}

// damage changes one thing, mostly something that some check has to find.
func damage(roll *dice, p *picture) {
	g := p.g
	region := roll.roll(2)
	lid := int64(1 + roll.roll(int(payloadOf(g))))
	addr := logOf(g) + int64(roll.roll(int(payloadOf(g))))
	mark := uint16(roll.roll(2)) * inodeBit
	switch roll.roll(9) {
	case 0:
		p.lid(region, lid, uint16(addr)|mark)
	case 1:
		p.lid(region, lid, uint16(logOf(g)-1+int64(roll.roll(2))*(payloadOf(g)+1))|mark)
	case 2:
		p.lid(region, lid, mark)
	case 3:
		p.header(region, []int64{1, 2, 300, 301, impl.MaxSeq - 2097152, impl.MaxSeq - 2097151, impl.MaxSeq}[roll.roll(7)])
	case 4:
		if p.headers[region] != nil {
			p.headers[region][roll.roll(64)] ^= byte(1 + roll.roll(255))
		}
	case 5:
		p.inode(region, lid, addr, impl.Inode{Name: fmt.Sprint("new", roll.roll(3))})
	case 6:
		p.inode(region, lid, addr, impl.Inode{Name: "used", Size: 100, Lids: []int64{int64(1 + roll.roll(int(payloadOf(g)))), int64(1 + roll.roll(int(payloadOf(g))+1))}})
	case 7:
		if b := p.blocks[addr]; len(b) == 64 {
			b = bytes.Clone(b)
			b[roll.roll(24)] ^= byte(1 + roll.roll(3))
			p.blocks[addr] = b
		}
	case 8:
		p.lid(region, lid, p.tables[region][roll.roll(int(payloadOf(g)))])
	}
}

func TestMountOfRandomImages(t *testing.T) {
	roll := &dice{state: 61}
	seen := map[int64]int{}
	for range 12000 {
		g := impl.Geometry{Segs: int64(4 + roll.roll(5)), SegBlocks: int64(2 + roll.roll(5))}
		p := randomPicture(roll, g)
		for range roll.roll(4) {
			damage(roll, p)
		}
		d := p.disk()
		want := mountByBook(d, g)
		seen[want.Code]++
		wantMounted(t, fmt.Sprint(g), d, g, want)
	}
	for _, code := range []int64{0, 3, 4, 5, 6, 7, 8} {
		if seen[code] < 50 {
			t.Errorf("the images are too much alike: code %d came %d times", code, seen[code])
		}
	}
}

// Every byte of a small image is changed in every bit.
func TestMountWithOneBitChanged(t *testing.T) {
	g := impl.Geometry{Segs: 4, SegBlocks: 2}
	p := newPicture(g)
	p.header(1, 5)
	p.header(0, 4)
	p.file(1, 2, 5, "a", "hello", []int64{1}, []int64{4})
	p.file(1, 4, 6, "b", strings.Repeat("b", 64), []int64{8}, []int64{9})
	p.file(0, 5, 11, "a", "older", []int64{6}, []int64{10})
	d := p.disk()
	for at := range d.Durable {
		for bit := range 8 {
			d.Durable[at] ^= 1 << bit
			wantMounted(t, fmt.Sprint("byte ", at, ", bit ", bit), d, g, mountByBook(d, g))
			d.Durable[at] ^= 1 << bit
		}
	}
}
