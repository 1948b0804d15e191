package tests

import (
	"bytes"
	"fmt"
	"slices"
	"strings"
	"testing"

	"loop.example/s02881/impl"
)

const nameBytes = "abcdefghijklmnopqrstuvwxyz0123456789._-"

func lids(n int, first int64) []int64 {
	out := []int64{}
	for i := range n {
		out = append(out, first+int64(i))
	}
	return out
}

func sameInode(a, b impl.Inode) bool {
	return a.Name == b.Name && a.Size == b.Size && slices.Equal(a.Lids, b.Lids)
}

func noInode(r impl.InodeResult) bool {
	return !r.Good && r.Inode.Name == "" && r.Inode.Size == 0 && len(r.Inode.Lids) == 0
}

func noTable(r impl.TableResult) bool {
	return !r.Good && len(r.Table) == 0
}

func TestCodecConstants(t *testing.T) {
	if impl.MaxName != 16 || impl.MaxLids != 22 || impl.MaxFile != 1408 || impl.MaxAddr != 32767 || impl.MaxSeq != 1099511627776 {
		t.Error("the limits of chapter 2")
	}
}

func TestValidName(t *testing.T) {
	for b := range 256 {
		one := string([]byte{byte(b)})
		good := strings.Contains(nameBytes, one)
		for _, name := range []string{one, "a" + one, one + "a", "abcdefg" + one + "hijklmno"} {
			if impl.ValidName(name) != good {
				t.Errorf("%q: %v", name, !good)
			}
		}
	}
	for length := range 40 {
		if impl.ValidName(strings.Repeat("z", length)) != (length >= 1 && length <= impl.MaxName) {
			t.Errorf("%d bytes", length)
		}
	}
	for _, name := range []string{"ä", "a\x00", "\x00a", "a\n", "日本"} {
		if impl.ValidName(name) {
			t.Errorf("%q", name)
		}
	}
}

// inodeByHand lays the bytes where section 2.1 says.
func inodeByHand(n impl.Inode) []byte {
	b := make([]byte, impl.BlockSize)
	copy(b, n.Name)
	b[16], b[17] = byte(n.Size/256), byte(n.Size%256)
	for i, lid := range n.Lids {
		b[18+2*i], b[19+2*i] = byte(lid/256), byte(lid%256)
	}
	return b
}

func TestInodesAreReadBack(t *testing.T) {
	names := []string{"a", "-", "0", "a.b_c-d", "abcdefghijklmno", "abcdefghijklmnop"}
	for size := range int64(impl.MaxFile + 1) {
		blocks := (int(size) + 63) / 64
		n := impl.Inode{Name: names[int(size)%len(names)], Size: size, Lids: lids(blocks, 1+size*46)}
		b := impl.EncodeInode(n)
		if !bytes.Equal(b, inodeByHand(n)) {
			t.Fatalf("%v: %v", n, b)
		}
		if r := impl.DecodeInode(b); !r.Good || !sameInode(r.Inode, n) {
			t.Fatalf("%v: %v", n, r)
		}
	}
}

func TestInodeLidLimits(t *testing.T) {
	for at := range impl.MaxLids {
		for _, lid := range append([]int64{-1, 0, 1, 65535, 65536}, farNumbers...) {
			n := impl.Inode{Name: "f", Size: impl.MaxFile, Lids: lids(impl.MaxLids, 10)}
			n.Lids[at] = lid
			b := impl.EncodeInode(n)
			if lid < 1 || lid > 65535 {
				if len(b) != 0 {
					t.Errorf("lid %d at %d has bytes", lid, at)
				}
			} else if r := impl.DecodeInode(b); !r.Good || !sameInode(r.Inode, n) {
				t.Errorf("lid %d at %d: %v", lid, at, r)
			}
		}
	}
}

func TestBadInodesHaveNoBytes(t *testing.T) {
	bad := []impl.Inode{
		{},
		{Name: "A", Size: 0},
		{Name: "a\x00", Size: 0},
		{Name: strings.Repeat("a", impl.MaxName+1), Size: 0},
		{Name: strings.Repeat("a", 100), Size: 0},
		{Name: "a", Size: -1},
		{Name: "a", Size: -64, Lids: lids(1, 1)},
		{Name: "a", Size: impl.MaxFile + 1, Lids: lids(impl.MaxLids, 1)},
		{Name: "a", Size: impl.MaxFile + 1, Lids: lids(impl.MaxLids+1, 1)},
		{Name: "a", Size: impl.MaxFile, Lids: lids(impl.MaxLids+1, 1)},
		{Name: "a", Size: impl.MaxFile, Lids: lids(impl.MaxLids-1, 1)},
		{Name: "a", Size: 0, Lids: lids(1, 1)},
		{Name: "a", Size: 1},
		{Name: "a", Size: 64},
		{Name: "a", Size: 64, Lids: lids(2, 1)},
		{Name: "a", Size: 65, Lids: lids(1, 1)},
		{Name: "a", Size: 128, Lids: lids(3, 1)},
	}
	for _, size := range farNumbers {
		bad = append(bad, impl.Inode{Name: "a", Size: size}, impl.Inode{Name: "a", Size: size, Lids: lids(22, 1)})
	}
	for _, n := range bad {
		if b := impl.EncodeInode(n); len(b) != 0 {
			t.Errorf("%v: %v", n, b)
		}
	}
}

// inodeFits says by section 2.1 alone whether a block is that of a valid inode.
func inodeFits(b []byte) bool {
	used := 0
	for used < 16 && strings.Contains(nameBytes, string(b[used:used+1])) {
		used++
	}
	size := int(b[16])*256 + int(b[17])
	if used == 0 || size > 1408 {
		return false
	}
	end := 18 + 2*((size+63)/64)
	for i := 18; i < end; i += 2 {
		if b[i] == 0 && b[i+1] == 0 {
			return false
		}
	}
	return bytes.Count(b[used:16], []byte{0}) == 16-used && bytes.Count(b[end:], []byte{0}) == 64-end
}

func TestInodeBlocksWithOneByteChanged(t *testing.T) {
	inodes := []impl.Inode{
		{Name: "a", Size: 0},
		{Name: "ab", Size: 130, Lids: []int64{1, 258, 65535}},
		{Name: "abcdefghijklmnop", Size: 256, Lids: []int64{256, 1, 512, 2}},
		{Name: "full", Size: impl.MaxFile, Lids: lids(impl.MaxLids, 250)},
	}
	for _, n := range inodes {
		for at := range impl.BlockSize {
			for flip := 1; flip < 256; flip++ {
				b := inodeByHand(n)
				b[at] ^= byte(flip)
				checkInodeBlock(t, b)
				if r := impl.DecodeInode(b); sameInode(r.Inode, n) {
					t.Fatalf("byte %d: still the block of %v", at, n)
				}
			}
		}
	}
}

func checkInodeBlock(t *testing.T, b []byte) {
	t.Helper()
	r := impl.DecodeInode(b)
	if r.Good != inodeFits(b) {
		t.Fatalf("%v: %v", b, r)
	}
	if r.Good && !bytes.Equal(impl.EncodeInode(r.Inode), b) {
		t.Fatalf("%v: encodes to other bytes", b)
	}
	if !r.Good && !noInode(r) {
		t.Fatalf("%v: not the zero value: %v", b, r)
	}
}

// A size of 1409 to 1472 has room in the block for its 23 lids, but is over the limit all the same.
func TestInodeBlocksOfEverySize(t *testing.T) {
	for size := range 65536 {
		for _, count := range []int{(size + 63) / 64, 22, 23} {
			b := make([]byte, impl.BlockSize)
			b[0], b[16], b[17] = 'a', byte(size>>8), byte(size)
			for i := range min(count, 23) {
				b[18+2*i] = 7
			}
			checkInodeBlock(t, b)
		}
	}
}

func TestInodeBlocksOfOtherLengths(t *testing.T) {
	full := inodeByHand(impl.Inode{Name: "f", Size: impl.MaxFile, Lids: lids(impl.MaxLids, 9)})
	empty := inodeByHand(impl.Inode{Name: "f"})
	for _, b := range [][]byte{full, empty} {
		long := append(bytes.Clone(b), make([]byte, 70)...)
		for length := range len(long) + 1 {
			r := impl.DecodeInode(long[:length])
			if r.Good != (length == impl.BlockSize) || !r.Good && !noInode(r) {
				t.Errorf("%d bytes: %v", length, r)
			}
		}
	}
	if !noInode(impl.DecodeInode(nil)) {
		t.Error("nil")
	}
}

func TestTablesOfEveryEntry(t *testing.T) {
	for v := range 65536 {
		e := impl.Entry{Addr: int64(v & 32767), Inode: v&32768 != 0}
		b := []byte{byte(v >> 8), byte(v)}
		r := impl.DecodeTable(b)
		if v == 32768 {
			if !noTable(r) || len(impl.EncodeTable([]impl.Entry{e})) != 0 {
				t.Error("an inode without an address")
			}
			continue
		}
		if !r.Good || len(r.Table) != 1 || r.Table[0] != e || !bytes.Equal(impl.EncodeTable([]impl.Entry{e}), b) {
			t.Fatalf("%v: %v", b, r)
		}
	}
}

func sampleTable(n int) []impl.Entry {
	table := []impl.Entry{}
	for i := range n {
		table = append(table, impl.Entry{Addr: int64(i * 37 % 32768), Inode: i%3 == 1})
	}
	return table
}

func TestTablesAreReadBack(t *testing.T) {
	for _, n := range []int{0, 1, 2, 3, 100, 1023, 1024} {
		table := sampleTable(n)
		b := impl.EncodeTable(table)
		if len(b) != 2*n {
			t.Fatalf("%d entries: %d bytes", n, len(b))
		}
		if r := impl.DecodeTable(b); !r.Good || !slices.Equal(r.Table, table) {
			t.Errorf("%d entries: %v", n, r)
		}
	}
	if r := impl.DecodeTable(nil); !r.Good || len(r.Table) != 0 {
		t.Errorf("nil: %v", r)
	}
}

func TestBadTablesHaveNoBytes(t *testing.T) {
	bad := []impl.Entry{{Inode: true}, {Addr: -1}, {Addr: -1, Inode: true}, {Addr: impl.MaxAddr + 1}, {Addr: impl.MaxAddr + 1, Inode: true}, {Addr: 65536}}
	for _, n := range farNumbers {
		bad = append(bad, impl.Entry{Addr: n}, impl.Entry{Addr: n, Inode: true})
	}
	for _, e := range bad {
		for _, at := range []int{0, 1, 9} {
			table := sampleTable(10)
			table[at] = e
			if b := impl.EncodeTable(table); len(b) != 0 {
				t.Errorf("%v at %d: %v", e, at, b)
			}
		}
	}
	for _, n := range []int{1025, 1026, 5000} {
		if len(impl.EncodeTable(make([]impl.Entry, n))) != 0 {
			t.Errorf("%d entries", n)
		}
	}
}

func TestBadTableBytes(t *testing.T) {
	for _, length := range []int{0, 1, 2, 3, 64, 65, 2046, 2047, 2048, 2049, 2050, 4096} {
		r := impl.DecodeTable(make([]byte, length))
		good := length%2 == 0 && length <= 2048
		if r.Good != good || good && len(r.Table) != length/2 || !good && !noTable(r) {
			t.Errorf("%d bytes: %v", length, r.Good)
		}
	}
	for _, at := range []int{0, 2, 18} {
		b := impl.EncodeTable(sampleTable(10))
		b[at], b[at+1] = 128, 0
		if !noTable(impl.DecodeTable(b)) {
			t.Errorf("a bad entry at byte %d", at)
		}
	}
}

func headerByHand(h impl.Header) []byte {
	b := make([]byte, impl.BlockSize)
	for i := range 8 {
		b[7-i] = byte(h.Seq >> (8 * i))
		b[63-i] = byte(h.Seq >> (8 * i))
	}
	b[8], b[9] = byte(h.Segs>>8), byte(h.Segs)
	b[10], b[11] = byte(h.SegBlocks>>8), byte(h.SegBlocks)
	return b
}

func sampleHeaders() []impl.Header {
	headers := []impl.Header{}
	seqs := []int64{1, 2, 3, 255, 256, 257, 258, 511, 65535, 65536, 16777472, 1 << 32, 4311810305, impl.MaxSeq - 1, impl.MaxSeq}
	for i, seq := range seqs {
		headers = append(headers, impl.Header{Seq: seq, Segs: 4, SegBlocks: 2})
		headers = append(headers, impl.Header{Seq: seq, Segs: int64(i * 4681), SegBlocks: int64(65535 - i*4681)})
	}
	return headers
}

func TestHeadersAreReadBack(t *testing.T) {
	headers := sampleHeaders()
	for _, part := range []int64{0, 1, 255, 256, 65534, 65535} {
		headers = append(headers, impl.Header{Seq: 7, Segs: part, SegBlocks: 3}, impl.Header{Seq: 8, Segs: 4, SegBlocks: part})
	}
	for _, h := range headers {
		b := impl.EncodeHeader(h)
		if !bytes.Equal(b, headerByHand(h)) {
			t.Errorf("%v: %v", h, b)
		}
		if r := impl.DecodeHeader(b); !r.Good || r.Header != h {
			t.Errorf("%v: %v", h, r)
		}
	}
}

func TestBadHeadersHaveNoBytes(t *testing.T) {
	bad := []impl.Header{
		{Seq: 0, Segs: 4, SegBlocks: 2}, {Seq: -1, Segs: 4, SegBlocks: 2}, {Seq: impl.MaxSeq + 1, Segs: 4, SegBlocks: 2},
		{Seq: 1, Segs: -1, SegBlocks: 2}, {Seq: 1, Segs: 65536, SegBlocks: 2},
		{Seq: 1, Segs: 4, SegBlocks: -1}, {Seq: 1, Segs: 4, SegBlocks: 65536},
	}
	for _, n := range farNumbers {
		bad = append(bad, impl.Header{Seq: n}, impl.Header{Seq: 1, Segs: n}, impl.Header{Seq: 1, SegBlocks: n})
	}
	for _, h := range bad {
		if b := impl.EncodeHeader(h); len(b) != 0 {
			t.Errorf("%v: %v", h, b)
		}
	}
}

// A header that is not valid may have been laid by hand: its block is no good one.
func TestBlocksOfBadHeaders(t *testing.T) {
	for _, seq := range append([]int64{0, -1, impl.MaxSeq + 1}, farNumbers...) {
		r := impl.DecodeHeader(headerByHand(impl.Header{Seq: seq, Segs: 4, SegBlocks: 2}))
		if r != (impl.HeaderResult{}) {
			t.Errorf("Seq %d: %v", seq, r)
		}
	}
}

func TestHeaderBlocksWithOneByteChanged(t *testing.T) {
	h := impl.Header{Seq: 4311810305, Segs: 300, SegBlocks: 2}
	for at := range impl.BlockSize {
		for flip := 1; flip < 256; flip++ {
			b := headerByHand(h)
			b[at] ^= byte(flip)
			r := impl.DecodeHeader(b)
			inParts := at >= 8 && at < 12
			if r.Good != inParts || r.Header == h || !r.Good && r != (impl.HeaderResult{}) {
				t.Fatalf("byte %d, flip %d: %v", at, flip, r)
			}
			if r.Good && !bytes.Equal(impl.EncodeHeader(r.Header), b) {
				t.Fatalf("byte %d, flip %d: encodes to other bytes", at, flip)
			}
		}
	}
}

func TestHeaderBlocksOfOtherLengths(t *testing.T) {
	long := append(headerByHand(impl.Header{Seq: 9, Segs: 4, SegBlocks: 2}), make([]byte, 70)...)
	for length := range len(long) + 1 {
		r := impl.DecodeHeader(long[:length])
		if r.Good != (length == impl.BlockSize) || !r.Good && r != (impl.HeaderResult{}) {
			t.Errorf("%d bytes: %v", length, r)
		}
	}
	if impl.DecodeHeader(nil) != (impl.HeaderResult{}) {
		t.Error("nil")
	}
}

func TestTornHeadersAreNoHeaders(t *testing.T) {
	headers := sampleHeaders()
	for _, first := range headers {
		for _, second := range headers {
			if first.Seq != second.Seq {
				checkTornHeaders(t, first, second)
			}
		}
	}
}

func checkTornHeaders(t *testing.T, first, second impl.Header) {
	t.Helper()
	a, b := impl.EncodeHeader(first), impl.EncodeHeader(second)
	for cut := range impl.BlockSize + 1 {
		torn := append(bytes.Clone(a[:cut]), b[cut:]...)
		r := impl.DecodeHeader(torn)
		want := impl.HeaderResult{}
		if bytes.Equal(torn, a) {
			want = impl.HeaderResult{Good: true, Header: first}
		} else if bytes.Equal(torn, b) {
			want = impl.HeaderResult{Good: true, Header: second}
		}
		if r != want {
			t.Errorf("%v and %v, cut at %d: %v", first, second, cut, r)
		}
	}
}

// The same by way of the disk, where a crash does the tearing.
func TestTornHeaderWritesAreSeen(t *testing.T) {
	old, young := impl.Header{Seq: 255, Segs: 4, SegBlocks: 2}, impl.Header{Seq: 257, Segs: 4, SegBlocks: 2}
	d := impl.DiskBarrier(impl.DiskWrite(impl.NewDisk(1), 0, impl.EncodeHeader(old)))
	d = impl.DiskWrite(d, 0, impl.EncodeHeader(young))
	for choice := range int64(impl.BlockSize + 1) {
		r := impl.DecodeHeader(impl.DiskRead(impl.DiskCrash(d, []int64{choice}), 0))
		isOld, isYoung := choice <= 6, choice == 64
		if r.Good != (isOld || isYoung) || isOld && r.Header != old || isYoung && r.Header != young {
			t.Errorf("choice %d: %v", choice, r)
		}
	}
}

func TestCodecArgumentsStay(t *testing.T) {
	inode := impl.Inode{Name: "f", Size: 130, Lids: []int64{4, 5, 6}}
	block := impl.EncodeInode(inode)
	table := sampleTable(5)
	bytesOfTable := impl.EncodeTable(table)
	scribbleBytes(impl.EncodeInode(inode))
	scribbleBytes(impl.EncodeTable(table))
	read := impl.DecodeInode(block).Inode
	clear(read.Lids[:cap(read.Lids)])
	entries := impl.DecodeTable(bytesOfTable).Table
	clear(entries[:cap(entries)])
	if fmt.Sprint(inode.Lids) != "[4 5 6]" || !slices.Equal(table, sampleTable(5)) {
		t.Error("a value shares memory with its bytes")
	}
	if !bytes.Equal(block, inodeByHand(inode)) || !slices.Equal(impl.DecodeTable(bytesOfTable).Table, table) {
		t.Error("bytes share memory with their value")
	}
}

// A text made by DecodeInode must not follow its block when that is written over.
func TestDecodedNameIsACopy(t *testing.T) {
	block := impl.EncodeInode(impl.Inode{Name: "file"})
	r := impl.DecodeInode(block)
	scribbleBytes(block)
	if r.Inode.Name != "file" {
		t.Errorf("%q", r.Inode.Name)
	}
}
