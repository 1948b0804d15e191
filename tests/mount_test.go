package tests

import (
	"fmt"
	"slices"
	"strings"
	"testing"

	"loop.example/s02881/impl"
)

// middle has a table of two blocks: Payload 36, Log 6, Blocks 42, Cap 24; its segments begin at 6, 12, 18, 24, 30 and 36.
var middle = impl.Geometry{Segs: 6, SegBlocks: 6}

// threeFiles uses the first and the last lid, and the first and the last block of the log; segments 2, 3 and 4 are free.
func threeFiles() *picture {
	p := newPicture(middle)
	p.header(1, 7)
	p.file(1, 2, 8, "a", "hello", []int64{1}, []int64{6})
	p.file(1, 36, 12, "b.b", strings.Repeat("x", 64)+"y", []int64{4, 3}, []int64{41, 7})
	p.file(1, 7, 13, "c", "", nil, nil)
	return p
}

func sameMounted(a, b impl.Mounted) bool {
	return a.Code == b.Code && a.Seq == b.Seq && slices.Equal(a.Files, b.Files) && slices.Equal(a.Table, b.Table) && slices.Equal(a.Counts, b.Counts)
}

func wantMounted(t *testing.T, what string, d impl.Disk, g impl.Geometry, want impl.Mounted) {
	t.Helper()
	before := copyDisk(d)
	if got := impl.Mount(d, g); !sameMounted(got, want) {
		t.Errorf("%s:\n got %+v\nwant %+v", what, got, want)
	}
	wantDisk(t, what+": the argument", d, before)
}

func wantCode(t *testing.T, what string, p *picture, code int64) {
	t.Helper()
	if code != 0 {
		wantMounted(t, what, p.disk(), p.g, impl.Mounted{Code: code})
	} else if m := impl.Mount(p.disk(), p.g); m.Code != 0 {
		t.Errorf("%s: %+v", what, m)
	}
}

// emptyFiles adds n empty files with lids from 10 on, at addresses that leave segment 4 free.
func emptyFiles(p *picture, n int) {
	addrs := []int64{9, 10, 11, 16, 17, 18, 19, 20, 21, 22, 23, 24, 25, 26, 27, 28, 29, 36, 37, 38, 39, 40}
	for i, addr := range addrs[:n] {
		p.inode(1, int64(10+i), addr, impl.Inode{Name: fmt.Sprint("empty", i)})
	}
}

func TestMountThreeFiles(t *testing.T) {
	table := make([]impl.Entry, 36)
	table[0], table[1] = impl.Entry{Addr: 6}, impl.Entry{Addr: 8, Inode: true}
	table[3], table[2], table[35] = impl.Entry{Addr: 41}, impl.Entry{Addr: 7}, impl.Entry{Addr: 12, Inode: true}
	table[6] = impl.Entry{Addr: 13, Inode: true}
	files := []impl.File{{Name: "a", Data: "hello"}, {Name: "b.b", Data: strings.Repeat("x", 64) + "y"}, {Name: "c"}}
	wantMounted(t, "three files", threeFiles().disk(), middle, impl.Mounted{Seq: 7, Files: files, Table: table, Counts: []int64{3, 2, 0, 0, 0, 1}})
}

// fault is one change of the image of threeFiles for which Mount has this code; faults leave alone what others of another code need.
type fault struct {
	what   string
	code   int64
	change func(p *picture)
}

func headerFaults() []fault {
	return []fault{
		{"no header", 3, func(p *picture) { p.headers[1] = make([]byte, 64) }},
		{"a header of another number of segments", 3, func(p *picture) { p.headers[1][9]++ }},
		{"a header of longer segments", 3, func(p *picture) { p.headers[1][11]++ }},
		{"a header of the transposed geometry", 3, func(p *picture) { p.headers[1][9], p.headers[1][11] = 9, 4 }},
		{"a header with one byte in its gap", 3, func(p *picture) { p.headers[1][30] = 1 }},
		{"a header in the wrong region", 3, func(p *picture) { p.headers[0], p.headers[1] = p.headers[1], nil; p.tables[0] = p.tables[1] }},
		{"a torn header", 3, func(p *picture) { p.headers[1][63]++ }},
		{"Seq one too large", 8, func(p *picture) { p.header(1, impl.MaxSeq-2097152+1) }},
		{"Seq at its largest odd number", 8, func(p *picture) { p.header(1, impl.MaxSeq-1) }},
	}
}

func tableFaults() []fault {
	return []fault{
		{"an inode at 0", 4, func(p *picture) { p.lid(1, 31, inodeBit) }},
		{"an inode at 0 in the last entry", 4, func(p *picture) { p.lid(1, 36, inodeBit) }},
		{"block 1", 4, func(p *picture) { p.lid(1, 31, 1) }},
		{"the block ahead of the log", 4, func(p *picture) { p.lid(1, 31, 5) }},
		{"an inode ahead of the log", 4, func(p *picture) { p.lid(1, 31, 5|inodeBit) }},
		{"the block behind the log", 4, func(p *picture) { p.lid(1, 31, 42) }},
		{"an inode behind the log", 4, func(p *picture) { p.lid(1, 31, 42|inodeBit) }},
		{"the largest address", 4, func(p *picture) { p.lid(1, 31, 32767) }},
		{"an address of data twice", 4, func(p *picture) { p.lid(1, 31, 6) }},
		{"an address of an inode twice", 4, func(p *picture) { p.lid(1, 31, 12|inodeBit) }},
		{"an inode at the address of data", 4, func(p *picture) { p.lid(1, 31, 41|inodeBit) }},
	}
}

func inodeFaults() []fault {
	inode := func(lids ...int64) func(p *picture) {
		return func(p *picture) {
			p.blocks[12] = inodeByHand(impl.Inode{Name: "b.b", Size: int64(64*len(lids)) - 63, Lids: lids})
		}
	}
	return []fault{
		{"a block that is no inode", 5, func(p *picture) { p.blocks[12] = make([]byte, 64) }},
		{"an inode with a stray byte", 5, func(p *picture) { p.blocks[12][63] = 1 }},
		{"data marked as an inode", 5, func(p *picture) { p.lid(1, 4, 41|inodeBit) }},
		{"a lid that is 0", 5, inode(4, 0)},
		{"a lid above Payload", 5, inode(4, 37)},
		{"a lid far above Payload", 5, inode(65535, 3)},
		{"a lid that is not in use", 5, inode(4, 35)},
		{"its own lid", 5, inode(36, 3)},
		{"another inode's lid", 5, inode(4, 7)},
	}
}

func blockFaults() []fault {
	return []fault{
		{"a lid twice in one file", 6, func(p *picture) { p.blocks[8] = inodeByHand(impl.Inode{Name: "a", Size: 65, Lids: []int64{1, 1}}) }},
		{"a lid in two files", 6, func(p *picture) { p.inode(1, 8, 14, impl.Inode{Name: "d", Size: 9, Lids: []int64{1}}) }},
		{"a lid of nobody", 6, func(p *picture) { p.lid(1, 9, 15) }},
		{"a lid of nobody any more", 6, func(p *picture) { p.blocks[8] = inodeByHand(impl.Inode{Name: "a"}) }},
		{"the last lid but one of nobody", 6, func(p *picture) { p.lid(1, 34, 15) }},
		{"two files with one name", 6, func(p *picture) { p.inode(1, 8, 14, impl.Inode{Name: "a"}) }},
		{"a later file with an earlier name", 6, func(p *picture) { p.inode(1, 34, 14, impl.Inode{Name: "c"}) }},
	}
}

func roomFaults() []fault {
	return []fault{
		{"one more than Cap", 7, func(p *picture) { emptyFiles(p, 19) }},
		{"no free segment", 7, func(p *picture) {
			for i, addr := range []int64{18, 29, 33} {
				p.inode(1, int64(20+i), addr, impl.Inode{Name: fmt.Sprint("full", i)})
			}
		}},
	}
}

func allFaults() []fault {
	return slices.Concat(headerFaults(), tableFaults(), inodeFaults(), blockFaults(), roomFaults())
}

func TestMountOneFault(t *testing.T) {
	wantCode(t, "no fault", threeFiles(), 0)
	for _, f := range allFaults() {
		p := threeFiles()
		f.change(p)
		wantCode(t, f.what, p, f.code)
	}
}

// comesFirst is the place of each code in the table of section 3.2.
var comesFirst = map[int64]int{1: 0, 2: 1, 3: 2, 8: 3, 4: 4, 5: 5, 6: 6, 7: 7}

func TestMountTwoFaults(t *testing.T) {
	for _, early := range allFaults() {
		for _, late := range allFaults() {
			if comesFirst[early.code] >= comesFirst[late.code] {
				continue
			}
			p := threeFiles()
			late.change(p)
			early.change(p)
			wantCode(t, early.what+", and "+late.what, p, early.code)
		}
	}
}

func TestMountDiskFaultsComeFirst(t *testing.T) {
	for _, f := range allFaults() {
		p := threeFiles()
		f.change(p)
		pending := p.disk()
		pending.Pending = []impl.Write{{Block: 41, Data: pending.Durable[41*64:]}}
		short := p.disk()
		short.Durable = short.Durable[:41*64]
		for what, d := range map[string]impl.Disk{"pending": pending, "short": short} {
			wantMounted(t, what+", and "+f.what, d, middle, impl.Mounted{Code: 2})
			wantMounted(t, "a bad geometry, "+what+", and "+f.what, d, impl.Geometry{Segs: 3, SegBlocks: 12}, impl.Mounted{Code: 1})
		}
	}
}

func TestMountBadGeometries(t *testing.T) {
	for _, g := range badGeometries() {
		wantMounted(t, fmt.Sprint(g), threeFiles().disk(), g, impl.Mounted{Code: 1})
		wantMounted(t, fmt.Sprint("no disk, ", g), impl.Disk{}, g, impl.Mounted{Code: 1})
	}
}

func TestMountBadDisks(t *testing.T) {
	small := impl.Geometry{Segs: 4, SegBlocks: 2}
	for what, d := range badDisks() {
		wantMounted(t, what, d, small, impl.Mounted{Code: 2})
	}
	for what, d := range goodDisks() {
		wantMounted(t, what, d, small, impl.Mounted{Code: 2})
	}
	for _, blocks := range []int64{1, 11, 13, impl.MaxBlocks} {
		d := impl.NewDisk(blocks)
		copy(d.Durable, impl.FormatDisk(small).Durable)
		wantMounted(t, fmt.Sprint(blocks, " blocks"), d, small, impl.Mounted{Code: 2})
	}
	odd := impl.FormatDisk(small)
	odd.Durable = odd.Durable[:len(odd.Durable)-1]
	wantMounted(t, "one byte short", odd, small, impl.Mounted{Code: 2})
	bad := impl.FormatDisk(small)
	bad.Pending = []impl.Write{{Block: 12, Data: filled(0)}}
	wantMounted(t, "a bad pending write", bad, small, impl.Mounted{Code: 2})
	wantMounted(t, "zeros", impl.NewDisk(12), small, impl.Mounted{Code: 3})
}

// Two geometries may have disks of one size.
func TestMountAnotherGeometryOfThisSize(t *testing.T) {
	wide, long := impl.Geometry{Segs: 8, SegBlocks: 4}, impl.Geometry{Segs: 4, SegBlocks: 8}
	wantMounted(t, "wide for long", impl.FormatDisk(wide), long, impl.Mounted{Code: 3})
	wantMounted(t, "long for wide", impl.FormatDisk(long), wide, impl.Mounted{Code: 3})
}

// twoRegions has the files a (region 1) and b (region 0) in the one log.
func twoRegions(seqs [2]int64) *picture {
	p := newPicture(middle)
	p.header(0, seqs[0])
	p.header(1, seqs[1])
	p.file(1, 2, 8, "a", "old", []int64{1}, []int64{6})
	p.file(0, 1, 9, "b", "new", []int64{2}, []int64{7})
	return p
}

func wantOneFile(t *testing.T, what string, p *picture, seq int64, file impl.File) {
	t.Helper()
	if m := impl.Mount(p.disk(), p.g); m.Code != 0 || m.Seq != seq || len(m.Files) != 1 || m.Files[0] != file {
		t.Errorf("%s: %+v", what, m)
	}
}

func TestMountTheNewerRegion(t *testing.T) {
	a, b := impl.File{Name: "a", Data: "old"}, impl.File{Name: "b", Data: "new"}
	wantOneFile(t, "2 and 1", twoRegions([2]int64{2, 1}), 2, b)
	wantOneFile(t, "2 and 3", twoRegions([2]int64{2, 3}), 3, a)
	wantOneFile(t, "256 and 255", twoRegions([2]int64{256, 255}), 256, b)
	wantOneFile(t, "2 and 257", twoRegions([2]int64{2, 257}), 257, a)
	wantOneFile(t, "far apart", twoRegions([2]int64{impl.MaxSeq - 2097152, 5}), impl.MaxSeq-2097152, b)
	wantOneFile(t, "4 in the wrong region", twoRegions([2]int64{2, 4}), 2, b)
	wantOneFile(t, "5 in the wrong region", twoRegions([2]int64{5, 3}), 3, a)
	wantMounted(t, "both in the wrong region", twoRegions([2]int64{1, 2}).disk(), middle, impl.Mounted{Code: 3})
	wantMounted(t, "the newer one is too large", twoRegions([2]int64{impl.MaxSeq, 5}).disk(), middle, impl.Mounted{Code: 8})
	wantMounted(t, "both are too large", twoRegions([2]int64{impl.MaxSeq, impl.MaxSeq - 1}).disk(), middle, impl.Mounted{Code: 8})
}

func TestMountTornNewerHeader(t *testing.T) {
	old := headerByHand(impl.Header{Seq: 6, Segs: 6, SegBlocks: 6})
	for kept := range 64 {
		p := twoRegions([2]int64{8, 7})
		p.headers[0] = slices.Concat(p.headers[0][:kept], old[kept:])
		wantOneFile(t, fmt.Sprint(kept, " bytes"), p, 7, impl.File{Name: "a", Data: "old"})
	}
	wantOneFile(t, "all of its bytes", twoRegions([2]int64{8, 7}), 8, impl.File{Name: "b", Data: "new"})
}

func TestMountRootAlone(t *testing.T) {
	p := twoRegions([2]int64{2, 3})
	for lid := range int64(36) {
		p.lid(0, lid+1, 32768)
	}
	wantOneFile(t, "a bad table in the older region", p, 3, impl.File{Name: "a", Data: "old"})
	p.header(0, 4)
	wantCode(t, "a bad table in the newer region", p, 4)
	p = twoRegions([2]int64{4, 3})
	p.blocks[9] = filled(1)
	wantCode(t, "a bad inode in the newer region", p, 5)
}

func TestMountSeqLimits(t *testing.T) {
	last := int64(impl.MaxSeq - 2097152)
	for region, seqs := range [][]int64{{2, 4, 1000000, last - 2, last}, {1, 3, 999999, last - 1}} {
		for _, seq := range seqs {
			p := twoRegions([2]int64{0, 0})
			p.headers = [2][]byte{}
			p.header(region, seq)
			if m := impl.Mount(p.disk(), middle); m.Code != 0 || m.Seq != seq {
				t.Errorf("%d: %+v", seq, m)
			}
		}
	}
	for region, seqs := range [][]int64{{last + 2, impl.MaxSeq}, {last + 1, last + 3, impl.MaxSeq - 1}} {
		for _, seq := range seqs {
			p := twoRegions([2]int64{0, 0})
			p.headers = [2][]byte{}
			p.header(region, seq)
			wantCode(t, fmt.Sprint(seq), p, 8)
		}
	}
	for region, seq := range []int64{0, impl.MaxSeq + 1} {
		p := twoRegions([2]int64{0, 0})
		p.headers = [2][]byte{}
		p.header(region, seq)
		wantCode(t, fmt.Sprint(seq), p, 3)
	}
}

func TestMountBytesBehindTheTable(t *testing.T) {
	p := threeFiles()
	for i := 36; i < 64; i++ {
		p.tables[1][i] = uint16(32768 + i%2*i)
	}
	wantCode(t, "numbers behind the last entry", p, 0)
	p.tables[1][35] = 32768
	wantCode(t, "the last entry", p, 4)
}

// The codes are looked for over the whole table: a fault of a later code at a lower lid does not hide one at a higher lid.
func TestMountCodesOverTheWholeTable(t *testing.T) {
	p := threeFiles()
	p.blocks[8] = filled(7)
	p.lid(1, 36, 42)
	wantCode(t, "no inode at lid 2, a bad address at lid 36", p, 4)
	p = threeFiles()
	p.blocks[8] = inodeByHand(impl.Inode{Name: "b.b", Size: 65, Lids: []int64{1, 1}})
	wantCode(t, "twice a lid and twice a name", p, 6)
	p.blocks[12] = filled(7)
	wantCode(t, "twice a lid at lid 2, no inode at lid 36", p, 5)
	p = threeFiles()
	emptyFiles(p, 22)
	wantCode(t, "too many", p, 7)
	p.lid(1, 35, 14)
	wantCode(t, "too many, and the lid 35 of nobody", p, 6)
	p.lid(1, 34, 15|inodeBit)
	wantCode(t, "too many, the lid 35 of nobody, no inode at lid 34", p, 5)
}

func TestMountRoom(t *testing.T) {
	for n := range 23 {
		p := threeFiles()
		emptyFiles(p, n)
		if n > 18 {
			wantCode(t, fmt.Sprint(6+n, " lids"), p, 7)
			continue
		}
		if m := impl.Mount(p.disk(), middle); m.Code != 0 || len(m.Files) != 3+n || m.Counts[4] != 0 {
			t.Errorf("%d lids: %+v", 6+n, m)
		}
	}
	for free := range int64(6) {
		p := newPicture(middle)
		p.header(1, 1)
		for s := range int64(6) {
			p.inode(1, 1+s, 6+6*s+s, impl.Inode{Name: fmt.Sprint(s)})
		}
		wantCode(t, "no segment is free", p, 7)
		p.lid(1, 1+free, 0)
		wantCode(t, fmt.Sprint("segment ", free, " is free"), p, 0)
	}
}

func TestMountFilesOfManySizes(t *testing.T) {
	p := newPicture(impl.Geometry{Segs: 8, SegBlocks: 16})
	p.header(0, 12)
	lid, addr := int64(128), int64(10)
	want := []impl.File{}
	sizes := []int{impl.MaxFile, 0, 65, 1, 64, 63, 128, impl.MaxFile - 1, 129}
	for i, size := range sizes {
		data := string(slices.Repeat(striped(i), 22)[:size])
		lids, addrs := []int64{}, []int64{}
		for range (size + 63) / 64 {
			lids, addrs = append(lids, lid), append(addrs, addr)
			lid, addr = lid-1, addr+1
		}
		name := fmt.Sprint("f", 9-i)
		p.file(0, lid, addr, name, data, lids, addrs)
		lid, addr = lid-1, addr+1
		want = append([]impl.File{{Name: name, Data: data}}, want...)
	}
	m := impl.Mount(p.disk(), p.g)
	if m.Code != 0 || m.Seq != 12 || !slices.Equal(m.Files, want) || !slices.Equal(m.Counts, countsByHand(m.Table, p.g)) {
		t.Errorf("%+v", m)
	}
}

func TestMountFilesByName(t *testing.T) {
	names := []string{"-", "--", ".", "0", "09", "1", "_", "a", "a-", "a.b", "a0", "a_", "aa", "abcdefghijklmnop", "abcdefghijklmnoq", "ab", "z", "zz"}
	sorted := slices.Sorted(slices.Values(names))
	for shift := range names {
		p := newPicture(impl.Geometry{Segs: 4, SegBlocks: 16})
		p.header(1, 1)
		for i := range names {
			p.inode(1, int64(i+1), int64(6+i), impl.Inode{Name: names[(i*5+shift)%len(names)]})
		}
		m := impl.Mount(p.disk(), p.g)
		got := []string{}
		for _, f := range m.Files {
			got = append(got, f.Name)
		}
		if m.Code != 0 || !slices.Equal(got, sorted) {
			t.Errorf("code %d, %q", m.Code, got)
		}
	}
}

// fullPicture has as many lids in use as Cap allows, in files as large as may be; its last two segments are free.
func fullPicture(g impl.Geometry) (*picture, []impl.File) {
	p := newPicture(g)
	p.header(1, 3)
	files := []impl.File{}
	limit := (g.Segs - 2) * g.SegBlocks
	lid := int64(1)
	for lid <= limit {
		lids, addrs := []int64{}, []int64{}
		for lid < limit && len(lids) < impl.MaxLids {
			lids, addrs = append(lids, lid), append(addrs, logOf(g)+lid-1)
			lid++
		}
		f := impl.File{Name: fmt.Sprintf("file%04d", lid), Data: strings.Repeat(string(rune('a'+lid%26)), 64*len(lids))}
		p.file(1, lid, logOf(g)+lid-1, f.Name, f.Data, lids, addrs)
		files = append(files, f)
		lid++
	}
	return p, files
}

func TestMountFullDisks(t *testing.T) {
	for _, g := range []impl.Geometry{{Segs: 4, SegBlocks: 2}, {Segs: 64, SegBlocks: 2}, {Segs: 4, SegBlocks: 16}, {Segs: 64, SegBlocks: 16}} {
		p, files := fullPicture(g)
		m := impl.Mount(p.disk(), g)
		if m.Code != 0 || m.Seq != 3 || !slices.Equal(m.Files, files) || int64(len(m.Table)) != payloadOf(g) {
			t.Errorf("%v: %+v", g, m)
		}
		p.inode(1, payloadOf(g), logOf(g)+payloadOf(g)-1, impl.Inode{Name: "more"})
		wantCode(t, fmt.Sprint(g, " and one more"), p, 7)
	}
}

func TestMountAnswersNewMemory(t *testing.T) {
	d := threeFiles().disk()
	first := impl.Mount(d, middle)
	for i := range first.Table {
		first.Table[i] = impl.Entry{Addr: -1}
	}
	for i := range first.Counts {
		first.Counts[i] = -1
	}
	second := impl.Mount(d, middle)
	if second.Code != 0 || second.Table[0].Addr != 6 || second.Counts[0] != 3 {
		t.Errorf("a second answer: %+v", second)
	}
	scribble(d)
	if second.Files[0].Data != "hello" || second.Files[0].Name != "a" {
		t.Errorf("the answer when the disk is written over: %+v", second)
	}
}

func TestMountAgainIsTheSame(t *testing.T) {
	p, _ := fullPicture(impl.Geometry{Segs: 64, SegBlocks: 16})
	first := impl.Mount(p.disk(), p.g)
	for range 20 {
		wantMounted(t, "again", p.disk(), p.g, first)
	}
}
