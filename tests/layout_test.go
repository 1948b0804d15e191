package tests

import (
	"math"
	"slices"
	"testing"

	"loop.example/s02881/impl"
)

func badGeometries() []impl.Geometry {
	list := []impl.Geometry{{}, {Segs: 3, SegBlocks: 2}, {Segs: 65, SegBlocks: 16}, {Segs: 4, SegBlocks: 1}, {Segs: 64, SegBlocks: 17}, {Segs: 2, SegBlocks: 4}, {Segs: -4, SegBlocks: -2}, {Segs: 4}, {SegBlocks: 2}, {Segs: 1 << 32, SegBlocks: 1 << 32}}
	for _, n := range farNumbers {
		list = append(list, impl.Geometry{Segs: n, SegBlocks: 4}, impl.Geometry{Segs: 8, SegBlocks: n}, impl.Geometry{Segs: n, SegBlocks: n})
	}
	return list
}

func allGeometries() []impl.Geometry {
	list := []impl.Geometry{}
	for segs := int64(4); segs <= 64; segs++ {
		for segBlocks := int64(2); segBlocks <= 16; segBlocks++ {
			list = append(list, impl.Geometry{Segs: segs, SegBlocks: segBlocks})
		}
	}
	return list
}

func TestImageConstants(t *testing.T) {
	if impl.MinSegs != 4 || impl.MaxSegs != 64 || impl.MinSegBlocks != 2 || impl.MaxSegBlocks != 16 {
		t.Error("the limits of chapter 3")
	}
	codes := []int64{impl.ErrGeometry, impl.ErrDisk, impl.ErrNoRoot, impl.ErrTable, impl.ErrInode, impl.ErrBlocks, impl.ErrRoom, impl.ErrSeq}
	if !slices.Equal(codes, []int64{1, 2, 3, 4, 5, 6, 7, 8}) {
		t.Errorf("the codes of section 3.2: %v", codes)
	}
}

func TestLayoutOfEveryGeometry(t *testing.T) {
	for _, g := range allGeometries() {
		p := impl.Layout(g)
		if p.Payload != g.Segs*g.SegBlocks {
			t.Errorf("%v: Payload %d", g, p.Payload)
		}
		if 32*p.Tables < p.Payload || 32*(p.Tables-1) >= p.Payload {
			t.Errorf("%v: Tables %d", g, p.Tables)
		}
		if p.Log != 2+2*p.Tables || p.Blocks != p.Log+p.Payload || p.Cap != (g.Segs-2)*g.SegBlocks {
			t.Errorf("%v: %+v", g, p)
		}
	}
}

func TestLayoutOfSomeGeometries(t *testing.T) {
	want := map[impl.Geometry]impl.Places{
		{Segs: 4, SegBlocks: 2}:   {Payload: 8, Tables: 1, Log: 4, Blocks: 12, Cap: 4},
		{Segs: 16, SegBlocks: 2}:  {Payload: 32, Tables: 1, Log: 4, Blocks: 36, Cap: 28},
		{Segs: 11, SegBlocks: 3}:  {Payload: 33, Tables: 2, Log: 6, Blocks: 39, Cap: 27},
		{Segs: 4, SegBlocks: 16}:  {Payload: 64, Tables: 2, Log: 6, Blocks: 70, Cap: 32},
		{Segs: 64, SegBlocks: 2}:  {Payload: 128, Tables: 4, Log: 10, Blocks: 138, Cap: 124},
		{Segs: 64, SegBlocks: 16}: {Payload: 1024, Tables: 32, Log: 66, Blocks: 1090, Cap: 992},
	}
	for g, p := range want {
		if got := impl.Layout(g); got != p {
			t.Errorf("%v: %+v, want %+v", g, got, p)
		}
	}
}

func TestBadGeometriesHaveZeroAnswers(t *testing.T) {
	for _, g := range badGeometries() {
		if p := impl.Layout(g); p != (impl.Places{}) {
			t.Errorf("Layout(%v): %+v", g, p)
		}
		if !zeroDisk(impl.FormatDisk(g)) {
			t.Errorf("FormatDisk(%v)", g)
		}
		if c := impl.SegmentCounts([]impl.Entry{{Addr: 4}, {Addr: 0}}, g); len(c) != 0 {
			t.Errorf("SegmentCounts of %v: %v", g, c)
		}
	}
}

func TestFormatOfEveryGeometry(t *testing.T) {
	for _, g := range allGeometries() {
		p := newPicture(g)
		p.header(1, 1)
		d := impl.FormatDisk(g)
		wantDisk(t, "a fresh disk", d, p.disk())
		m := impl.Mount(d, g)
		if m.Code != 0 || m.Seq != 1 || len(m.Files) != 0 {
			t.Fatalf("%v: %+v", g, m)
		}
		if !slices.Equal(m.Table, make([]impl.Entry, payloadOf(g))) || !slices.Equal(m.Counts, make([]int64, g.Segs)) {
			t.Fatalf("%v: %+v", g, m)
		}
	}
}

func TestFormatAnswersNewMemory(t *testing.T) {
	g := impl.Geometry{Segs: 4, SegBlocks: 2}
	d := impl.FormatDisk(g)
	scribble(d)
	if m := impl.Mount(impl.FormatDisk(g), g); m.Code != 0 {
		t.Errorf("a second disk: %+v", m)
	}
}

// countsByHand asks each segment for each of its blocks.
func countsByHand(table []impl.Entry, g impl.Geometry) []int64 {
	counts := []int64{}
	addr := logOf(g)
	for range g.Segs {
		n := int64(0)
		for range g.SegBlocks {
			for _, e := range table {
				if e.Addr == addr {
					n++
				}
			}
			addr++
		}
		counts = append(counts, n)
	}
	return counts
}

func TestSegmentCountsOfAnyTable(t *testing.T) {
	roll := &dice{state: 31}
	geometries := []impl.Geometry{{Segs: 4, SegBlocks: 2}, {Segs: 11, SegBlocks: 3}, {Segs: 6, SegBlocks: 6}, {Segs: 64, SegBlocks: 16}}
	for _, g := range geometries {
		for _, length := range []int{0, 1, 7, int(payloadOf(g)), 1024, 1025, 1500} {
			table := []impl.Entry{}
			for range length {
				addr := int64(roll.roll(int(logOf(g)+payloadOf(g)+6))) - 3
				if roll.roll(20) == 0 {
					addr = farNumbers[roll.roll(len(farNumbers))]
				}
				table = append(table, impl.Entry{Addr: addr, Inode: roll.roll(2) == 0})
			}
			before := slices.Clone(table)
			got := impl.SegmentCounts(table, g)
			if want := countsByHand(table, g); !slices.Equal(got, want) {
				t.Errorf("%v, %d entries: %v, want %v", g, length, got, want)
			}
			if !slices.Equal(table, before) {
				t.Errorf("%v: the table was changed", g)
			}
		}
	}
}

func TestSegmentCountsAtTheEdges(t *testing.T) {
	g := impl.Geometry{Segs: 5, SegBlocks: 3}
	cases := []struct {
		addr int64
		want []int64
	}{
		{math.MinInt64, []int64{0, 0, 0, 0, 0}}, {-4, []int64{0, 0, 0, 0, 0}}, {0, []int64{0, 0, 0, 0, 0}}, {3, []int64{0, 0, 0, 0, 0}},
		{4, []int64{1, 0, 0, 0, 0}}, {6, []int64{1, 0, 0, 0, 0}}, {7, []int64{0, 1, 0, 0, 0}}, {15, []int64{0, 0, 0, 1, 0}}, {16, []int64{0, 0, 0, 0, 1}},
		{18, []int64{0, 0, 0, 0, 1}}, {19, []int64{0, 0, 0, 0, 0}}, {math.MaxInt64, []int64{0, 0, 0, 0, 0}},
	}
	for _, c := range cases {
		if got := impl.SegmentCounts([]impl.Entry{{Addr: c.addr}}, g); !slices.Equal(got, c.want) {
			t.Errorf("%d: %v, want %v", c.addr, got, c.want)
		}
	}
	if got := impl.SegmentCounts(nil, g); !slices.Equal(got, make([]int64, 5)) {
		t.Errorf("no table: %v", got)
	}
}
