package tests

import (
	"math"
	"slices"
	"testing"

	"loop.example/s02881/impl"
)

func TestFileBlocksOfEverySize(t *testing.T) {
	for size := int64(0); size <= impl.MaxFile; size++ {
		blocks := int64(1)
		for covered := int64(0); covered < size; covered += 64 {
			blocks++
		}
		if got := impl.FileBlocks(size); got != blocks {
			t.Errorf("%d: %d, want %d", size, got, blocks)
		}
	}
	for _, size := range append([]int64{-1, -63, -64, -65, impl.MaxFile + 1, impl.MaxFile + 64}, farNumbers...) {
		if got := impl.FileBlocks(size); got != -1 {
			t.Errorf("%d: %d", size, got)
		}
	}
	edges := map[int64]int64{0: 1, 1: 2, 64: 2, 65: 3, 128: 3, 129: 4, 1344: 22, 1345: 23, 1408: 23}
	for size, want := range edges {
		if got := impl.FileBlocks(size); got != want {
			t.Errorf("%d: %d, want %d", size, got, want)
		}
	}
}

// freeByBook goes through the segments from the last one on, so that the last one met is the smallest.
func freeByBook(counts []int64, active int64) int64 {
	found := int64(-1)
	for i := len(counts) - 1; i >= 0; i-- {
		if counts[i] == 0 && int64(i) != active {
			found = int64(i)
		}
	}
	return found
}

// victimByBook asks for each count in turn whether some segment has it.
func victimByBook(counts []int64, active, segBlocks int64) int64 {
	sorted := slices.Sorted(slices.Values(counts))
	for _, count := range sorted {
		for i, c := range counts {
			if c == count && c >= 1 && c < segBlocks && int64(i) != active {
				return int64(i)
			}
		}
	}
	return -1
}

func checkSegments(t *testing.T, counts []int64, active, segBlocks int64) {
	t.Helper()
	before := slices.Clone(counts)
	if got, want := impl.FreeSegment(counts, active), freeByBook(counts, active); got != want {
		t.Errorf("FreeSegment(%v, %d) = %d, want %d", counts, active, got, want)
	}
	if got, want := impl.PickVictim(counts, active, segBlocks), victimByBook(counts, active, segBlocks); got != want {
		t.Errorf("PickVictim(%v, %d, %d) = %d, want %d", counts, active, segBlocks, got, want)
	}
	if !slices.Equal(counts, before) {
		t.Errorf("the counts %v were changed to %v", before, counts)
	}
}

func TestSegmentsOfAllShortLists(t *testing.T) {
	for length := range 5 {
		for shape := range int(math.Pow(5, float64(length))) {
			counts := []int64{}
			for range length {
				counts = append(counts, int64(shape%5)-1)
				shape /= 5
			}
			for active := int64(-2); active <= 5; active++ {
				for segBlocks := int64(-1); segBlocks <= 5; segBlocks++ {
					checkSegments(t, counts, active, segBlocks)
				}
			}
		}
	}
}

func TestSegmentsOfAnyNumbers(t *testing.T) {
	roll := &dice{state: 41}
	pool := append([]int64{-2, -1, 0, 1, 2, 3, 15, 16, 17}, farNumbers...)
	for _, length := range []int{0, 1, 2, 3, 8, 64, 65, 300, 2000} {
		for range 60 {
			counts := []int64{}
			for range length {
				counts = append(counts, pool[roll.roll(len(pool))])
			}
			for _, active := range []int64{-1, int64(roll.roll(length + 2)), pool[roll.roll(len(pool))]} {
				checkSegments(t, counts, active, pool[roll.roll(len(pool))])
			}
		}
	}
}

func TestFreeSegment(t *testing.T) {
	cases := []struct {
		counts []int64
		active int64
		want   int64
	}{
		{nil, -1, -1}, {nil, 0, -1}, {[]int64{0}, -1, 0}, {[]int64{0}, 0, -1}, {[]int64{0}, 1, 0}, {[]int64{0, 0}, 0, 1}, {[]int64{0, 0}, 1, 0},
		{[]int64{1, 0, 0}, 1, 2}, {[]int64{1, 0, 0}, -1, 1}, {[]int64{-1, 0}, -1, 1}, {[]int64{-1, -5}, -1, -1}, {[]int64{3, 2, 1}, -1, -1},
		{[]int64{1, 0}, math.MaxInt64, 1}, {[]int64{1, 0}, math.MinInt64, 1}, {[]int64{1, 0}, 1 << 32, 1}, {[]int64{0, 1}, 1 << 32, 0},
	}
	for _, c := range cases {
		if got := impl.FreeSegment(c.counts, c.active); got != c.want {
			t.Errorf("FreeSegment(%v, %d) = %d, want %d", c.counts, c.active, got, c.want)
		}
	}
}

func TestPickVictim(t *testing.T) {
	cases := []struct {
		counts    []int64
		active    int64
		segBlocks int64
		want      int64
	}{
		{nil, -1, 16, -1}, {[]int64{1}, -1, 2, 0}, {[]int64{1}, 0, 2, -1}, {[]int64{1}, 1, 2, 0}, {[]int64{1}, -1, 1, -1}, {[]int64{0}, -1, 2, -1}, {[]int64{2}, -1, 2, -1},
		{[]int64{3, 2, 2, 1}, 3, 4, 1}, {[]int64{3, 2, 2, 1}, -1, 4, 3}, {[]int64{3, 3, 3}, 0, 4, 1}, {[]int64{4, 4, 3}, -1, 4, 2}, {[]int64{-1, -2, 0, 7}, -1, 8, 3},
		{[]int64{1, 1}, -1, 0, -1}, {[]int64{1, -3}, -1, -2, -1}, {[]int64{1, 2}, -1, math.MinInt64, -1}, {[]int64{math.MaxInt64 - 1, math.MaxInt64}, -1, math.MaxInt64, 0},
		{[]int64{math.MinInt64, math.MaxInt64}, -1, math.MaxInt64, -1}, {[]int64{5, 9}, 1 << 32, 16, 0},
	}
	for _, c := range cases {
		if got := impl.PickVictim(c.counts, c.active, c.segBlocks); got != c.want {
			t.Errorf("PickVictim(%v, %d, %d) = %d, want %d", c.counts, c.active, c.segBlocks, got, c.want)
		}
	}
}

// lidsByBook collects all free lids first.
func lidsByBook(table []impl.Entry, n int64) []int64 {
	all := []int64{}
	for i := range table {
		if table[i].Addr == 0 {
			all = append(all, int64(i+1))
		}
	}
	if n < 0 || n > int64(len(all)) {
		return nil
	}
	return all[:n]
}

func TestFreeLidsOfAnyTable(t *testing.T) {
	roll := &dice{state: 51}
	for _, length := range []int{0, 1, 2, 5, 8, 64, 1024, 1025, 3000} {
		for range 20 {
			table := []impl.Entry{}
			free := int64(0)
			for range length {
				addr := []int64{0, 0, 1, -1, 7, 32767, math.MinInt64, math.MaxInt64}[roll.roll(8)]
				if addr == 0 {
					free++
				}
				table = append(table, impl.Entry{Addr: addr, Inode: roll.roll(2) == 0})
			}
			before := slices.Clone(table)
			for _, n := range append([]int64{-2, -1, 0, 1, 2, free / 2, free - 1, free, free + 1, free + 2, int64(length), int64(length) + 1}, farNumbers...) {
				if got, want := impl.FreeLids(table, n), lidsByBook(table, n); !slices.Equal(got, want) {
					t.Errorf("%d entries, %d free, %d asked: %v, want %v", length, free, n, got, want)
				}
			}
			if !slices.Equal(table, before) {
				t.Errorf("a table of %d entries was changed", length)
			}
		}
	}
}

func TestFreeLidsAtTheEdges(t *testing.T) {
	table := []impl.Entry{{Addr: 5}, {}, {Addr: 0, Inode: true}, {Addr: -1}, {}}
	cases := map[int64][]int64{-1: nil, 0: nil, 1: {2}, 2: {2, 3}, 3: {2, 3, 5}, 4: nil, math.MaxInt64: nil, math.MinInt64: nil}
	for n, want := range cases {
		if got := impl.FreeLids(table, n); !slices.Equal(got, want) {
			t.Errorf("%d: %v, want %v", n, got, want)
		}
	}
	if got := impl.FreeLids(nil, 0); len(got) != 0 {
		t.Errorf("no table, none asked: %v", got)
	}
	if got := impl.FreeLids(nil, 1); len(got) != 0 {
		t.Errorf("no table: %v", got)
	}
}
