package tests

import (
	"fmt"
	"slices"
	"strings"
	"testing"

	"loop.example/s02881/impl"
)

// lawful are the lists of files that a mount may find after a run and a crash: those of the last sync, and the working ones too if a sync was stopped.
func lawful(g impl.Geometry, start []impl.File, calls []impl.Call, r impl.RunResult) [][]impl.File {
	plain := newPlainStore(g, start)
	for _, c := range calls[:len(r.Answers)] {
		plain.answer(c)
	}
	lists := [][]impl.File{plainList(plain.durable)}
	if r.Stopped && calls[len(r.Answers)].Kind == impl.CallSync {
		lists = append(lists, plainList(plain.working))
	}
	return lists
}

// drawnChoice loses, keeps or tears.
func drawnChoice(roll *dice) int64 {
	return []int64{0, 64, int64(1 + roll.roll(63)), -1, 0, 64}[roll.roll(6)]
}

// drawnCrashes are all lost, all kept, one torn, one kept, one lost, and drawn ones; a write that is alone is torn at every byte.
func drawnCrashes(roll *dice, pending int) [][]int64 {
	if pending == 0 {
		return [][]int64{nil}
	}
	if pending == 1 {
		list := [][]int64{nil}
		for c := range int64(65) {
			list = append(list, []int64{c})
		}
		return list
	}
	kept := slices.Repeat([]int64{64}, pending)
	torn, lost, alone, drawn := slices.Clone(kept), slices.Clone(kept), make([]int64, pending), make([]int64, pending)
	torn[roll.roll(pending)] = int64(1 + roll.roll(63))
	lost[roll.roll(pending)] = 0
	alone[roll.roll(pending)] = 64
	for i := range drawn {
		drawn[i] = drawnChoice(roll)
	}
	return [][]int64{nil, kept, torn, lost, alone, drawn}
}

func wantOneOf(t *testing.T, what string, d impl.Disk, g impl.Geometry, lists [][]impl.File) {
	t.Helper()
	m := impl.Mount(d, g)
	for _, list := range lists {
		if m.Code == 0 && slices.Equal(m.Files, list) {
			return
		}
	}
	t.Fatalf("%s: Code %d, Seq %d, files %q; lawful are %q", what, m.Code, m.Seq, m.Files, lists)
}

// crashEverywhere stops a run at these operations, each time with crashes; it answers one of the disks that are left.
func crashEverywhere(t *testing.T, what string, roll *dice, d impl.Disk, g impl.Geometry, calls []impl.Call, limits []int64) impl.Disk {
	t.Helper()
	start := impl.Mount(d, g)
	left := d
	for _, limit := range limits {
		r := impl.Run(d, g, calls, limit)
		lists := lawful(g, start.Files, calls, r)
		for _, choices := range drawnCrashes(roll, len(r.Disk.Pending)) {
			crashed := impl.DiskCrash(r.Disk, choices)
			wantOneOf(t, fmt.Sprint(what, ", ", g, ", stopped at ", limit, ", crash ", choices), crashed, g, lists)
			if roll.roll(len(limits)) == 0 {
				left = crashed
			}
		}
	}
	return left
}

func upTo(ops int64) []int64 {
	limits := []int64{-1}
	for limit := range ops + 1 {
		limits = append(limits, limit)
	}
	return limits
}

// Promise 9.

// Each run begins on what a crash of the run before has left.
func TestCrashesAtEveryOperation(t *testing.T) {
	roll := &dice{state: 107}
	stopped := map[int64]int{}
	for round := range 40 {
		g := drawnGeometry(roll)
		d := impl.FormatDisk(g)
		for leg := range 4 {
			calls := drawnRun(roll, g, 10+roll.roll(30))
			book := runByBook(d, g, calls)
			for _, o := range book.ops {
				stopped[calls[o.call].Kind]++
			}
			d = crashEverywhere(t, fmt.Sprint("round ", round, ", leg ", leg), roll, d, g, calls, upTo(int64(len(book.ops))))
		}
	}
	for _, kind := range []int64{impl.CallWrite, impl.CallTruncate, impl.CallSync, impl.CallClean} {
		if stopped[kind] < 300 {
			t.Errorf("only %d stops in calls of kind %d", stopped[kind], kind)
		}
	}
}

// pressed is a store whose space is short, so that writes need cleaning runs of durable and of working files.
func pressed(roll *dice, g impl.Geometry) []impl.Call {
	room := int((g.Segs - 2) * g.SegBlocks)
	calls := []impl.Call{}
	for i := range room * 3 / 4 {
		calls = append(calls, callWrite(fmt.Sprint("f", i), ""))
	}
	calls = append(calls, callSync)
	for range 50 {
		names := []int{3, room * 3 / 4}[roll.roll(2)]
		calls = append(calls, callWrite(drawnName(roll, names), drawnData(roll, roll.roll(65))))
		if roll.roll(6) == 0 {
			calls = append(calls, callDelete(drawnName(roll, names)))
		}
		if roll.roll(7) == 0 {
			calls = append(calls, callSync)
		}
	}
	return calls
}

func TestCrashesInCleaningRuns(t *testing.T) {
	roll := &dice{state: 109}
	cleaning := 0
	for round := range 30 {
		g := drawnGeometry(roll)
		d := impl.FormatDisk(g)
		calls := pressed(roll, g)
		book := runByBook(d, g, calls)
		for _, o := range book.ops {
			if o.data == nil && calls[o.call].Kind == impl.CallWrite {
				cleaning++
			}
		}
		crashEverywhere(t, fmt.Sprint("round ", round), roll, d, g, calls, upTo(int64(len(book.ops))))
	}
	if cleaning < 200 {
		t.Errorf("only %d barriers of cleaning runs in writes", cleaning)
	}
}

// With more than 256 writes a barrier comes of itself, and must not make anything durable that no sync has.
func TestCrashesOfManyWrites(t *testing.T) {
	roll := &dice{state: 113}
	d := impl.FormatDisk(huge)
	for leg := range 3 {
		calls := []impl.Call{}
		for i := range 90 {
			calls = append(calls, callWrite(drawnName(roll, 25), drawnData(roll, roll.roll(impl.MaxFile+1))))
			if i%40 == 20 {
				calls = append(calls, callSync)
			}
		}
		limits := limitsAround(runByBook(d, huge, calls).ops)
		d = crashEverywhere(t, fmt.Sprint("leg ", leg), roll, d, huge, calls, limits)
	}
}

// Either side of the sync is lawful while it is stopped; behind it only the new files are, ahead of it only the old ones.
func TestCrashesInASync(t *testing.T) {
	calls := []impl.Call{callWrite("a", "old"), callSync, callWrite("a", "new"), callDelete("a"), callWrite("b", "new"), callSync, callStat}
	start := impl.FormatDisk(middle)
	old, new := []impl.File{{Name: "a", Data: "old"}}, []impl.File{{Name: "b", Data: "new"}}
	first := int64(2 + 5)
	for limit := first; limit <= first+4+5; limit++ {
		r := impl.Run(start, middle, calls, limit)
		for c := range int64(65) {
			m := impl.Mount(impl.DiskCrash(r.Disk, slices.Repeat([]int64{c}, len(r.Disk.Pending))), middle)
			want := old
			if limit == first+4+5 || limit == first+4+4 && c == 64 {
				want = new
			}
			torn := limit == first+4+4 && c > 0 && c < 64
			if m.Code != 0 || !slices.Equal(m.Files, want) && !(torn && slices.Equal(m.Files, new)) {
				t.Errorf("limit %d, choices %d: %+v", limit, c, m)
			}
		}
	}
}

// Working files move with the durable ones, but only these are in the checkpoint of a cleaning run.
func TestCleaningKeepsWorkingFilesOutOfTheCheckpoint(t *testing.T) {
	calls := []impl.Call{
		callWrite("a", "old"), callSync, callWrite("x", ""), callWrite("c", ""), callWrite("x", ""), callClean,
		callWrite("a", "new"), callRead("a"), callRead("c"), callList, callStat,
	}
	g := impl.Geometry{Segs: 8, SegBlocks: 4}
	r := wantCodes(t, g, calls, make([]int64, len(calls)))
	if r.Answers[5].Num != 3 || r.Answers[7].Data != "new" || strings.Join(r.Answers[9].Names, " ") != "a c x" || r.Answers[10].Stat != (impl.Stat{Files: 3, Live: 6, Free: 26, Active: 0, Seq: 3}) {
		t.Errorf("%+v", r.Answers)
	}
	table := make([]impl.Entry, 32)
	table[0], table[1] = impl.Entry{Addr: 9}, impl.Entry{Addr: 10, Inode: true}
	want := impl.Mounted{Seq: 3, Files: []impl.File{{Name: "a", Data: "old"}}, Table: table, Counts: []int64{0, 2, 0, 0, 0, 0, 0, 0}}
	for _, choices := range [][]int64{nil, slices.Repeat([]int64{64}, len(r.Disk.Pending))} {
		wantMounted(t, "after the cleaning run", impl.DiskCrash(r.Disk, choices), g, want)
	}
}

// Promise 10.

func TestDisksAfterRuns(t *testing.T) {
	roll := &dice{state: 127}
	for round := range 120 {
		g := drawnGeometry(roll)
		d := impl.FormatDisk(g)
		files := []impl.File{}
		for leg := range 4 {
			calls := drawnRun(roll, g, 150)
			r := runAll(t, d, g, calls)
			files = lawful(g, files, calls, r)[0]
			d = impl.DiskBarrier(r.Disk)
			m := impl.Mount(d, g)
			if m.Code != 0 || !slices.Equal(m.Files, files) {
				t.Fatalf("%v, round %d, leg %d: Code %d, files %q, want %q", g, round, leg, m.Code, m.Files, files)
			}
			wantSoundTable(t, g, m.Table)
			if roll.roll(3) == 0 {
				d = impl.DiskCrash(impl.Run(d, g, drawnRun(roll, g, 40), int64(roll.roll(60))).Disk, rolledChoices(roll))
				files = impl.Mount(d, g).Files
			}
		}
	}
}

func wantSoundTable(t *testing.T, g impl.Geometry, table []impl.Entry) {
	t.Helper()
	met, segments := map[int64]int{}, map[int64]int{}
	for i, e := range table {
		if e.Addr == 0 {
			continue
		}
		if met[e.Addr] != 0 {
			t.Errorf("%v: the lids %d and %d are both at %d", g, met[e.Addr], i+1, e.Addr)
		}
		met[e.Addr] = i + 1
		segments[(e.Addr-logOf(g))/g.SegBlocks]++
	}
	if int64(len(met)) > (g.Segs-2)*g.SegBlocks || int64(len(segments)) >= g.Segs {
		t.Errorf("%v: %d lids in use, %d segments in use", g, len(met), len(segments))
	}
}

// Promise 11.

func TestGoingOnInANewRun(t *testing.T) {
	roll := &dice{state: 131}
	splits := 0
	for round := range 150 {
		g := drawnGeometry(roll)
		calls := drawnRun(roll, g, 120)
		whole := runAll(t, impl.FormatDisk(g), g, calls)
		d, from := impl.FormatDisk(g), 0
		for i, c := range calls {
			if !(c == callSync && roll.roll(2) == 0) && i != len(calls)-1 {
				continue
			}
			r := runAll(t, d, g, calls[from:i+1])
			for j, a := range r.Answers {
				if !sameAnswer(withoutPlaces(a), withoutPlaces(whole.Answers[from+j])) {
					t.Fatalf("%v, round %d, call %d: %+v, and in one run %+v", g, round, from+j, a, whole.Answers[from+j])
				}
			}
			d, from = impl.DiskBarrier(r.Disk), i+1
			splits++
		}
		a, b := impl.Mount(d, g), impl.Mount(impl.DiskBarrier(whole.Disk), g)
		if a.Code != 0 || b.Code != 0 || !slices.Equal(a.Files, b.Files) {
			t.Fatalf("%v, round %d: %+v, and in one run %+v", g, round, a, b)
		}
	}
	if splits < 500 {
		t.Errorf("only %d runs", splits)
	}
}

// Promise 14.

// crowdedPicture has exactly Cap lids in use, but for so many spare ones, and exactly one free segment; lids and blocks are all over the place.
func crowdedPicture(roll *dice, g impl.Geometry, spare int64) *picture {
	p := newPicture(g)
	seq := int64(1 + roll.roll(1000000))
	region := int(seq % 2)
	p.header(region, seq)
	count := max((g.Segs-2)*g.SegBlocks-spare, g.Segs-1)
	lids := shuffled(roll, 1, payloadOf(g))[:count]
	addrs := crowdedAddresses(roll, g)[:count]
	for i := 0; len(lids) > 0; i++ {
		blocks := min(roll.roll(5), len(lids)-1, impl.MaxLids)
		data := drawnData(roll, max(0, 64*blocks-roll.roll(64)))
		p.file(region, lids[blocks], addrs[blocks], fmt.Sprint("f", i), data, slices.Clone(lids[:blocks]), slices.Clone(addrs[:blocks]))
		lids, addrs = lids[blocks+1:], addrs[blocks+1:]
	}
	return p
}

// crowdedAddresses begin with one block of each segment but one, of which there is none.
func crowdedAddresses(roll *dice, g impl.Geometry) []int64 {
	empty := int64(roll.roll(int(g.Segs)))
	first, rest := []int64{}, []int64{}
	met := map[int64]int{}
	for _, addr := range shuffled(roll, logOf(g), payloadOf(g)) {
		segment := (addr - logOf(g)) / g.SegBlocks
		met[segment]++
		if segment == empty {
			continue
		}
		if met[segment] == 1 {
			first = append(first, addr)
		} else {
			rest = append(rest, addr)
		}
	}
	return append(first, rest...)
}

// fillUp makes calls until nothing fits any more, deletes and syncs, and begins again; the plain store tells when.
func fillUp(roll *dice, g impl.Geometry, start []impl.File, count int) []impl.Call {
	plain := newPlainStore(g, start)
	calls := []impl.Call{}
	call := func(c impl.Call) int64 {
		calls = append(calls, c)
		return plain.answer(c).Code
	}
	for len(calls) < count {
		call(callWrite(drawnName(roll, 30), drawnData(roll, drawnSize(roll, 6))))
		if plain.used() == plain.limit || roll.roll(6) == 0 {
			left := min(plain.limit-plain.used(), 23)
			call(callWrite("exact", drawnData(roll, max(0, 64*(left-1)))))
			call(callWrite("more", ""))
			for range 1 + roll.roll(4) {
				names := plainList(plain.working)
				if len(names) > 0 {
					call(callDelete(names[roll.roll(len(names))].Name))
				}
			}
			call(callSync)
		}
	}
	return calls
}

func TestForeignDisksCanBeWritten(t *testing.T) {
	roll := &dice{state: 137}
	refused := 0
	geometries := plainGeometries(roll)
	for range 60 {
		geometries = append(geometries, drawnGeometry(roll))
	}
	for round, g := range geometries {
		d := crowdedPicture(roll, g, []int64{0, 0, 0, 1, 2}[roll.roll(5)]).disk()
		m := impl.Mount(d, g)
		if free := slices.DeleteFunc(slices.Clone(m.Counts), func(n int64) bool { return n != 0 }); m.Code != 0 || len(free) != 1 {
			t.Fatalf("%v, round %d: the test itself is wrong: Code %d, counts %v", g, round, m.Code, m.Counts)
		}
		calls := append(fillUp(roll, g, m.Files, 150), drawnCalls(roll, 100, 30, 4)...)
		book := runByBook(d, g, calls)
		r := wantRun(t, fmt.Sprint(g, ", round ", round), d, g, calls, -1, book.at(-1))
		plain := newPlainStore(g, m.Files)
		for i, c := range calls {
			if want := plain.answer(c); !sameAnswer(withoutPlaces(r.Answers[i]), want) {
				t.Fatalf("%v, round %d, call %d: %+v, want %+v", g, round, i, r.Answers[i], want)
			}
			if r.Answers[i].Code == impl.ErrNoSpace {
				refused++
			}
		}
		limits := []int64{}
		for range 15 {
			limits = append(limits, int64(roll.roll(len(book.ops)+1)))
		}
		crashEverywhere(t, fmt.Sprint("round ", round), roll, d, g, calls, limits)
	}
	if refused < 500 {
		t.Errorf("only %d calls were refused for space", refused)
	}
}

// The worst that Mount accepts: all segments but one hold something, and nothing can be written before a sync.
func TestForeignDiskAtItsLimits(t *testing.T) {
	p := newPicture(tiny)
	p.header(0, 1000000)
	p.inode(0, 8, 11, impl.Inode{Name: "z"})
	p.inode(0, 3, 8, impl.Inode{Name: "y"})
	p.file(0, 1, 7, "x", "hello", []int64{5}, []int64{6})
	calls := []impl.Call{callStat, callWrite("n", ""), callTruncate("z", 0), callDelete("z"), callWrite("n", ""), callSync, callStat, callWrite("n", ""), callStat, callWrite("m", ""), callRead("x"), callList}
	r := runAll(t, p.disk(), tiny, calls)
	if got := codesOf(r.Answers); !slices.Equal(got, []int64{0, 24, 24, 0, 24, 0, 0, 0, 0, 24, 0, 0}) {
		t.Errorf("%v", got)
	}
	stats := []impl.Stat{{Files: 3, Live: 4, Free: 2, Active: -1, Seq: 1000000}, {Files: 2, Live: 3, Free: 4, Active: -1, Seq: 1000001}, {Files: 3, Live: 4, Free: 3, Active: 0, Seq: 1000001}}
	for i, at := range []int{0, 6, 8} {
		if r.Answers[at].Stat != stats[i] {
			t.Errorf("call %d: %+v, want %+v", at, r.Answers[at].Stat, stats[i])
		}
	}
	if r.Answers[10].Data != "hello" || strings.Join(r.Answers[11].Names, " ") != "n x y" {
		t.Errorf("%+v", r.Answers)
	}
}

// Behind the data of a file a foreign disk may hold anything; it must not come back.
func TestForeignBytesBehindTheData(t *testing.T) {
	calls := []impl.Call{callTruncate("a", 8), callRead("a"), callTruncate("a", 70), callRead("a"), callTruncate("b.b", 66), callRead("b.b"), callSync}
	r := runAll(t, threeFiles().disk(), middle, calls)
	want := []string{"hello\x00\x00\x00", "hello" + strings.Repeat("\x00", 65), strings.Repeat("x", 64) + "y\x00"}
	for i, data := range want {
		if got := r.Answers[2*i+1].Data; got != data {
			t.Errorf("%q, want %q", got, data)
		}
	}
	if m := impl.Mount(r.Disk, middle); m.Code != 0 || !slices.Equal(m.Files, []impl.File{{Name: "a", Data: want[1]}, {Name: "b.b", Data: want[2]}, {Name: "c"}}) {
		t.Errorf("%+v", m)
	}
}

// A mounted store counts on from the largest Seq that Mount accepts; its disk is then not mounted again.
func TestSeqCountsOn(t *testing.T) {
	for seq, code := range map[int64]int64{1: 0, 2: 0, 1000000: 0, impl.MaxSeq - 2097152 - 1: 0, impl.MaxSeq - 2097152: 8} {
		p := newPicture(tiny)
		p.header(int(seq%2), seq)
		r := runAll(t, p.disk(), tiny, []impl.Call{callWrite("a", "x"), callSync, callStat})
		if r.Answers[2].Stat.Seq != seq+1 {
			t.Errorf("Seq %d: %+v", seq, r.Answers[2])
		}
		if again := impl.Run(r.Disk, tiny, nil, -1); again.Code != code {
			t.Errorf("Seq %d, run again: %d, want %d", seq, again.Code, code)
		}
	}
}
