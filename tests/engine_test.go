package tests

import (
	"fmt"
	"math"
	"slices"
	"strings"
	"testing"

	"loop.example/s02881/impl"
)

// tiny has a table of one block: Payload 8, Log 4, Blocks 12, Cap 4; its segments begin at 4, 6, 8 and 10.
var tiny = impl.Geometry{Segs: 4, SegBlocks: 2}

// huge has a table of 32 blocks: Payload 1024, Log 66, Blocks 1090, Cap 992.
var huge = impl.Geometry{Segs: 64, SegBlocks: 16}

func codesOf(answers []impl.Answer) []int64 {
	codes := []int64{}
	for _, a := range answers {
		codes = append(codes, a.Code)
	}
	return codes
}

// runAll asks that all calls are answered.
func runAll(t *testing.T, d impl.Disk, g impl.Geometry, calls []impl.Call) impl.RunResult {
	t.Helper()
	r := impl.Run(d, g, calls, -1)
	if r.Code != 0 || r.Stopped || len(r.Answers) != len(calls) {
		t.Fatalf("Code %d, Stopped %v, %d answers to %d calls", r.Code, r.Stopped, len(r.Answers), len(calls))
	}
	return r
}

func wantCodes(t *testing.T, g impl.Geometry, calls []impl.Call, want []int64) impl.RunResult {
	t.Helper()
	r := runAll(t, impl.FormatDisk(g), g, calls)
	if got := codesOf(r.Answers); !slices.Equal(got, want) {
		t.Errorf("the codes are\n%v, want\n%v", got, want)
	}
	return r
}

func TestEngineConstants(t *testing.T) {
	kinds := []int64{impl.CallWrite, impl.CallRead, impl.CallTruncate, impl.CallDelete, impl.CallList, impl.CallSync, impl.CallClean, impl.CallStat}
	codes := []int64{impl.ErrCall, impl.ErrName, impl.ErrNotFound, impl.ErrTooBig, impl.ErrNoSpace}
	if !slices.Equal(kinds, []int64{1, 2, 3, 4, 5, 6, 7, 8}) || !slices.Equal(codes, []int64{20, 21, 22, 23, 24}) || impl.MaxCalls != 1000 {
		t.Error("the constants of chapter 5")
	}
}

// Promise 6.

func wantCodeAlone(t *testing.T, what string, d impl.Disk, g impl.Geometry, calls []impl.Call, code int64) {
	t.Helper()
	for _, limit := range []int64{-1, 0, 1, 1000, math.MinInt64, math.MaxInt64} {
		wantRun(t, what, d, g, calls, limit, impl.RunResult{Code: code})
	}
}

func TestRunOfTooManyCalls(t *testing.T) {
	many := make([]impl.Call, impl.MaxCalls+1)
	for i := range many {
		many[i] = callStat
	}
	d := impl.FormatDisk(tiny)
	wantCodeAlone(t, "one call too many", d, tiny, many, 20)
	wantCodeAlone(t, "far too many calls", d, tiny, make([]impl.Call, 5000), 20)
	wantCodeAlone(t, "one call too many, no geometry", d, impl.Geometry{}, many, 20)
	wantCodeAlone(t, "one call too many, no disk", impl.Disk{}, tiny, many, 20)
	if r := runAll(t, d, tiny, many[1:]); r.Ops != 0 || r.Answers[999].Stat.Free != 8 {
		t.Errorf("MaxCalls calls: %d operations, the last answer %+v", r.Ops, r.Answers[999])
	}
}

func TestRunOfWhatMountRefuses(t *testing.T) {
	calls := []impl.Call{callWrite("new", "x"), callSync, {}}
	for _, some := range [][]impl.Call{nil, calls} {
		for _, f := range allFaults() {
			p := threeFiles()
			f.change(p)
			wantCodeAlone(t, f.what, p.disk(), middle, some, f.code)
		}
		for _, g := range badGeometries() {
			wantCodeAlone(t, fmt.Sprint(g), threeFiles().disk(), g, some, 1)
		}
		for what, d := range badDisks() {
			wantCodeAlone(t, what, d, tiny, some, 2)
		}
		pending := impl.DiskWrite(impl.FormatDisk(tiny), 11, striped(1))
		wantCodeAlone(t, "a pending write", pending, tiny, some, 2)
		wantCodeAlone(t, "a disk of another geometry", impl.FormatDisk(middle), tiny, some, 2)
	}
}

func TestRunWithoutCalls(t *testing.T) {
	for _, p := range []*picture{threeFiles(), twoRegions([2]int64{4, 5})} {
		d := p.disk()
		for _, limit := range append([]int64{-1, 0, 1}, farNumbers...) {
			wantRun(t, "no calls", d, p.g, nil, limit, impl.RunResult{Disk: d})
		}
	}
}

// The bytes of a first file and its sync, laid out by hand.
func TestRunOperationsByHand(t *testing.T) {
	calls := []impl.Call{callWrite("a", "hello"), callRead("a"), callSync, callStat}
	start := impl.FormatDisk(tiny)
	data := append([]byte("hello"), make([]byte, 59)...)
	inode := inodeByHand(impl.Inode{Name: "a", Size: 5, Lids: []int64{1}})
	table := append([]byte{0, 4, 0x80, 5}, make([]byte, 60)...)
	header := headerByHand(impl.Header{Seq: 2, Segs: 4, SegBlocks: 2})
	ops := []bookOp{{0, 4, data}, {0, 5, inode}, {2, 1, table}, {2, 0, nil}, {2, 0, header}, {2, 0, nil}}
	stat := impl.Stat{Files: 1, Live: 2, Free: 6, Active: 0, Seq: 2}
	run := bookRun{start: start, ops: ops, answers: []impl.Answer{{}, {Data: "hello"}, {}, {Stat: stat}}}
	for limit, answers := range []int{0, 0, 2, 2, 2, 2, 4, 4} {
		want := run.at(int64(limit))
		if len(want.Answers) != answers || want.Stopped != (limit < 6) {
			t.Errorf("limit %d: the test itself is wrong: %+v", limit, want)
		}
		wantRun(t, "by hand", start, tiny, calls, int64(limit), want)
	}
	for _, limit := range farNumbers {
		wantRun(t, "by hand", start, tiny, calls, limit, run.at(-1))
	}
}

func TestRunsAtEveryLimit(t *testing.T) {
	roll := &dice{state: 71}
	stops := 0
	for round := range 60 {
		g := drawnGeometry(roll)
		d := impl.FormatDisk(g)
		for leg := range 3 {
			calls := drawnRun(roll, g, 10+roll.roll(40))
			book := runByBook(d, g, calls)
			for limit := range int64(len(book.ops)) + 2 {
				wantRun(t, fmt.Sprint(g, ", round ", round, ", leg ", leg), d, g, calls, limit, book.at(limit))
			}
			whole := wantRun(t, fmt.Sprint(g, ", round ", round, ", leg ", leg), d, g, calls, -1-int64(roll.roll(9)), book.at(-1))
			d = impl.DiskBarrier(whole.Disk)
			stops += len(book.ops)
		}
	}
	if stops < 5000 {
		t.Errorf("only %d places to stop at", stops)
	}
}

// unsaved is a run of so many writes on a huge store and nothing else.
func unsaved(writes int) []impl.Call {
	calls := []impl.Call{}
	for writes > 0 {
		blocks := min(23, writes)
		calls = append(calls, callWrite(fmt.Sprint("f", len(calls)), strings.Repeat("u", 64*(blocks-1))))
		writes -= blocks
	}
	return calls
}

func TestBarrierAheadOfAWrite(t *testing.T) {
	d := impl.FormatDisk(huge)
	full := unsaved(256)
	if r := runAll(t, d, huge, full); r.Ops != 256 || len(r.Disk.Pending) != 256 {
		t.Errorf("%d operations, %d pending", r.Ops, len(r.Disk.Pending))
	}
	one := append(slices.Clone(full), callRead("f0"), callClean, callDelete("f1"), callList, callStat, impl.Call{}, callWrite("last", ""))
	cases := []struct {
		limit   int64
		stopped bool
		ops     int64
		pending int
		answers int
	}{
		{255, true, 255, 255, len(full) - 1}, {256, true, 256, 256, len(one) - 1}, {257, true, 257, 0, len(one) - 1}, {258, false, 258, 1, len(one)}, {-1, false, 258, 1, len(one)},
	}
	for _, c := range cases {
		r := impl.Run(d, huge, one, c.limit)
		if r.Stopped != c.stopped || r.Ops != c.ops || len(r.Disk.Pending) != c.pending || len(r.Answers) != c.answers {
			t.Errorf("limit %d: Stopped %v, %d operations, %d pending, %d answers", c.limit, r.Stopped, r.Ops, len(r.Disk.Pending), len(r.Answers))
		}
	}
}

// A sync writes 32 blocks of the table, one header, and two barriers of its own.
func TestBarrierInACheckpoint(t *testing.T) {
	d := impl.FormatDisk(huge)
	for _, c := range []struct{ writes, barrier int }{{0, -1}, {1, -1}, {223, -1}, {224, -1}, {225, 31}, {230, 26}, {255, 1}, {256, 0}, {257, -1}} {
		calls := append(unsaved(c.writes), callSync)
		ops := int64(c.writes + 35)
		if c.barrier >= 0 || c.writes > 256 {
			ops++
		}
		if r := runAll(t, d, huge, calls); r.Ops != ops || len(r.Disk.Pending) != 0 {
			t.Errorf("%d writes and a sync: %d operations, %d pending", c.writes, r.Ops, len(r.Disk.Pending))
		}
		if c.barrier < 0 {
			continue
		}
		at := int64(c.writes + c.barrier)
		before, behind := impl.Run(d, huge, calls, at), impl.Run(d, huge, calls, at+1)
		if len(before.Disk.Pending) != 256 || len(behind.Disk.Pending) != 0 || behind.Ops != at+1 || !behind.Stopped {
			t.Errorf("%d writes and a sync: %d pending, then %d", c.writes, len(before.Disk.Pending), len(behind.Disk.Pending))
		}
	}
}

// limitsAround are those just ahead of, at and behind every barrier.
func limitsAround(ops []bookOp) []int64 {
	limits := []int64{-1}
	for i, o := range ops {
		if o.data == nil {
			limits = append(limits, int64(i-1), int64(i), int64(i+1), int64(i+2))
		}
	}
	return limits
}

// Long runs without a sync: the writes of a huge store pass 256 again and again, in files and in cleaning runs.
func TestBarriersOfLongRuns(t *testing.T) {
	roll := &dice{state: 73}
	for round := range 6 {
		calls := []impl.Call{}
		for range 130 {
			calls = append(calls, callWrite(drawnName(roll, 30), strings.Repeat("w", roll.roll(impl.MaxFile+1))))
			if roll.roll(12) == 0 {
				calls = append(calls, callClean)
			}
		}
		d := impl.FormatDisk(huge)
		book := runByBook(d, huge, calls)
		limits := limitsAround(book.ops)
		for i := 0; i < len(limits); i += 1 + roll.roll(6) {
			wantRun(t, fmt.Sprint("round ", round), d, huge, calls, limits[i], book.at(limits[i]))
		}
	}
}

func TestRunAnswersNewMemory(t *testing.T) {
	p := threeFiles()
	d := p.disk()
	calls := []impl.Call{callList, callList, callWrite("d", "data"), callList, callSync, callWrite("e", "more")}
	book := runByBook(d, middle, calls).at(-1)
	r := impl.Run(d, middle, calls, -1)
	scribble(d)
	for i := range calls {
		calls[i] = impl.Call{}
	}
	if text := differs(r, book); text != "" {
		t.Errorf("the answer when its arguments are written over: %s", text)
	}
	for i := range r.Answers[0].Names {
		r.Answers[0].Names[i] = "gone"
	}
	_ = append(r.Answers[0].Names, "gone")
	for _, i := range []int{1, 3} {
		if !slices.Equal(r.Answers[i].Names, book.Answers[i].Names) {
			t.Errorf("answer %d shares its names with the first: %v", i, r.Answers[i].Names)
		}
	}
	scribbleBytes(r.Disk.Durable)
	scribbleBytes(r.Disk.Pending[0].Data)
	if len(r.Disk.Pending) != 2 || !slices.Equal(r.Disk.Pending[1].Data, book.Disk.Pending[1].Data) {
		t.Error("the lists of the disk share memory")
	}
}

// Promise 7.

// kindFields are the fields of each kind as its row names them: name, data, size.
var kindFields = map[int64][3]bool{1: {true, true, false}, 2: {true, false, false}, 3: {true, false, true}, 4: {true, false, false}, 5: {}, 6: {}, 7: {}, 8: {}}

func TestFieldsOfEveryKind(t *testing.T) {
	kinds := append([]int64{-8, -2, -1, 0, 1, 2, 3, 4, 5, 6, 7, 8, 9, 10, 15, 16, 1 << 32, 1<<32 + 1}, farNumbers...)
	for _, kind := range kinds {
		for shape := range 8 {
			calls := []impl.Call{callWrite("a", "hello"), {Kind: kind}, callStat}
			filled := [3]bool{shape&1 != 0, shape&2 != 0, shape&4 != 0}
			if filled[0] {
				calls[1].Name = "a"
			}
			if filled[1] {
				calls[1].Data = "\x00"
			}
			if filled[2] {
				calls[1].Size = []int64{1, -1, math.MinInt64, math.MaxInt64}[shape%4]
			}
			want := int64(0)
			fields, known := kindFields[kind]
			for i := range fields {
				if !known || filled[i] && !fields[i] {
					want = 20
				}
			}
			if want == 0 && fields[0] && !filled[0] {
				want = 21
			}
			if want == 0 && kind == 3 && filled[2] && calls[1].Size != 1 {
				want = 23
			}
			r := runAll(t, impl.FormatDisk(tiny), tiny, calls)
			if r.Answers[1].Code != want {
				t.Errorf("%+v: %d, want %d", calls[1], r.Answers[1].Code, want)
			}
			if want != 0 && (r.Ops != 2 || !sameAnswer(r.Answers[1], impl.Answer{Code: want}) || r.Answers[2].Stat != (impl.Stat{Files: 1, Live: 2, Free: 6, Seq: 1})) {
				t.Errorf("%+v: %d operations, %+v", calls[1], r.Ops, r.Answers)
			}
		}
	}
}

// Each call here has all the faults from its code on.
func TestCodesComeInOrder(t *testing.T) {
	long := strings.Repeat("x", impl.MaxFile+1)
	much := strings.Repeat("x", 64*3)
	calls := []impl.Call{
		callWrite("a", "12"), callWrite("b", "12"),
		{Kind: 1, Name: "B", Data: long, Size: 1}, {Kind: 1, Name: "B", Data: long}, {Kind: 1, Name: "c", Data: long}, {Kind: 1, Name: "c", Data: much}, {Kind: 1, Name: "a", Data: long}, {Kind: 1, Name: "a"},
		{Kind: 2, Name: "B", Size: 1}, {Kind: 2, Name: "B", Data: long}, {Kind: 2, Name: "B"}, {Kind: 2, Name: "c"}, {Kind: 2, Name: "a"},
		{Kind: 3, Name: "B", Data: "x", Size: -1}, {Kind: 3, Name: "B", Size: -1}, {Kind: 3, Name: "c", Size: -1}, {Kind: 3, Name: "c", Size: 1409}, {Kind: 3, Name: "a", Size: -1}, {Kind: 3, Name: "a", Size: 1409}, {Kind: 3, Name: "a", Size: 1408}, {Kind: 3, Name: "a"},
		{Kind: 4, Name: "B", Size: 1}, {Kind: 4, Name: "B", Data: "x"}, {Kind: 4, Name: "B"}, {Kind: 4, Name: "c"},
		{Kind: 5, Name: "B"}, {Kind: 6, Name: "B"}, {Kind: 7, Size: 1}, {Kind: 8, Data: "x"}, {Kind: 9, Name: "B", Size: -1}, {},
		callRead("a"), callRead("b"), callList,
	}
	want := []int64{0, 0, 20, 21, 23, 24, 23, 24, 20, 20, 21, 22, 0, 20, 21, 22, 22, 23, 23, 24, 24, 20, 20, 21, 22, 20, 20, 20, 20, 20, 20, 0, 0, 0}
	r := wantCodes(t, tiny, calls, want)
	if r.Ops != 4 || r.Answers[31].Data != "12" || r.Answers[32].Data != "12" || strings.Join(r.Answers[33].Names, " ") != "a b" {
		t.Errorf("%d operations: %+v", r.Ops, r.Answers[31:])
	}
	for i, a := range r.Answers {
		if a.Code != 0 && !sameAnswer(a, impl.Answer{Code: a.Code}) {
			t.Errorf("call %d: %+v", i, a)
		}
	}
}

func TestNamesOfCalls(t *testing.T) {
	names := map[string]int64{"": 21, "a": 0, "abcdefghijklmnop": 0, "abcdefghijklmnopq": 21, "._-0": 0, "A": 21, "a b": 21, "a/b": 21, "a\x00": 21, "é": 21, "-": 0}
	for name, code := range names {
		calls := []impl.Call{callWrite(name, "x"), callRead(name), callTruncate(name, 0), callDelete(name), callDelete(name)}
		last := code
		if code == 0 {
			last = 22
		}
		wantCodes(t, middle, calls, []int64{code, code, code, code, last})
	}
}

func TestDataOfManySizes(t *testing.T) {
	roomy := impl.Geometry{Segs: 8, SegBlocks: 6}
	roll := &dice{state: 79}
	for _, size := range []int{0, 1, 63, 64, 65, 127, 128, 129, 1343, 1344, 1345, 1407, 1408} {
		data := drawnData(roll, size)
		calls := []impl.Call{callWrite("a", "old"), callWrite("a", data), callRead("a"), callStat, callSync, callRead("a")}
		r := wantCodes(t, roomy, calls, make([]int64, len(calls)))
		if r.Answers[2].Data != data || r.Answers[5].Data != data || r.Answers[3].Stat.Live != int64((size+63)/64+1) {
			t.Errorf("%d bytes: %+v", size, r.Answers)
		}
		if m := impl.Mount(r.Disk, roomy); !slices.Equal(m.Files, []impl.File{{Name: "a", Data: data}}) {
			t.Errorf("%d bytes: %+v", size, m)
		}
	}
	wantCodes(t, huge, []impl.Call{callWrite("a", strings.Repeat("x", 1409)), callRead("a")}, []int64{23, 22})
}

func TestTruncates(t *testing.T) {
	data := drawnData(&dice{state: 83}, impl.MaxFile)
	for _, old := range []int{0, 1, 5, 64, 65, 200, 1408} {
		for _, size := range []int{0, 1, 4, 5, 6, 63, 64, 65, 128, 199, 200, 201, 1407, 1408} {
			calls := []impl.Call{callWrite("a", data[:old]), callTruncate("a", int64(size)), callRead("a"), callTruncate("a", 1408), callRead("a")}
			cut := data[:min(old, size)]
			r := wantCodes(t, huge, calls, make([]int64, len(calls)))
			if want := cut + strings.Repeat("\x00", size-len(cut)); r.Answers[2].Data != want {
				t.Errorf("%d to %d: %q, want %q", old, size, r.Answers[2].Data, want)
			}
			if want := cut + strings.Repeat("\x00", 1408-len(cut)); r.Answers[4].Data != want {
				t.Errorf("%d to %d to 1408: %q, want %q", old, size, r.Answers[4].Data, want)
			}
			for _, a := range []int{1, 3} {
				if !sameAnswer(r.Answers[a], impl.Answer{}) {
					t.Errorf("%d to %d: %+v", old, size, r.Answers[a])
				}
			}
			if ops := int64(plainBlocks(old) + plainBlocks(size) + 23); r.Ops != ops {
				t.Errorf("%d to %d: %d operations, want %d", old, size, r.Ops, ops)
			}
		}
	}
}

// What is written anew has other lids and other blocks, also if nothing differs.
func TestSameDataIsWrittenAnew(t *testing.T) {
	calls := []impl.Call{callWrite("a", "x"), callSync, callWrite("a", "x"), callStat, callTruncate("a", 1), callStat, callSync}
	r := wantCodes(t, middle, calls, make([]int64, len(calls)))
	if r.Ops != 2+5+2+2+5 || r.Answers[3].Stat.Live != 4 || r.Answers[5].Stat.Live != 4 {
		t.Errorf("%d operations: %+v", r.Ops, r.Answers)
	}
	// lids 3 and 4 were the first copy's, and free again only when the truncated file had 5 and 6
	m := impl.Mount(r.Disk, middle)
	if m.Table[4] != (impl.Entry{Addr: 10}) || m.Table[5] != (impl.Entry{Addr: 11, Inode: true}) || m.Counts[0] != 2 {
		t.Errorf("%+v", m)
	}
}

// twoBlocks needs three lids; Cap of tiny is 4.
var twoBlocks = strings.Repeat("z", 128)

func TestSpaceByTheSum(t *testing.T) {
	cases := []struct {
		what  string
		calls []impl.Call
		codes []int64
	}{
		{"exactly Cap", []impl.Call{callWrite("a", strings.Repeat("x", 192)), callWrite("b", "")}, []int64{0, 24}},
		{"one block more than Cap", []impl.Call{callWrite("a", strings.Repeat("x", 193)), callWrite("a", strings.Repeat("x", 192))}, []int64{24, 0}},
		{"one by one", []impl.Call{callWrite("a", ""), callWrite("b", ""), callWrite("c", ""), callWrite("d", ""), callWrite("e", ""), callWrite("a", ""), callDelete("b"), callWrite("e", ""), callWrite("f", "")}, []int64{0, 0, 0, 0, 24, 24, 0, 0, 24}},
		{"the old file counts while the new one is written", []impl.Call{callWrite("a", twoBlocks), callWrite("a", "x"), callTruncate("a", 1), callTruncate("a", 0), callWrite("a", twoBlocks), callTruncate("a", 64), callWrite("a", "")}, []int64{0, 24, 24, 0, 0, 24, 0}},
		{"a truncate at Cap", []impl.Call{callWrite("a", ""), callTruncate("a", 129), callTruncate("a", 128), callTruncate("a", 0), callTruncate("a", 129)}, []int64{0, 24, 0, 0, 24}},
		{"a durable file written anew", []impl.Call{callWrite("a", "x"), callSync, callWrite("a", ""), callWrite("b", "x"), callWrite("a", ""), callWrite("a", ""), callTruncate("a", 1), callSync, callWrite("a", "x")}, []int64{0, 0, 0, 24, 0, 0, 24, 0, 0}},
		{"a durable file deleted", []impl.Call{callWrite("a", twoBlocks), callSync, callDelete("a"), callWrite("a", "x"), callWrite("b", "x"), callWrite("b", ""), callDelete("b"), callWrite("a", ""), callDelete("a"), callSync, callWrite("a", twoBlocks)}, []int64{0, 0, 0, 24, 24, 0, 0, 0, 0, 0, 0}},
		{"a working file forgotten", []impl.Call{callWrite("a", twoBlocks), callDelete("a"), callWrite("b", twoBlocks), callWrite("c", "x"), callDelete("b"), callWrite("c", "x"), callWrite("d", "x")}, []int64{0, 0, 0, 24, 0, 0, 0}},
		{"a deleted durable file is not working again by its name", []impl.Call{callWrite("a", "x"), callSync, callDelete("a"), callWrite("a", "x"), callWrite("b", ""), callSync, callWrite("b", "x"), callWrite("b", "x")}, []int64{0, 0, 0, 0, 24, 0, 0, 24}},
	}
	for _, c := range cases {
		t.Run(c.what, func(t *testing.T) { wantCodes(t, tiny, c.calls, c.codes) })
	}
}

func TestSpaceAtCapOfManyGeometries(t *testing.T) {
	for _, g := range []impl.Geometry{tiny, {Segs: 4, SegBlocks: 16}, {Segs: 64, SegBlocks: 2}, middle, huge, {Segs: 5, SegBlocks: 3}} {
		room := int((g.Segs - 2) * g.SegBlocks)
		calls := []impl.Call{}
		for left := room; left > 0; left -= min(left, 23) {
			calls = append(calls, callWrite(fmt.Sprint("f", len(calls)), strings.Repeat("x", 64*(min(left, 23)-1))))
		}
		codes := make([]int64, len(calls))
		calls = append(calls, callWrite("more", ""), callWrite("f0", ""), callTruncate("f0", 0), callSync, callWrite("f0", ""), callDelete("f0"), callWrite("f0", ""), callSync, callWrite("f0", strings.Repeat("x", 64*(min(room, 23)-1))), callWrite("more", ""))
		codes = append(codes, 24, 24, 24, 0, 24, 0, 24, 0, 0, 24)
		wantCodes(t, g, calls, codes)
	}
}

func TestListsAreAscending(t *testing.T) {
	names := []string{"b", "a-", "z", "a", "a.b", "0", "_", "ab", "a0", "-", "10", "9"}
	calls := []impl.Call{callList}
	for _, name := range names {
		calls = append(calls, callWrite(name, name), callList)
	}
	calls = append(calls, callSync, callList, callDelete("a"), callDelete("z"), callList)
	r := wantCodes(t, middle, calls, make([]int64, len(calls)))
	for i, a := range r.Answers {
		if calls[i].Kind == 5 && (!slices.IsSorted(a.Names) || i < 25 && len(a.Names) != i/2) {
			t.Errorf("call %d: %v", i, a.Names)
		}
	}
	if got := strings.Join(r.Answers[26].Names, " "); got != "- 0 10 9 _ a a- a.b a0 ab b z" {
		t.Errorf("%q", got)
	}
	if got := strings.Join(r.Answers[29].Names, " "); got != "- 0 10 9 _ a- a.b a0 ab b" {
		t.Errorf("%q", got)
	}
}

// plainGeometries are drawn small ones and those at the limits.
func plainGeometries(roll *dice) []impl.Geometry {
	list := []impl.Geometry{tiny, {Segs: 64, SegBlocks: 2}, {Segs: 4, SegBlocks: 16}, middle, huge}
	for range 25 {
		list = append(list, drawnGeometry(roll))
	}
	return list
}

func TestAnswersOfAPlainStore(t *testing.T) {
	roll := &dice{state: 89}
	seen := map[int64]int{}
	for round, g := range plainGeometries(roll) {
		d := impl.FormatDisk(g)
		files := []impl.File{}
		for leg := range 2 {
			calls := drawnRun(roll, g, impl.MaxCalls)
			plain := newPlainStore(g, files)
			r := runAll(t, d, g, calls)
			for i, c := range calls {
				want := plain.answer(c)
				seen[10*want.Code+c.Kind]++
				if !sameAnswer(withoutPlaces(r.Answers[i]), want) {
					t.Fatalf("%v, round %d, leg %d, call %d %+v: %+v, want %+v", g, round, leg, i, c, r.Answers[i], want)
				}
			}
			d, files = impl.DiskBarrier(r.Disk), plainList(plain.durable)
		}
	}
	for _, what := range []int64{1, 2, 3, 4, 5, 6, 7, 8, 241, 243, 231, 233, 222, 223, 224, 211, 212, 213, 214, 201, 202, 203, 205, 206, 207, 200, 209} {
		if seen[what] < 20 {
			t.Errorf("the calls are too much alike: kind %d with code %d came %d times", what%10, what/10, seen[what])
		}
	}
}

// The numbers of cleaning and of Stat too, and every byte of the disk.
func TestAnswersOfTheBook(t *testing.T) {
	roll := &dice{state: 97}
	cleaned := 0
	for round, g := range plainGeometries(roll) {
		d := impl.FormatDisk(g)
		for leg := range 2 {
			calls := drawnRun(roll, g, 500)
			r := wantRun(t, fmt.Sprint(g, ", round ", round, ", leg ", leg), d, g, calls, -1, runByBook(d, g, calls).at(-1))
			for _, a := range r.Answers {
				cleaned += int(a.Num)
			}
			d = impl.DiskBarrier(r.Disk)
		}
	}
	if cleaned < 500 {
		t.Errorf("only %d blocks were moved by calls", cleaned)
	}
}

// Every step is counted by hand: three blocks a segment, Log 4, Cap 6.
func TestCleaningByHand(t *testing.T) {
	g := impl.Geometry{Segs: 4, SegBlocks: 3}
	calls := []impl.Call{
		callStat, callWrite("a", "x"), callWrite("b", ""), callSync, callDelete("a"), callStat, callSync, callStat,
		callClean, callWrite("c", ""), callStat, callClean, callStat, callClean, callStat,
	}
	r := wantCodes(t, g, calls, make([]int64, len(calls)))
	stats := map[int]impl.Stat{
		0:  {Files: 0, Live: 0, Free: 12, Active: -1, Seq: 1},
		5:  {Files: 1, Live: 3, Free: 9, Active: 0, Seq: 2},
		7:  {Files: 1, Live: 1, Free: 9, Active: 0, Seq: 3},
		10: {Files: 2, Live: 2, Free: 8, Active: 1, Seq: 3},
		12: {Files: 2, Live: 2, Free: 10, Active: 1, Seq: 4},
		14: {Files: 2, Live: 2, Free: 10, Active: 1, Seq: 4},
	}
	for i, want := range stats {
		if r.Answers[i].Stat != want {
			t.Errorf("call %d: %+v, want %+v", i, r.Answers[i].Stat, want)
		}
	}
	if r.Answers[8].Num != 0 || r.Answers[11].Num != 1 || r.Answers[13].Num != 0 || r.Ops != 3+4+4+1+1+4 {
		t.Errorf("%d operations: %+v", r.Ops, r.Answers)
	}
	table := make([]impl.Entry, 12)
	table[2] = impl.Entry{Addr: 8, Inode: true}
	wantMounted(t, "the durable file after the cleaning run", impl.DiskCrash(r.Disk, nil), g, impl.Mounted{Seq: 4, Files: []impl.File{{Name: "b"}}, Table: table, Counts: []int64{0, 1, 0, 0}})
}

// A segment whose blocks are all dead is free at once, but for the active one, of which only the unused blocks are.
func TestWhenASegmentIsFree(t *testing.T) {
	calls := []impl.Call{
		callWrite("a", "x"), callStat, callDelete("a"), callStat, callWrite("b", ""), callStat, callWrite("b", ""), callStat, callWrite("b", ""), callStat,
	}
	r := wantCodes(t, tiny, calls, make([]int64, len(calls)))
	want := []impl.Stat{
		{Files: 1, Live: 2, Free: 6, Active: 0, Seq: 1}, {Files: 0, Live: 0, Free: 6, Active: 0, Seq: 1}, {Files: 1, Live: 1, Free: 7, Active: 1, Seq: 1},
		{Files: 1, Live: 1, Free: 6, Active: 1, Seq: 1}, {Files: 1, Live: 1, Free: 7, Active: 0, Seq: 1},
	}
	for i, stat := range want {
		if got := r.Answers[2*i+1].Stat; got != stat {
			t.Errorf("call %d: %+v, want %+v", 2*i+1, got, stat)
		}
	}
}

// Promise 8.

// between are calls that change no file: reads, lists, cleans, numbers and refused ones.
func between(roll *dice, names int) impl.Call {
	switch roll.roll(6) {
	case 0:
		return callRead(drawnName(roll, names))
	case 1:
		return callList
	case 2:
		return callClean
	case 3:
		return callStat
	}
	return drawnBadCall(roll)
}

func TestCallsBetweenChangeNoFile(t *testing.T) {
	roll := &dice{state: 101}
	for round := range 150 {
		g := drawnGeometry(roll)
		calls := drawnRun(roll, g, 60)
		mixed, kept := []impl.Call{}, []int{}
		for _, c := range calls {
			for range roll.roll(4) {
				mixed = append(mixed, between(roll, 6))
			}
			kept = append(kept, len(mixed))
			mixed = append(mixed, c)
		}
		alone, among := runAll(t, impl.FormatDisk(g), g, calls), runAll(t, impl.FormatDisk(g), g, mixed)
		for i, at := range kept {
			if !sameAnswer(withoutPlaces(alone.Answers[i]), withoutPlaces(among.Answers[at])) {
				t.Fatalf("round %d, call %d: %+v, and among others %+v", round, i, alone.Answers[i], among.Answers[at])
			}
		}
		for _, choices := range [][]int64{nil, slices.Repeat([]int64{64}, impl.MaxPending)} {
			a, b := impl.Mount(impl.DiskCrash(alone.Disk, choices), g), impl.Mount(impl.DiskCrash(among.Disk, choices), g)
			if a.Code != 0 || b.Code != 0 || !slices.Equal(a.Files, b.Files) {
				t.Fatalf("round %d: %+v, and among others %+v", round, a, b)
			}
		}
	}
}

func TestRefusedCallsMakeNoOperation(t *testing.T) {
	roll := &dice{state: 103}
	for range 300 {
		g := drawnGeometry(roll)
		calls := drawnRun(roll, g, 20)
		before := runAll(t, impl.FormatDisk(g), g, append(slices.Clone(calls), callStat))
		more := slices.Clone(calls)
		for range 10 {
			more = append(more, []impl.Call{drawnBadCall(roll), callRead(drawnName(roll, 5)), callList, callStat, callWrite("f0", strings.Repeat("x", 1409))}[roll.roll(5)])
		}
		r := runAll(t, impl.FormatDisk(g), g, append(more, callStat))
		if r.Ops != before.Ops || !sameDisk(r.Disk, before.Disk) || r.Answers[len(more)].Stat != before.Answers[len(calls)].Stat {
			t.Fatalf("%v: %d operations, then %d", g, before.Ops, r.Ops)
		}
	}
}

// Nothing is left of the sum, and of the log only what is kept over.
func TestNoSpaceLeft(t *testing.T) {
	for _, g := range []impl.Geometry{tiny, middle, {Segs: 4, SegBlocks: 16}, {Segs: 64, SegBlocks: 2}, {Segs: 9, SegBlocks: 3}} {
		calls := []impl.Call{}
		room := int((g.Segs - 2) * g.SegBlocks)
		for i := range room {
			calls = append(calls, callWrite(fmt.Sprint("f", i), ""))
		}
		for i := range 10 * room {
			name := fmt.Sprint("f", (i*7+i/3)%room)
			calls = append(calls, callWrite("more", ""), callClean, callSync, callDelete(name), callWrite(name, ""), callClean, callSync, callWrite(name, ""), callWrite("more", ""))
		}
		calls = calls[:min(len(calls), impl.MaxCalls)]
		r := runAll(t, impl.FormatDisk(g), g, calls)
		plain := newPlainStore(g, nil)
		refused := 0
		for i, c := range calls {
			want := plain.answer(c)
			if r.Answers[i].Code != want.Code || c.Kind > 3 && r.Answers[i].Code != 0 {
				t.Fatalf("%v, call %d %+v: %+v, want %+v", g, i, c, r.Answers[i], want)
			}
			if want.Code == 24 {
				refused++
			}
		}
		if refused*4 < len(calls)-room {
			t.Errorf("%v: only %d of %d calls were refused for space", g, refused, len(calls))
		}
	}
}
