package tests

import (
	"fmt"
	"slices"
	"strings"
	"testing"

	"loop.example/s02881/impl"
)

// tiny has the header of region 0 at byte 0, its table at 64, those of region 1 at 128 and 192, and its log from 256 on. A file a of one block that is written first has its data at 256 and its inode at 320; a sync behind it makes region 0 the root.

func TestFlipData(t *testing.T) {
	wantTalk(t, "durable data", tiny,
		"write a hello > ok", "sync > ok", "flip 256 32 > ok", "read a > data 5 Hello", "flip 257 4 > ok", "read a > data 5 Hallo", "sync > ok", "read a > data 5 Hallo", "crash > crashed", "flip 256 32 > ok", "mount > mounted 3 1", "read a > data 5 hallo", "flip 257 4 > ok", "read a > data 5 hello",
	)
	wantTalk(t, "bytes behind the data", tiny,
		"write a hello > ok", "sync > ok", "flip 261 65 > ok", "flip 319 65 > ok", "read a > data 5 hello", "trunc a 6 > ok", "read a > data 6 hello%00", "sync > ok", "crash > crashed", "mount > mounted 3 1", "read a > data 6 hello%00",
	)
	wantTalk(t, "data that a truncate reads", tiny, "write a hello > ok", "sync > ok", "flip 260 255 > ok", "trunc a 6 > ok", "read a > data 6 hell%90%00", "flip 260 255 > ok", "read a > data 6 hell%90%00")
	wantTalk(t, "and back", tiny, "write a hello > ok", "sync > ok", "flip 258 7 > ok", "flip 258 7 > ok", "read a > data 5 hello", "flip 258 1 > ok", "flip 258 2 > ok", "read a > data 5 heolo")
}

// The durable byte is changed; a pending write of its block hides it.
func TestFlipUnderPendingWrites(t *testing.T) {
	wantTalk(t, "hidden, and overwritten by the barrier", tiny, "write a hello > ok", "flip 256 32 > ok", "read a > data 5 hello", "sync > ok", "read a > data 5 hello", "crash > crashed", "mount > mounted 2 1", "read a > data 5 hello")
	wantTalk(t, "an older block, to be seen only where its write is lost", tiny,
		"write a hello > ok", "sync > ok", "flip 257 4 > ok", "write b - > ok", "read a > data 5 hallo", "crash > crashed", "mount > mounted 2 1", "read a > data 5 hallo",
	)
	wantTalk(t, "a torn header over a changed one", tiny,
		"write a - > ok", "flip 7 2 > ok", "arm 4 8 > armed", "sync > crashed", "mount > mounted 1 0", "flip 7 2 > ok", "crash > crashed", "mount > mounted 1 0",
	)
}

// A cleaning run moves the block as it lies there.
func TestFlipDataThatIsMoved(t *testing.T) {
	g := impl.Geometry{Segs: 6, SegBlocks: 4}
	wantTalk(t, "moved", g,
		"write a hello > ok", "write b - > ok", "sync > ok", "write b - > ok", "write c - > ok", "sync > ok", "stat > stat 3 4 19 1 3", "flip 256 32 > ok", "read a > data 5 Hello", "clean > moved 3", "read a > data 5 Hello",
		"flip 256 32 > ok", "read a > data 5 Hello", "crash > crashed", "mount > mounted 4 3", "read a > data 5 Hello",
	)
}

// Inodes are kept while the store is up, and a sync does not write them again; so a changed one is met at the next mount.
func TestFlipInodes(t *testing.T) {
	wantTalk(t, "no inode any more", tiny,
		"write a hello > ok", "sync > ok", "flip 320 1 > ok", "read a > data 5 hello", "list > names 1 a", "sync > ok", "read a > data 5 hello", "crash > crashed", "mount > corrupt 5", "list > down", "mount > corrupt 5", "flip 320 1 > ok", "mount > mounted 3 1", "read a > data 5 hello",
	)
	wantTalk(t, "another name", tiny,
		"write a hello > ok", "sync > ok", "flip 320 3 > ok", "list > names 1 a", "read a > data 5 hello", "read b > error 22", "crash > crashed", "mount > mounted 2 1", "list > names 1 b", "read a > error 22", "read b > data 5 hello",
	)
	wantTalk(t, "another size", tiny,
		"write a hello > ok", "sync > ok", "flip 337 2 > ok", "read a > data 5 hello", "crash > crashed", "mount > mounted 2 1", "read a > data 7 hello%00%00", "flip 337 7 > ok", "read a > data 7 hello%00%00", "crash > crashed", "mount > corrupt 5",
	)
	wantTalk(t, "written anew", tiny, "write a x > ok", "sync > ok", "flip 320 1 > ok", "trunc a 2 > ok", "sync > ok", "crash > crashed", "mount > mounted 3 1", "read a > data 2 x%00")
	wantTalk(t, "a lid that is none", tiny, "write a hello > ok", "sync > ok", "flip 339 8 > ok", "read a > data 5 hello", "crash > crashed", "mount > corrupt 5", "flip 339 9 > ok", "mount > corrupt 5", "flip 339 1 > ok", "mount > mounted 2 1")
	wantTalk(t, "two files of one name", tiny, "write a - > ok", "write b - > ok", "sync > ok", "flip 320 3 > ok", "list > names 2 a b", "crash > crashed", "mount > corrupt 6", "flip 256 3 > ok", "mount > mounted 2 2", "list > names 2 a b")
}

// The table is kept as well; the next sync writes it into the other region.
func TestFlipTables(t *testing.T) {
	wantTalk(t, "the root's", tiny,
		"write a hello > ok", "sync > ok", "flip 65 1 > ok", "read a > data 5 hello", "crash > crashed", "mount > corrupt 4", "flip 65 3 > ok", "mount > mounted 2 1", "read a > data 5 %00%00%00%00%00", "crash > crashed", "flip 65 2 > ok", "mount > mounted 2 1", "read a > data 5 hello",
	)
	wantTalk(t, "and a sync", tiny, "write a hello > ok", "sync > ok", "flip 65 1 > ok", "sync > ok", "crash > crashed", "mount > mounted 3 1", "read a > data 5 hello", "sync > ok", "crash > crashed", "mount > mounted 4 1", "read a > data 5 hello")
	wantTalk(t, "a lid of nobody", tiny, "write a hello > ok", "sync > ok", "flip 79 8 > ok", "crash > crashed", "mount > corrupt 6", "flip 79 8 > ok", "mount > mounted 2 1")
	wantTalk(t, "behind the entries", tiny, "write a hello > ok", "sync > ok", "flip 80 255 > ok", "flip 127 1 > ok", "crash > crashed", "mount > mounted 2 1", "read a > data 5 hello")
	wantTalk(t, "the older region's", tiny, "write a hello > ok", "sync > ok", "flip 192 255 > ok", "flip 193 1 > ok", "crash > crashed", "mount > mounted 2 1", "sync > ok", "crash > crashed", "mount > mounted 3 1", "read a > data 5 hello")
}

func TestFlipHeaders(t *testing.T) {
	wantTalk(t, "the root's, so that the older one is it", tiny,
		"write a hello > ok", "sync > ok", "flip 7 1 > ok", "stat > stat 1 2 6 0 2", "crash > crashed", "mount > mounted 1 0", "list > names 0", "crash > crashed", "flip 7 1 > ok", "mount > mounted 2 1", "list > names 1 a",
	)
	wantTalk(t, "both", tiny, "write a hello > ok", "sync > ok", "flip 7 1 > ok", "flip 128 1 > ok", "read a > data 5 hello", "crash > crashed", "mount > corrupt 3", "flip 128 1 > ok", "mount > mounted 1 0")
	wantTalk(t, "both, and a sync that heals one", tiny, "write a hello > ok", "sync > ok", "flip 7 1 > ok", "flip 128 1 > ok", "sync > ok", "crash > crashed", "mount > mounted 3 1", "read a > data 5 hello")
	wantTalk(t, "a newer Seq from outside", tiny, "write a hello > ok", "sync > ok", "flip 134 1 > ok", "flip 190 1 > ok", "stat > stat 1 2 6 0 2", "crash > crashed", "mount > mounted 257 0", "sync > ok", "crash > crashed", "mount > mounted 258 0")
	wantTalk(t, "the geometry", tiny, "crash > crashed", "flip 137 1 > ok", "mount > corrupt 3", "flip 137 1 > ok", "flip 139 1 > ok", "mount > corrupt 3", "flip 139 1 > ok", "mount > mounted 1 0")
	wantTalk(t, "the gap", tiny, "flip 150 255 > ok", "list > names 0", "write a x > ok", "crash > crashed", "mount > corrupt 3", "flip 150 255 > ok", "mount > mounted 1 0")
}

func TestFlipBeyondTheDisk(t *testing.T) {
	wantTalk(t, "tiny", tiny, "flip 767 255 > ok", "flip 768 1 > badline", "flip 769 1 > badline", "flip 99999 255 > badline", "crash > crashed", "flip 767 255 > ok", "flip 768 1 > badline", "flip 99999 1 > badline", "mount > mounted 1 0")
	wantTalk(t, "huge", huge, "flip 69759 1 > ok", "flip 69760 1 > badline", "flip 99999 1 > badline", "flip 100000 1 > badline", "crash > crashed", "flip 69759 1 > ok", "flip 69760 1 > badline", "mount > mounted 1 0")
}

// What a crash has left of writes that no checkpoint knows of shows where flips put their blocks into the table: the inode of file number i is at block 6 + i of middle, and its entry from byte 256 + 2 * i on.
func TestFlipsShowTheChoicesOfACrash(t *testing.T) {
	names := []string{"aaaa", "bbbb", "cccc", "dddd", "eeee"}
	choices := []string{"2", "0", "64", "3", "1"}
	left := []string{"aa", "", "cccc", "ddd", "e"}
	writes := []string{}
	for _, name := range names {
		writes = append(writes, "write "+name+" - > ok")
	}
	byLine := append(slices.Clone(writes), "crash "+strings.Join(choices, " ")+" > crashed")
	byArm := slices.Concat([]string{"arm 6 " + strings.Join(choices, " ") + " > armed"}, writes, []string{"write f - > crashed"})
	for i, name := range left {
		linked := []string{fmt.Sprint("flip ", 256+2*i, " 128 > ok"), fmt.Sprint("flip ", 257+2*i, " ", 6+i, " > ok"), "mount > mounted 1 1", "list > names 1 " + name}
		if name == "" {
			linked = append(linked[:2], "mount > corrupt 5", "list > down")
		}
		wantTalk(t, "by a line: "+names[i], middle, append(slices.Clone(byLine), linked...)...)
		wantTalk(t, "by an armed crash: "+names[i], middle, append(slices.Clone(byArm), linked...)...)
	}
}

// flipsBetween turns one disk into another.
func flipsBetween(from, to impl.Disk) []string {
	lines := []string{}
	for i := range from.Durable {
		if bits := from.Durable[i] ^ to.Durable[i]; bits != 0 {
			lines = append(lines, fmt.Sprint("flip ", i, " ", bits))
		}
	}
	return lines
}

// Every code of a mount, by flips alone; and then the way back to three files.
func TestMountCodesByFlips(t *testing.T) {
	empty, good := impl.FormatDisk(middle), threeFiles().disk()
	for _, f := range allFaults() {
		p := threeFiles()
		f.change(p)
		lines := slices.Concat([]string{"crash"}, flipsBetween(empty, p.disk()), []string{"mount", "list"}, flipsBetween(p.disk(), good), []string{"mount", "list", "read a", "read b.b", "sync", "stat"})
		want := []string{}
		for range lines {
			want = append(want, "ok")
		}
		first := 1 + len(flipsBetween(empty, p.disk()))
		want[0], want[first], want[first+1] = "crashed", fmt.Sprint("corrupt ", f.code), "down"
		copy(want[len(want)-6:], []string{"mounted 7 3", "names 3 a b.b c", "data 5 hello", "data 65 " + strings.Repeat("x", 64) + "y", "ok", "stat 3 6 18 -1 8"})
		wantAnswers(t, f.what, lines, serve(t, f.what, lines, middle), want)
	}
}

// A store with the largest Seq that a mount accepts still counts on; the next mount refuses it.
func TestFlipSeqToItsLimit(t *testing.T) {
	p := newPicture(tiny)
	p.header(0, impl.MaxSeq-2097152)
	rows := []string{"crash > crashed"}
	for _, line := range flipsBetween(impl.FormatDisk(tiny), p.disk()) {
		rows = append(rows, line+" > ok")
	}
	wantTalk(t, "the limit", tiny, append(rows, "mount > mounted 1099509530624 0", "write a x > ok", "sync > ok", "stat > stat 1 2 6 0 1099509530625", "read a > data 1 x", "crash > crashed", "mount > corrupt 8")...)
}

// A foreign disk that a mount accepts serves like any other.
func TestForeignDisksByFlips(t *testing.T) {
	roll := &dice{state: 227}
	for round := range 30 {
		g := drawnGeometry(roll)
		d := crowdedPicture(roll, g, int64(roll.roll(3))).disk()
		lines := slices.Concat([]string{"crash"}, flipsBetween(impl.FormatDisk(g), d), []string{"mount", "list", "stat"}, drawnScript(roll, g, 60))
		got := wantServed(t, fmt.Sprint("round ", round, ", ", g), lines, g)
		if at := slices.Index(lines, "mount"); !strings.HasPrefix(got[at], "mounted ") {
			t.Errorf("round %d: %s", round, got[at])
		}
	}
}

// flipSetups leave durable files, working files, writes that are pending, and an older region.
var flipSetups = [][]string{
	{"write a hello", "sync"},
	{"write a hello", "sync", "write b -"},
	{"write a -", "write b -", "sync", "write a -", "sync", "clean"},
	{"fill a 70 3", "sync", "del a", "write b -"},
}

var flipShow = []string{"read a", "read b", "list", "stat"}

// Each byte of the disk, in a few bits, while the store is up: seen by reads, by calls that write, by syncs, and by a mount.
func TestFlipEveryByteWhileUp(t *testing.T) {
	tails := [][]string{
		{"crash", "mount"},
		{"sync", "read a", "crash", "mount"},
		{"write c -", "clean", "crash -1 -1 -1 -1", "mount"},
		{"trunc a 6", "sync", "sync", "crash", "mount"},
	}
	for i, setup := range flipSetups {
		for at := range 768 {
			for _, bits := range []int{1, 128, 255} {
				tail := tails[(at+bits+i)%len(tails)]
				lines := slices.Concat(setup, []string{fmt.Sprint("flip ", at, " ", bits)}, flipShow, tail, flipShow, []string{fmt.Sprint("flip ", at, " ", bits)}, flipShow, []string{"mount"}, flipShow)
				wantServed(t, fmt.Sprint("byte ", at), lines, tiny)
			}
		}
	}
}

func TestFlipEveryByteWhileDown(t *testing.T) {
	codes := map[string]int{}
	for _, setup := range flipSetups {
		for at := range 768 {
			for _, bits := range []int{1, 3, 64} {
				flip := fmt.Sprint("flip ", at, " ", bits)
				lines := slices.Concat(setup, []string{"crash", flip, "mount"}, flipShow, []string{"sync", "write c x", "sync"}, flipShow, []string{"crash", flip, "mount"}, flipShow)
				answers := wantServed(t, fmt.Sprint("byte ", at), lines, tiny)
				codes[strings.Fields(answers[len(setup)+2])[0]+strings.Fields(answers[len(setup)+2])[1]]++
			}
		}
	}
	for _, answer := range []string{"mounted1", "mounted2", "corrupt4", "corrupt5", "corrupt6"} {
		if codes[answer] == 0 {
			t.Errorf("no mount was answered %s", answer)
		}
	}
}
