package tests

import (
	"fmt"
	"slices"
	"strings"
	"testing"

	"loop.example/s02881/impl"
)

// wantTalk takes a talk with a store, on each row a line and its answer.
func wantTalk(t *testing.T, what string, g impl.Geometry, rows ...string) {
	t.Helper()
	lines, want := []string{}, []string{}
	for _, row := range rows {
		line, answer, found := strings.Cut(row, " > ")
		if !found {
			t.Fatalf("%s: the test itself is wrong: %q", what, row)
		}
		lines, want = append(lines, line), append(want, answer)
	}
	wantAnswers(t, what, lines, serve(t, what, lines, g), want)
	wantServed(t, what, lines, g)
}

func TestServeExample(t *testing.T) {
	script := "write a hello\nstat\nsync\nwrite a -\nwrite b x%y\nread a\narm 3\nsync\nmount\nlist\nread a\nfill big 300 0\n"
	want := "ok\nstat 1 2 6 0 1\nok\nok\nerror 24\ndata 0\narmed\ncrashed\nmounted 2 1\nnames 1 a\ndata 5 hello\nerror 24\n"
	if got := string(impl.Serve([]byte(script), tiny)); got != want {
		t.Errorf("%q, want %q", got, want)
	}
}

func TestServeBadGeometries(t *testing.T) {
	for _, g := range badGeometries() {
		for _, script := range []string{"", "\n", "sync", "nonsense", strings.Repeat("\n", impl.MaxScript), strings.Repeat("\n", impl.MaxScript+1), strings.Repeat("x", 200000)} {
			if got := string(impl.Serve([]byte(script), g)); got != "bad geometry\n" {
				t.Errorf("%v, %d bytes: %.100q", g, len(script), got)
			}
		}
	}
	if got := string(impl.Serve(nil, impl.Geometry{})); got != "bad geometry\n" {
		t.Errorf("%q", got)
	}
}

func TestServeEveryGeometry(t *testing.T) {
	for _, g := range allGeometries() {
		rows := []string{
			fmt.Sprintf("stat > stat 0 0 %d -1 1", g.Segs*g.SegBlocks), "write a - > ok", fmt.Sprintf("stat > stat 1 1 %d 0 1", g.Segs*g.SegBlocks-1), "sync > ok", "write b - > ok", "crash > crashed", "mount > mounted 2 1", "list > names 1 a",
			fmt.Sprintf("flip %d 1 > ok", 64*(logOf(g)+payloadOf(g))-1), fmt.Sprintf("flip %d 1 > badline", 64*(logOf(g)+payloadOf(g))),
		}
		wantTalk(t, fmt.Sprint(g), g, rows...)
	}
}

func wantServe(t *testing.T, script, want string) {
	t.Helper()
	if got := string(impl.Serve([]byte(script), tiny)); got != want {
		t.Errorf("%.100q (%d bytes): %.200q (%d bytes), want %.200q (%d bytes)", script, len(script), got, len(got), want, len(want))
	}
}

func TestServeScriptsOfManyBytes(t *testing.T) {
	full := []struct{ script, want string }{
		{strings.Repeat("list\n", 12000), strings.Repeat("names 0\n", 12000)},
		{strings.Repeat("\n", 60000), strings.Repeat("badline\n", 60000)},
		{"write a " + strings.Repeat("x", 59992), "error 23\n"},
		{"read " + strings.Repeat("a", 59994) + "\n", "error 21\n"},
		{strings.Repeat("\x00", 60000), "badline\n"},
	}
	for _, c := range full {
		wantServe(t, c.script, c.want)
		wantServe(t, c.script[:len(c.script)-1]+" ", strings.TrimSuffix(c.want, lastLine(c.want))+"badline\n")
		for _, more := range []string{"\n", "x", " ", "\x00", strings.Repeat("\n", 1000)} {
			wantServe(t, c.script+more, "script too long\n")
		}
	}
}

func lastLine(text string) string {
	return text[strings.LastIndex(text[:len(text)-1], "\n")+1:]
}

func TestServeCutsLines(t *testing.T) {
	wantServe(t, "", "")
	wantServe(t, "\n", "badline\n")
	wantServe(t, "\n\n\n", "badline\nbadline\nbadline\n")
	wantServe(t, "list", "names 0\n")
	wantServe(t, "list\n", "names 0\n")
	wantServe(t, "list\n\n", "names 0\nbadline\n")
	wantServe(t, "\nlist", "badline\nnames 0\n")
	wantServe(t, "list\nlist", "names 0\nnames 0\n")
	wantServe(t, "list\n\nlist\n", "names 0\nbadline\nnames 0\n")
	wantServe(t, "list\r\nlist\r", "badline\nbadline\n")
	wantServe(t, "list\rlist", "badline\n")
	wantServe(t, " ", "badline\n")
	wantServe(t, "list \n list\nlist", "badline\nbadline\nnames 0\n")
	wantServe(t, "list\x00\nlist\x0b\nlist\x85\xa8", "badline\nbadline\nbadline\n")
	if got := impl.Serve(nil, tiny); len(got) != 0 {
		t.Errorf("%q", got)
	}
}

func TestServeEveryLineUp(t *testing.T) {
	wantTalk(t, "up", impl.Geometry{Segs: 6, SegBlocks: 4},
		"write a ab > ok", "write - - > ok", "read a > data 2 ab", "read - > data 0", "trunc a 1 > ok", "read a > data 1 a", "fill a 3 25 > ok", "read a > data 3 zab", "trunc a 5 > ok", "read a > data 5 zab%00%00", "list > names 2 - a", "stat > stat 2 3 15 2 1",
		"sync > ok", "del - > ok", "list > names 1 a", "clean > moved 1", "sync > ok", "clean > moved 1", "stat > stat 1 2 21 2 5", "clean > moved 0", "mount > up", "arm 1 > armed", "flip 0 1 > ok", "nothing > badline", " > badline",
		"write A x > error 21", "read b > error 22", "del b > error 22", "trunc b 1 > error 22", "trunc a -1 > error 23", "trunc a 1409 > error 23", "fill a 1409 0 > error 23", "fill a 2000 0 > error 23", "fill a 1408 0 > error 24", "crash > crashed",
	)
}

func TestServeEveryLineDown(t *testing.T) {
	wantTalk(t, "down", tiny,
		"write a ab > ok", "sync > ok", "crash > crashed",
		"write b x > down", "fill b 1 1 > down", "read a > down", "read / > down", "trunc a 1 > down", "trunc a -1 > down", "del a > down", "list > down", "sync > down", "clean > down", "stat > down", "crash > down", "crash 1 2 3 > down",
		"nothing > badline", " > badline", "flip 768 1 > badline", "flip 767 1 > ok", "arm 1 > armed", "arm 0 > badline", "mount > mounted 2 1", "mount > up", "read a > data 2 ab", "list > names 1 a",
	)
}

// The limits of a run do not hold for a script, and one engine serves all its calls.
func TestServeMoreThanMaxCalls(t *testing.T) {
	lines := []string{"write a -"}
	for i := range 2 * impl.MaxCalls {
		lines = append(lines, []string{"list", "write a x", "read a", "sync", "stat"}[i%5])
	}
	got := wantServed(t, "many calls", lines, tiny)
	if len(got) != 2001 || got[1] != "names 1 a" || got[1998] != "data 1 x" || got[1999] != "ok" || !strings.HasPrefix(got[2000], "stat 1 2 ") {
		t.Errorf("%d answers: %q", len(got), got[len(got)-5:])
	}
	lists := strings.Repeat("list\n", impl.MaxCalls+1)
	wantServe(t, lists, strings.Repeat("names 0\n", impl.MaxCalls+1))
}

func TestServeMountCounts(t *testing.T) {
	wantTalk(t, "mounts", middle,
		"mount > up", "crash > crashed", "mount > mounted 1 0", "mount > up", "write a x > ok", "write b y > ok", "crash > crashed", "mount > mounted 1 0", "write a x > ok", "write b y > ok", "write c - > ok", "sync > ok", "sync > ok", "del b > ok",
		"crash > crashed", "mount > mounted 3 3", "del b > ok", "sync > ok", "crash 1 2 3 > crashed", "mount > mounted 4 2", "list > names 2 a c", "stat > stat 2 3 30 -1 4", "write d - > ok", "stat > stat 3 4 29 1 4",
	)
}

// Armed crashes.

func kept(n int) string {
	return strings.Repeat(" -1", n)
}

// Two blocks of a file of middle and its inode are three operations.
func TestArmAtEveryOperationOfAWrite(t *testing.T) {
	for _, choices := range []string{"", kept(4), " 0 64 1"} {
		for k := 1; k <= 3; k++ {
			wantTalk(t, fmt.Sprint("operation ", k, choices), middle, fmt.Sprint("arm ", k, choices, " > armed"), "fill a 100 0 > crashed", "list > down", "mount > mounted 1 0", "list > names 0", "fill a 100 0 > ok", "sync > ok", "read a > "+tellByBook(callRead("a"), impl.Answer{Data: strings.Repeat("abcdefghijklmnopqrstuvwxyz", 4)[:100]}))
		}
		wantTalk(t, "behind it"+choices, middle, "arm 4"+choices+" > armed", "fill a 100 0 > ok", "list > names 1 a", "del a > ok", "write b - > crashed", "mount > mounted 1 0", "list > names 0")
	}
}

// The table of middle has two blocks: the operations of a sync are these, a barrier, the header, and a barrier.
func TestArmAtEveryOperationOfASync(t *testing.T) {
	setup := []string{"write a old > ok", "sync > ok", "write a new > ok", "write b - > ok"}
	old := []string{"mounted 2 1", "names 1 a", "data 3 old", "error 22"}
	new := []string{"mounted 3 2", "names 2 a b", "data 3 new", "data 0"}
	show := func(want []string) []string {
		rows := []string{}
		for i, line := range []string{"mount", "list", "read a", "read b"} {
			rows = append(rows, line+" > "+want[i])
		}
		return rows
	}
	for k := 1; k <= 5; k++ {
		for _, choices := range []string{"", kept(8), kept(399), " 0", " 63" + kept(7), " 1", " 7", " 8", " 55", " 64"} {
			want := old
			if k == 5 && slices.Contains([]string{kept(8), kept(399), " 64"}, choices) {
				want = new
			}
			rows := append(slices.Clone(setup), fmt.Sprint("arm ", k, choices, " > armed"), "sync > crashed")
			wantTalk(t, fmt.Sprint("operation ", k, choices), middle, append(rows, show(want)...)...)
		}
	}
	rows := append(slices.Clone(setup), "arm 6 > armed", "sync > ok", "read a > data 3 new", "sync > crashed")
	wantTalk(t, "behind it", middle, append(rows, show(new)...)...)
}

// A cleaning run of tiny that moves one block has five operations.
func TestArmAtEveryOperationOfACleaningRun(t *testing.T) {
	setup := []string{"write a - > ok", "write b - > ok", "sync > ok", "write a - > ok", "sync > ok"}
	for k := 1; k <= 5; k++ {
		for _, choices := range []string{"", kept(3), " 63", " 0 64"} {
			seq := 3
			if k == 5 && choices == kept(3) {
				seq = 4
			}
			rows := append(slices.Clone(setup), fmt.Sprint("arm ", k, choices, " > armed"), "clean > crashed", fmt.Sprint("mount > mounted ", seq, " 2"), "list > names 2 a b", "read a > data 0", "read b > data 0")
			wantTalk(t, fmt.Sprint("operation ", k, choices), tiny, rows...)
		}
	}
	rows := append(slices.Clone(setup), "arm 6 > armed", "clean > moved 1", "clean > moved 0", "write c - > crashed", "mount > mounted 4 2")
	wantTalk(t, "behind it", tiny, rows...)
}

// Every operation of drawn calls, some of them of cleaning runs that make room.
func TestArmAtEveryOperationOfDrawnCalls(t *testing.T) {
	roll := &dice{state: 223}
	crashed := map[string]int{}
	for round := range 30 {
		g := drawnGeometry(roll)
		lines := drawnTalk(roll, g, 40)
		s := newBookStore(g)
		for _, line := range lines {
			s.answer(lineByBook(line))
		}
		for k := 1; k <= len(s.engine.ops)+1; k++ {
			arm := fmt.Sprint("arm ", k, drawnChoices(roll, 12))
			armed := slices.Concat([]string{arm}, lines, []string{"mount", "list", "stat"}, lines[:5])
			answers := wantServed(t, fmt.Sprint("round ", round, ", ", g), armed, g)
			if at := slices.Index(answers, "crashed"); at >= 0 {
				crashed[strings.Fields(armed[at])[0]]++
			}
		}
	}
	for _, word := range []string{"write", "fill", "trunc", "sync", "clean"} {
		if crashed[word] < 50 {
			t.Errorf("only %d crashes in %s", crashed[word], word)
		}
	}
}

func TestArmCountsOperationsAlone(t *testing.T) {
	wantTalk(t, "calls without operations", tiny,
		"arm 2 > armed", "read a > error 22", "list > names 0", "stat > stat 0 0 8 -1 1", "clean > moved 0", "write A x > error 21", "fill a 1408 0 > error 24", "del a > error 22", "mount > up", "flip 700 1 > ok", "nothing > badline",
		"write a - > ok", "read a > data 0", "del a > ok", "write a - > crashed",
	)
}

func TestArmAnew(t *testing.T) {
	wantTalk(t, "later", tiny, "arm 1 > armed", "arm 3 > armed", "write a x > ok", "write b - > crashed")
	wantTalk(t, "earlier", tiny, "arm 100000 > armed", "write a x > ok", "arm 1 > armed", "write b - > crashed")
	wantTalk(t, "the choices too", tiny, "arm 9 -1 -1 -1 > armed", "write a x > ok", "arm 4 > armed", "sync > crashed", "mount > mounted 1 0")
	wantTalk(t, "and back", tiny, "arm 9 > armed", "write a x > ok", "arm 4 -1 > armed", "sync > crashed", "mount > mounted 2 1")
	wantTalk(t, "not by a bad line", tiny, "arm 2 > armed", "arm 0 > badline", "arm 100001 > badline", "arm > badline", "write a x > crashed")
}

func TestArmForgottenByACrash(t *testing.T) {
	wantTalk(t, "by a line", tiny, "arm 1 > armed", "crash > crashed", "mount > mounted 1 0", "write a x > ok", "sync > ok", "write b - > ok", "sync > ok")
	wantTalk(t, "by itself", tiny, "arm 2 > armed", "write a x > crashed", "mount > mounted 1 0", "write a x > ok", "sync > ok", "write b - > ok", "sync > ok", "clean > moved 0")
	wantTalk(t, "not by the answer down", tiny, "crash > crashed", "arm 2 > armed", "crash > down", "sync > down", "mount > mounted 1 0", "write a - > ok", "write b - > crashed")
	wantTalk(t, "its choices too", tiny, "write a x > ok", "arm 9 -1 -1 > armed", "crash > crashed", "mount > mounted 1 0", "write a x > ok", "arm 4 > armed", "sync > crashed", "mount > mounted 1 0")
}

func TestArmWhileDown(t *testing.T) {
	for k := 1; k <= 6; k++ {
		rows := []string{"write z x > ok", "crash > crashed", fmt.Sprint("arm ", k, " > armed"), "mount > mounted 1 0", "mount > up"}
		for i := 1; i < k; i++ {
			rows = append(rows, fmt.Sprint("write f", i, " - > ok"))
		}
		wantTalk(t, fmt.Sprint("operation ", k), impl.Geometry{Segs: 6, SegBlocks: 4}, append(rows, "write last - > crashed", "mount > mounted 1 0")...)
	}
	wantTalk(t, "through mounts with a code", tiny,
		"crash > crashed", "flip 191 2 > ok", "mount > corrupt 3", "arm 2 > armed", "mount > corrupt 3", "write a - > down", "flip 191 2 > ok", "mount > mounted 1 0", "write a - > ok", "write a - > crashed", "mount > mounted 1 0", "write a - > ok", "write a - > ok",
	)
	wantTalk(t, "anew", tiny, "crash > crashed", "arm 1 > armed", "arm 2 > armed", "mount > mounted 1 0", "write a - > ok", "write a - > crashed")
}

// With 256 writes pending the barrier ahead of the next write is an operation of its own: 12 files of 23 blocks are 277 operations.
func TestArmAroundTheBarrierOfManyWrites(t *testing.T) {
	for _, k := range []int{255, 256, 257, 258, 276, 277, 278} {
		rows := []string{fmt.Sprint("arm ", k, kept(399), " > armed")}
		for i := range 12 {
			answer := "ok"
			if i == 11 && k < 278 {
				answer = "crashed"
			}
			rows = append(rows, fmt.Sprint("fill f", i, " 1408 ", i, " > ", answer))
		}
		if k == 278 {
			rows = append(rows, "list > names 12 f0 f1 f10 f11 f2 f3 f4 f5 f6 f7 f8 f9", "write f0 - > crashed")
		}
		wantTalk(t, fmt.Sprint("operation ", k), huge, append(rows, "mount > mounted 1 0", "list > names 0")...)
	}
}

// A crash may tear each of the writes that are pending.
func TestCrashLines(t *testing.T) {
	for _, choices := range []string{"", " 0", kept(1), kept(2), kept(400), " 5 64 -1"} {
		wantTalk(t, "ahead of the sync"+choices, middle, "write a x > ok", "sync > ok", "write a y > ok", "write b - > ok", "crash"+choices+" > crashed", "mount > mounted 2 1", "list > names 1 a", "read a > data 1 x")
		wantTalk(t, "behind the sync"+choices, middle, "write a x > ok", "sync > ok", "write a y > ok", "write b - > ok", "sync > ok", "crash"+choices+" > crashed", "mount > mounted 3 2", "list > names 2 a b", "read a > data 1 y")
	}
	wantTalk(t, "too many choices", middle, "crash"+kept(401)+" > badline", "list > names 0", "arm 1"+kept(400)+" > badline", "write a - > ok")
}

// Answers are new memory, and nothing is kept from script to script.
func TestServeAgainIsTheSame(t *testing.T) {
	script := []byte("write a x\nsync\nwrite b y\narm 2\nsync\nlist")
	first := impl.Serve(script, tiny)
	want := string(first)
	scribbleBytes(first)
	for range 3 {
		if got := string(impl.Serve(script, tiny)); got != want {
			t.Errorf("%q, want %q", got, want)
		}
	}
	for _, g := range []impl.Geometry{{}, tiny} {
		long := impl.Serve(make([]byte, impl.MaxScript+1), g)
		text := string(long)
		scribbleBytes(long)
		if got := string(impl.Serve(make([]byte, impl.MaxScript+1), g)); got != text {
			t.Errorf("%q, want %q", got, text)
		}
	}
}
