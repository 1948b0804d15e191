package tests

import (
	"fmt"
	"slices"
	"strings"
	"testing"

	"loop.example/s02881/impl"
)

// drawnWord is a field of data; no byte of it is outside 33..126.
func drawnWord(roll *dice, size int) string {
	if size == 0 {
		return "-"
	}
	b := make([]byte, size)
	for i := range b {
		b[i] = byte(33 + roll.roll(94))
	}
	return string(b)
}

func drawnChoices(roll *dice, most int) string {
	text := ""
	for range roll.roll(most + 1) {
		text += fmt.Sprint(" ", drawnChoice(roll))
	}
	return text
}

// drawnCallLine is a call on files of at most so many blocks of data.
func drawnCallLine(roll *dice, names, blocks int) string {
	name := drawnName(roll, names)
	switch n := roll.roll(40); {
	case n < 7:
		return "write " + name + " " + drawnWord(roll, drawnSize(roll, blocks))
	case n < 14:
		return fmt.Sprint("fill ", name, " ", drawnSize(roll, blocks), " ", roll.roll(26))
	case n < 18:
		return fmt.Sprint("trunc ", name, " ", drawnSize(roll, blocks))
	case n < 22:
		return "del " + name
	case n < 26:
		return "read " + name
	case n < 33:
		return []string{"sync", "sync", "clean", "list", "stat", "sync", "clean"}[n-26]
	case n < 38:
		return "write " + name + " -"
	}
	bad := []string{"write F x", "read nobody", "del a%b", "trunc nobody 5", "trunc " + name + " -1", "trunc " + name + " 1409", "fill " + name + " 2000 5", "fill abcdefghijklmnopq 1 1", "", "sync ", "reed " + name, "fill " + name + " 2001 0", "\xff\x00", "arm 0", "crash x", "flip 1"}
	return bad[roll.roll(len(bad))]
}

// talkSizes are how many names and how large files bring a store to its limits.
func talkSizes(roll *dice, g impl.Geometry) (names, blocks int) {
	room := int((g.Segs - 2) * g.SegBlocks)
	return 2 + roll.roll(min(room/2, 12)), 1 + roll.roll(max(1, min(22, room/2)))
}

// drawnTalk has calls alone.
func drawnTalk(roll *dice, g impl.Geometry, count int) []string {
	names, blocks := talkSizes(roll, g)
	lines := []string{}
	for range count {
		lines = append(lines, drawnCallLine(roll, names, blocks))
	}
	return lines
}

// showing lists and reads all files.
func showing(names int) []string {
	lines := []string{"list"}
	for i := range names {
		lines = append(lines, fmt.Sprint("read f", i))
	}
	return lines
}

// drawnCrashTalk has crashes at drawn operations, and all files are shown behind every mount.
func drawnCrashTalk(roll *dice, g impl.Geometry, bytes int) []string {
	names, blocks := talkSizes(roll, g)
	lines := []string{}
	for len(strings.Join(lines, "\n")) < bytes {
		switch roll.roll(12) {
		case 0:
			lines = append(lines, fmt.Sprint("arm ", 1+roll.roll(8+20*roll.roll(3)), drawnChoices(roll, 10)))
		case 1:
			lines = append(append(lines, "mount"), showing(names)...)
		case 2:
			if roll.roll(3) == 0 {
				lines = append(lines, "crash"+drawnChoices(roll, 10))
			}
		default:
			lines = append(lines, drawnCallLine(roll, names, blocks))
		}
	}
	for len(strings.Join(lines, "\n")) > bytes {
		lines = lines[:len(lines)-1]
	}
	return lines
}

// drawnScript has lines of all kinds. Most flips are taken back some lines later, so that mounts go on.
func drawnScript(roll *dice, g impl.Geometry, count int) []string {
	names, blocks := talkSizes(roll, g)
	size := int(64 * (logOf(g) + payloadOf(g)))
	lines, flips := []string{}, []string{}
	for len(lines) < count {
		switch roll.roll(20) {
		case 0:
			lines = append(lines, fmt.Sprint("arm ", 1+roll.roll(12), drawnChoices(roll, 10)))
		case 1, 2:
			lines = append(lines, "mount")
		case 3:
			lines = append(lines, "crash"+drawnChoices(roll, 10))
		case 4, 5:
			flip := fmt.Sprint("flip ", roll.roll(size+size/20), " ", 1+roll.roll(255))
			lines, flips = append(lines, flip), append(flips, flip)
		case 6, 7:
			if len(flips) > 0 {
				at := roll.roll(len(flips))
				lines = append(lines, flips[at])
				flips = slices.Delete(flips, at, at+1)
			}
		default:
			lines = append(lines, drawnCallLine(roll, names, blocks))
		}
	}
	return lines
}

func TestDrawnScriptsByTheBook(t *testing.T) {
	roll := &dice{state: 229}
	answers := map[string]int{}
	for round := range 1500 {
		g := drawnGeometry(roll)
		if roll.roll(3) == 0 {
			g = tiny
		}
		for _, answer := range wantServed(t, fmt.Sprint("round ", round, ", ", g), drawnScript(roll, g, 10+roll.roll(80)), g) {
			answers[strings.Fields(answer)[0]]++
		}
	}
	for _, word := range []string{"ok", "error", "data", "names", "moved", "stat", "badline", "armed", "crashed", "down", "up", "mounted", "corrupt"} {
		if answers[word] < 500 {
			t.Errorf("only %d answers %s", answers[word], word)
		}
	}
}

// Any bytes are a script.
func TestScriptsOfAnyBytes(t *testing.T) {
	roll := &dice{state: 233}
	for round := range 300 {
		script := []byte(drawnData(roll, roll.roll(400)))
		if roll.roll(2) == 0 {
			script = []byte(strings.Join(drawnScript(roll, tiny, 40), "\n"))
			for range roll.roll(20) {
				script[roll.roll(len(script))] = byte(roll.roll(256))
			}
		}
		lines := strings.Split(strings.TrimSuffix(string(script), "\n"), "\n")
		if len(script) == 0 {
			lines = nil
		}
		wantServed(t, fmt.Sprint("round ", round), lines, tiny)
	}
}

// Promises 7 and 8, in scripts: the answers of a plain map.

func TestTalksOfAPlainStore(t *testing.T) {
	roll := &dice{state: 239}
	refused := 0
	for round := range 150 {
		g := drawnGeometry(roll)
		lines := drawnTalk(roll, g, 300)
		got := serve(t, "talk", lines, g)
		if len(got) != len(lines) {
			t.Fatalf("round %d: %d answers to %d lines", round, len(got), len(lines))
		}
		plain := newPlainStore(g, nil)
		for i, line := range lines {
			parsed := lineByBook(line)
			want := "badline"
			if parsed.Kind != 0 {
				want = tellByBook(parsed.Call, plain.answer(parsed.Call))
			}
			if parsed.Call.Kind < impl.CallClean && got[i] != want {
				t.Fatalf("%v, round %d, line %d, %q: %q, want %q", g, round, i, line, got[i], want)
			}
			if want == "error 24" {
				refused++
			}
		}
	}
	if refused < 1000 {
		t.Errorf("only %d calls were refused for space", refused)
	}
}

func TestFullStoreStillSyncs(t *testing.T) {
	wantTalk(t, "full", tiny,
		"fill a 192 0 > ok", "write b - > error 24", "trunc a 192 > error 24", "trunc a 0 > error 24", "sync > ok", "clean > moved 0", "write b - > error 24", "del a > ok", "write b - > error 24", "list > names 0", "clean > moved 0", "sync > ok", "write b - > ok", "list > names 1 b",
		"crash > crashed", "mount > mounted 3 0", "fill a 128 0 > ok", "sync > ok", "write b - > ok", "read nobody > error 22", "clean > moved 0", "list > names 2 a b", "crash > crashed", "mount > mounted 4 1", "list > names 1 a",
	)
}

// Promise 12.

// plainTalk follows a script and its answers with all the plain stores that it may be by now; each answer leaves those that would give it.
type plainTalk struct {
	g       impl.Geometry
	stores  []*plainStore
	up      bool
	armed   bool
	crashes map[string]int
}

func plainSize(version map[string]plainFile) int {
	return len(plainList(version))
}

// remounted are the stores that a mount may find.
func (p *plainTalk) remounted(inSync bool) {
	stores := []*plainStore{}
	for _, s := range p.stores {
		stores = append(stores, newPlainStore(p.g, plainList(s.durable)))
		if inSync {
			stores = append(stores, newPlainStore(p.g, plainList(s.working)))
		}
	}
	p.stores, p.up, p.armed = stores, false, false
}

// keep leaves the stores that answer like this.
func (p *plainTalk) keep(fits func(s *plainStore) bool) bool {
	p.stores = slices.DeleteFunc(p.stores, func(s *plainStore) bool { return !fits(s) })
	return len(p.stores) > 0
}

func (p *plainTalk) call(line string, c impl.Call, answer string) bool {
	if answer == "crashed" {
		p.crashes[strings.Fields(line)[0]]++
		mayCrash := slices.Contains([]int64{1, 3, 6, 7}, c.Kind)
		fits := p.keep(func(s *plainStore) bool { return s.code(c) == 0 })
		lawful := p.armed && mayCrash && fits
		p.remounted(c.Kind == 6)
		return lawful
	}
	return p.keep(func(s *plainStore) bool {
		want := tellByBook(c, s.answer(c))
		return answer == want || c.Kind == 7 && strings.HasPrefix(answer, "moved ") || c.Kind == 8 && strings.HasPrefix(answer, "stat ")
	})
}

func (p *plainTalk) mount(answer string) bool {
	if p.up {
		return answer == "up"
	}
	p.up = true
	var seq, files int
	n, _ := fmt.Sscanf(answer, "mounted %d %d", &seq, &files)
	return n == 2 && p.keep(func(s *plainStore) bool { return plainSize(s.durable) == files })
}

// lawful tells whether an answer may be.
func (p *plainTalk) lawful(line, answer string) bool {
	parsed := lineByBook(line)
	switch {
	case parsed.Kind == impl.LineBad:
		return answer == "badline"
	case parsed.Kind == impl.LineArm:
		p.armed = true
		return answer == "armed"
	case parsed.Kind == impl.LineMount:
		return p.mount(answer)
	case !p.up:
		return answer == "down"
	case parsed.Kind == impl.LineCrash:
		p.remounted(false)
		return answer == "crashed"
	}
	return p.call(line, parsed.Call, answer)
}

func wantLawful(t *testing.T, what string, crashes map[string]int, lines []string, g impl.Geometry) {
	t.Helper()
	p := &plainTalk{g: g, stores: []*plainStore{newPlainStore(g, nil)}, up: true, crashes: crashes}
	got := serve(t, what, lines, g)
	if len(got) != len(lines) {
		t.Fatalf("%s: %d answers to %d lines", what, len(got), len(lines))
	}
	for i, line := range lines {
		if !p.lawful(line, got[i]) {
			t.Fatalf("%s, line %d of\n%s\nis answered %q", what, i, strings.Join(lines[:i+1], "\n"), got[i])
		}
	}
}

func TestCrashingScripts(t *testing.T) {
	roll := &dice{state: 241}
	crashes := map[string]int{}
	for round := range 1500 {
		g := drawnGeometry(roll)
		if roll.roll(4) == 0 {
			g = tiny
		}
		wantLawful(t, fmt.Sprint("round ", round, ", ", g), crashes, drawnCrashTalk(roll, g, 1000+roll.roll(3000)), g)
	}
	for _, word := range []string{"write", "fill", "trunc", "sync", "clean"} {
		if crashes[word] < 100 {
			t.Errorf("only %d crashes in %s", crashes[word], word)
		}
	}
}

// Scripts as long as the promise goes, on stores of all sizes.
func TestLongCrashingScripts(t *testing.T) {
	roll := &dice{state: 251}
	crashes := map[string]int{}
	for _, g := range append(plainGeometries(roll), impl.Geometry{Segs: 5, SegBlocks: 3}, impl.Geometry{Segs: 12, SegBlocks: 4}) {
		for range 4 {
			lines := drawnCrashTalk(roll, g, 20000)
			wantLawful(t, fmt.Sprint(g), crashes, lines, g)
			wantServed(t, fmt.Sprint(g), lines, g)
		}
	}
	if crashes["sync"] < 20 {
		t.Errorf("only %d crashes in sync", crashes["sync"])
	}
}

// A sync that a crash stops leaves the old files or the new ones, and both come to pass.
func TestCrashInASyncHasTwoOutcomes(t *testing.T) {
	seen := map[string]int{}
	for k := 1; k <= 4; k++ {
		for c := range 65 {
			lines := []string{"write a old", "sync", "write a new", fmt.Sprint("arm ", k, strings.Repeat(fmt.Sprint(" ", c), 4)), "sync", "mount", "list", "read a"}
			wantLawful(t, fmt.Sprint(k, " ", c), map[string]int{}, lines, tiny)
			answers := serve(t, "two outcomes", lines, tiny)
			seen[answers[7]]++
			if kept := k == 4 && c == 64; kept != (answers[5] == "mounted 3 1") || kept != (answers[7] == "data 3 new") {
				t.Errorf("operation %d, choice %d: %q", k, c, answers)
			}
		}
	}
	if len(seen) != 2 {
		t.Errorf("%v", seen)
	}
}

// Promise 13.

func TestAnswersDoNotHangOnLaterLines(t *testing.T) {
	roll := &dice{state: 257}
	for round := range 60 {
		g := drawnGeometry(roll)
		lines := drawnScript(roll, g, 50)
		if round%2 == 0 {
			lines = drawnCrashTalk(roll, g, 800)
		}
		whole := string(impl.Serve([]byte(strings.Join(lines, "\n")+"\n"), g))
		for i := range lines {
			head := strings.Join(lines[:i], "\n")
			if i > 0 {
				head += "\n"
			}
			answers := string(impl.Serve([]byte(head), g))
			if !strings.HasPrefix(whole, answers) || strings.Count(answers, "\n") != i {
				t.Fatalf("round %d: the answers to the first %d lines of\n%s\nare %q alone, and %q", round, i, strings.Join(lines, "\n"), answers, whole)
			}
			other := string(impl.Serve([]byte(head+strings.Join(drawnScript(roll, g, 5), "\n")+"\n"), g))
			if !strings.HasPrefix(other, answers) {
				t.Fatalf("round %d: the answers to the first %d lines are %q alone, and %q", round, i, answers, other)
			}
		}
	}
}

// A line without its end is answered like one with it.
func TestLastLineWithoutItsEnd(t *testing.T) {
	roll := &dice{state: 263}
	for range 40 {
		lines := drawnScript(roll, tiny, 30)
		for i := 1; i <= len(lines); i++ {
			if lines[i-1] == "" {
				continue
			}
			script := strings.Join(lines[:i], "\n")
			open, closed := string(impl.Serve([]byte(script), tiny)), string(impl.Serve([]byte(script+"\n"), tiny))
			if open != closed {
				t.Fatalf("%q: %q without, %q with byte 10 at the end", script, open, closed)
			}
		}
	}
}
