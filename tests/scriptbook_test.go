package tests

import (
	"fmt"
	"regexp"
	"slices"
	"strconv"
	"strings"
	"testing"

	"loop.example/s02881/impl"
)

// The scripts of chapter 6, told once more: lines by patterns, and a store around the second engine.

// form is a pattern of a whole line: F is a field, N a number.
func form(text string) *regexp.Regexp {
	text = strings.NewReplacer("F", `([!-~]+)`, "N", `(?:0|-?[1-9][0-9]{0,8})`).Replace(text)
	return regexp.MustCompile(`\A` + text + `\z`)
}

// lineForm makes a line of its parts, which are fields, or a list of numbers with spaces between; false if a number is out of bounds.
type lineForm struct {
	form *regexp.Regexp
	line func(parts []string) (impl.Line, bool)
}

func callLine(c impl.Call) (impl.Line, bool) {
	return impl.Line{Kind: 1, Call: c}, true
}

func numbersIn(text string) []int64 {
	numbers := []int64{}
	for _, word := range strings.Fields(text) {
		n, err := strconv.ParseInt(word, 10, 64)
		if err != nil {
			panic(err)
		}
		numbers = append(numbers, n)
	}
	return numbers
}

func bareForm(word string, line impl.Line) lineForm {
	return lineForm{form(word), func([]string) (impl.Line, bool) { return line, true }}
}

var lineForms = []lineForm{
	{form(`write F F`), func(p []string) (impl.Line, bool) {
		if p[1] == "-" {
			p[1] = ""
		}
		return callLine(callWrite(p[0], p[1]))
	}},
	{form(`fill F (N) (N)`), func(p []string) (impl.Line, bool) {
		size, first := numbersIn(p[1])[0], numbersIn(p[2])[0]
		if size < 0 || size > 2000 || first < 0 || first > 25 {
			return impl.Line{}, false
		}
		return callLine(callWrite(p[0], strings.Repeat("abcdefghijklmnopqrstuvwxyz", 80)[first:first+size]))
	}},
	{form(`read F`), func(p []string) (impl.Line, bool) { return callLine(callRead(p[0])) }},
	{form(`trunc F (N)`), func(p []string) (impl.Line, bool) { return callLine(callTruncate(p[0], numbersIn(p[1])[0])) }},
	{form(`del F`), func(p []string) (impl.Line, bool) { return callLine(callDelete(p[0])) }},
	bareForm("list", impl.Line{Kind: 1, Call: callList}),
	bareForm("sync", impl.Line{Kind: 1, Call: callSync}),
	bareForm("clean", impl.Line{Kind: 1, Call: callClean}),
	bareForm("stat", impl.Line{Kind: 1, Call: callStat}),
	bareForm("mount", impl.Line{Kind: 2}),
	{form(`arm ((?:N )*N)`), func(p []string) (impl.Line, bool) {
		numbers := numbersIn(p[0])
		return impl.Line{Kind: 3, Nums: numbers}, numbers[0] > 0 && numbers[0] < 100001 && len(numbers) < 401
	}},
	{form(`crash((?: N)*)`), func(p []string) (impl.Line, bool) {
		numbers := numbersIn(p[0])
		return impl.Line{Kind: 4, Nums: numbers}, len(numbers) < 401
	}},
	{form(`flip (N N)`), func(p []string) (impl.Line, bool) {
		numbers := numbersIn(p[0])
		return impl.Line{Kind: 5, Nums: numbers}, numbers[0] >= 0 && numbers[0] < 100000 && numbers[1] > 0 && numbers[1] < 256
	}},
}

func lineByBook(text string) impl.Line {
	for _, f := range lineForms {
		if parts := f.form.FindStringSubmatch(text); parts != nil && len(text) <= 60000 {
			if line, ok := f.line(parts[1:]); ok {
				return line
			}
		}
	}
	return impl.Line{}
}

func sameLine(a, b impl.Line) bool {
	return a.Kind == b.Kind && a.Call == b.Call && slices.Equal(a.Nums, b.Nums)
}

func tellByBook(c impl.Call, a impl.Answer) string {
	if a.Code != 0 {
		return fmt.Sprint("error ", a.Code)
	}
	switch c.Kind {
	case 1, 3, 4, 6:
		return "ok"
	case 2:
		if a.Data == "" {
			return "data 0"
		}
		text := ""
		for i := range len(a.Data) {
			if a.Data[i] <= ' ' || a.Data[i] > '~' || a.Data[i] == '%' {
				text += fmt.Sprintf("%%%02X", a.Data[i])
			} else {
				text += a.Data[i : i+1]
			}
		}
		return fmt.Sprint("data ", len(a.Data), " ") + text
	case 5:
		text := fmt.Sprint("names ", len(a.Names))
		for _, name := range a.Names {
			text += " " + name
		}
		return text
	case 7:
		return fmt.Sprint("moved ", a.Num)
	case 8:
		return fmt.Sprintf("stat %d %d %d %d %d", a.Stat.Files, a.Stat.Live, a.Stat.Free, a.Stat.Active, a.Stat.Seq)
	}
	return ""
}

// bookStore is down while it has no engine. The armed crash comes with the disk operation number due from now on; 0 is none.
type bookStore struct {
	g       impl.Geometry
	disk    impl.Disk
	engine  *bookEngine
	due     int
	choices []int64
	crashes int
}

func newBookStore(g impl.Geometry) *bookStore {
	d := impl.FormatDisk(g)
	return &bookStore{g: g, engine: newBookEngine(d, g)}
}

func (s *bookStore) crash(d impl.Disk, choices []int64) string {
	*s = bookStore{g: s.g, disk: crashByBytes(d, choices), crashes: s.crashes + 1}
	return "crashed"
}

func (s *bookStore) mount() string {
	if s.engine != nil {
		return "up"
	}
	m := mountByBook(s.disk, s.g)
	if m.Code != 0 {
		return fmt.Sprint("corrupt ", m.Code)
	}
	s.engine = newBookEngine(s.disk, s.g)
	return fmt.Sprint("mounted ", m.Seq, " ", len(m.Files))
}

func (s *bookStore) flip(at, bits int64) string {
	d := s.disk
	if s.engine != nil {
		d = s.engine.disk
	}
	if at >= int64(len(d.Durable)) {
		return "badline"
	}
	d.Durable[at] ^= byte(bits)
	return "ok"
}

// call makes the whole call; if the armed crash comes in its midst, the disk is made anew from what it was ahead of the call.
func (s *bookStore) call(c impl.Call) string {
	before, first := copyDisk(s.engine.disk), len(s.engine.ops)
	a := s.engine.answer(c)
	made := s.engine.ops[first:]
	if s.due > 0 && s.due <= len(made) {
		return s.crash(diskAfter(before, made[:s.due-1]), s.choices)
	}
	if s.due > 0 {
		s.due -= len(made)
	}
	return tellByBook(c, a)
}

func (s *bookStore) answer(line impl.Line) string {
	switch line.Kind {
	case 2:
		return s.mount()
	case 3:
		s.due, s.choices = int(line.Nums[0]), line.Nums[1:]
		return "armed"
	case 5:
		return s.flip(line.Nums[0], line.Nums[1])
	case 0:
		return "badline"
	}
	if s.engine == nil {
		return "down"
	}
	if line.Kind == 4 {
		return s.crash(s.engine.disk, line.Nums)
	}
	return s.call(line.Call)
}

// serveByBook takes valid geometries, and scripts that are not too long.
func serveByBook(lines []string, g impl.Geometry) []string {
	s := newBookStore(g)
	answers := []string{}
	for _, line := range lines {
		answers = append(answers, s.answer(lineByBook(line)))
	}
	return answers
}

// serve gives a script of these lines, the last one with its end or without, and cuts the answer into lines.
func serve(t *testing.T, what string, lines []string, g impl.Geometry) []string {
	t.Helper()
	script := strings.Join(lines, "\n")
	if len(lines) > 0 && (len(script)%2 == 0 || lines[len(lines)-1] == "") && len(script) < impl.MaxScript {
		script += "\n"
	}
	given := []byte(script)
	got := string(impl.Serve(given, g))
	if string(given) != script {
		t.Fatalf("%s: the script was changed", what)
	}
	if got == "" {
		return []string{}
	}
	if !strings.HasSuffix(got, "\n") {
		t.Fatalf("%s: no byte 10 at the end of %q", what, got)
	}
	return strings.Split(strings.TrimSuffix(got, "\n"), "\n")
}

func wantAnswers(t *testing.T, what string, lines, got, want []string) {
	t.Helper()
	for i := range min(len(got), len(want)) {
		if got[i] != want[i] {
			t.Fatalf("%s, line %d of\n%s\nis answered\n%q, want\n%q", what, i, strings.Join(lines[:i+1], "\n"), got[i], want[i])
		}
	}
	if len(got) != len(want) {
		t.Fatalf("%s: %d answers to %d lines, want %d", what, len(got), len(lines), len(want))
	}
}

func wantServed(t *testing.T, what string, lines []string, g impl.Geometry) []string {
	t.Helper()
	got := serve(t, what, lines, g)
	wantAnswers(t, what, lines, got, serveByBook(lines, g))
	return got
}
