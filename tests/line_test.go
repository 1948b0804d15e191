package tests

import (
	"fmt"
	"strings"
	"testing"

	"loop.example/s02881/impl"
)

func TestScriptConstants(t *testing.T) {
	got := []int64{impl.MaxScript, impl.LineBad, impl.LineCall, impl.LineMount, impl.LineArm, impl.LineCrash, impl.LineFlip}
	for i, want := range []int64{60000, 0, 1, 2, 3, 4, 5} {
		if got[i] != want {
			t.Errorf("constant %d is %d, want %d", i, got[i], want)
		}
	}
}

func wantLine(t *testing.T, text string, want impl.Line) {
	t.Helper()
	given := []byte(text)
	got := impl.ParseLine(given)
	if !sameLine(got, want) {
		t.Errorf("%.200q: %.300s, want %.300s", text, fmt.Sprintf("%+v", got), fmt.Sprintf("%+v", want))
	}
	if string(given) != text {
		t.Errorf("%.200q was changed", text)
	}
}

func wantBad(t *testing.T, texts ...string) {
	t.Helper()
	for _, text := range texts {
		wantLine(t, text, impl.Line{})
	}
}

func wantCall(t *testing.T, text string, c impl.Call) {
	t.Helper()
	wantLine(t, text, impl.Line{Kind: impl.LineCall, Call: c})
}

func TestLinesOfCalls(t *testing.T) {
	wantCall(t, "write a hello", impl.Call{Kind: 1, Name: "a", Data: "hello"})
	wantCall(t, "write a x%y", impl.Call{Kind: 1, Name: "a", Data: "x%y"})
	wantCall(t, "write write write", impl.Call{Kind: 1, Name: "write", Data: "write"})
	wantCall(t, "write 1 2", impl.Call{Kind: 1, Name: "1", Data: "2"})
	wantCall(t, "write ! ~", impl.Call{Kind: 1, Name: "!", Data: "~"})
	wantCall(t, "fill a 5 0", impl.Call{Kind: 1, Name: "a", Data: "abcde"})
	wantCall(t, "fill a 4 23", impl.Call{Kind: 1, Name: "a", Data: "xyza"})
	wantCall(t, "read a", impl.Call{Kind: 2, Name: "a"})
	wantCall(t, "trunc a 9", impl.Call{Kind: 3, Name: "a", Size: 9})
	wantCall(t, "del a", impl.Call{Kind: 4, Name: "a"})
	wantCall(t, "list", impl.Call{Kind: 5})
	wantCall(t, "sync", impl.Call{Kind: 6})
	wantCall(t, "clean", impl.Call{Kind: 7})
	wantCall(t, "stat", impl.Call{Kind: 8})
}

func TestLinesOfOtherKinds(t *testing.T) {
	wantLine(t, "mount", impl.Line{Kind: 2})
	wantLine(t, "arm 7", impl.Line{Kind: 3, Nums: []int64{7}})
	wantLine(t, "arm 7 0 -1 63 64 999999999 -999999999", impl.Line{Kind: 3, Nums: []int64{7, 0, -1, 63, 64, 999999999, -999999999}})
	wantLine(t, "crash", impl.Line{Kind: 4})
	wantLine(t, "crash 0", impl.Line{Kind: 4, Nums: []int64{0}})
	wantLine(t, "crash 5 -5 5", impl.Line{Kind: 4, Nums: []int64{5, -5, 5}})
	wantLine(t, "flip 3 4", impl.Line{Kind: 5, Nums: []int64{3, 4}})
}

func TestLinesWithTooFewOrTooManyFields(t *testing.T) {
	wantBad(t, "write", "write a", "write a b c", "fill", "fill a", "fill a 1", "fill a 1 1 1", "read", "read a b", "trunc", "trunc a", "trunc a 1 1", "del", "del a b")
	wantBad(t, "list a", "list 1", "sync 1", "clean 1", "stat 1", "mount 1", "mount a", "arm", "flip", "flip 1", "flip 1 1 1")
}

func TestLinesOfOtherWords(t *testing.T) {
	wantBad(t, "", "a", "0", "-", "Sync", "SYNC", "syn", "syncs", "truncate a 1", "delete a", "line", "bad", "write,a,b", "readme a", "call", "0 1", "fil a 1 1", "crash5", "arm1", "flip1 1")
}

func TestLinesWithSpaces(t *testing.T) {
	for _, text := range []string{"write a b", "fill a 1 1", "read a", "trunc a 1", "del a", "list", "sync", "clean", "stat", "mount", "arm 1", "arm 1 -1", "crash", "crash 1", "flip 1 1"} {
		if impl.ParseLine([]byte(text)).Kind == impl.LineBad {
			t.Errorf("%q is bad", text)
		}
		wantBad(t, " "+text, text+" ", "\t"+text, text+"\t", text+"\r", text+"\n", "\n"+text, text+"\x00")
		for i := range text {
			if text[i] == ' ' {
				wantBad(t, text[:i]+" "+text[i:], text[:i]+"\t"+text[i+1:], text[:i]+text[i+1:], text[:i]+"\xa0"+text[i+1:])
			}
		}
	}
	wantBad(t, " ", "  ", "write a  b", "write  a b", "write a  ", "write a ", "write  a", "read  ", "crash  1", "arm  1")
}

func TestLinesWithEveryByte(t *testing.T) {
	for b := range 256 {
		field := string([]byte{byte(b)})
		wide := "x" + field + "y"
		if b < 33 || b > 126 {
			wantBad(t, "write "+wide+" d", "write n "+wide, "read "+field, "read "+wide, "del "+field, "fill "+wide+" 1 1", "trunc "+wide+" 1", field, "sync"+field)
			continue
		}
		wantCall(t, "write "+wide+" d", callWrite(wide, "d"))
		wantCall(t, "write n "+wide, callWrite("n", wide))
		wantCall(t, "read "+field, callRead(field))
		wantCall(t, "del "+field, callDelete(field))
		wantCall(t, "trunc "+field+" 1", callTruncate(field, 1))
		wantCall(t, "fill "+field+" 1 1", callWrite(field, "b"))
		wantBad(t, field, "sync"+field, field+"sync")
	}
}

func TestLinesWithTheFieldOfNoData(t *testing.T) {
	wantCall(t, "write a -", callWrite("a", ""))
	wantCall(t, "write - -", callWrite("-", ""))
	wantCall(t, "write - a", callWrite("-", "a"))
	wantCall(t, "write a --", callWrite("a", "--"))
	wantCall(t, "write a -a", callWrite("a", "-a"))
	wantCall(t, "write a 0", callWrite("a", "0"))
	wantCall(t, "read -", callRead("-"))
	wantCall(t, "del -", callDelete("-"))
	wantCall(t, "fill - 1 0", callWrite("-", "a"))
	wantCall(t, "trunc - 1", callTruncate("-", 1))
	wantBad(t, "trunc a -", "fill a - 1", "fill a 1 -", "arm -", "arm 1 -", "crash -", "flip - 1", "flip 1 -")
}

func TestNumbersOfLines(t *testing.T) {
	for text, n := range map[string]int64{"0": 0, "1": 1, "9": 9, "10": 10, "123456789": 123456789, "999999999": 999999999, "-1": -1, "-9": -9, "-100": -100, "-999999999": -999999999} {
		wantCall(t, "trunc a "+text, callTruncate("a", n))
		wantLine(t, "crash "+text, impl.Line{Kind: 4, Nums: []int64{n}})
		wantLine(t, "crash 1 "+text+" 2", impl.Line{Kind: 4, Nums: []int64{1, n, 2}})
		wantLine(t, "arm 1 "+text, impl.Line{Kind: 3, Nums: []int64{1, n}})
	}
	for _, text := range []string{
		"00", "01", "007", "-0", "-00", "-01", "-", "--", "--1", "+", "+0", "+1", "-+1", "1-", "1-1", "1.0", "1e3", "0x1", "1_0", "1000000000", "-1000000000", "1234567890", "9999999999",
		"9223372036854775808", "99999999999999999999999", "a", "1a", "a1", "1a1", "0a", "-a", "'1'", "\xd9\xa1", "\xef\xbc\x91",
	} {
		wantBad(t, "trunc a "+text, "crash "+text, "crash 1 "+text, "crash "+text+" 1", "arm "+text, "arm 1 "+text, "arm 1 1 "+text+" 1", "flip "+text+" 1", "flip 1 "+text, "fill a "+text+" 1", "fill a 1 "+text)
	}
}

// edges are the last good numbers on either side, with those beyond.
type edges struct {
	form string
	low  int64
	high int64
}

func TestBoundsOfNumbers(t *testing.T) {
	for _, e := range []edges{{"arm %d", 1, 100000}, {"arm %d 5", 1, 100000}, {"flip %d 1", 0, 99999}, {"flip 1 %d", 1, 255}, {"fill a %d 1", 0, 2000}, {"fill a 1 %d", 0, 25}} {
		for _, n := range []int64{e.low, e.low + 1, e.high - 1, e.high} {
			text := fmt.Sprintf(e.form, n)
			if want := lineByBook(text); want.Kind == 0 {
				t.Errorf("%q: the test itself is wrong", text)
			}
			wantLine(t, text, lineByBook(text))
		}
		for _, n := range []int64{-999999999, e.low - 2, e.low - 1, e.high + 1, e.high + 2, 999999999} {
			wantBad(t, fmt.Sprintf(e.form, n))
		}
	}
	wantLine(t, "arm 100000", impl.Line{Kind: 3, Nums: []int64{100000}})
	wantLine(t, "flip 0 255", impl.Line{Kind: 5, Nums: []int64{0, 255}})
	wantLine(t, "flip 99999 1", impl.Line{Kind: 5, Nums: []int64{99999, 1}})
}

func TestFillsOfEverySizeAndStart(t *testing.T) {
	for first := range 26 {
		want := []byte{}
		for i := range 2001 {
			if i < 60 || i > 1400 && i < 1412 || i > 1990 {
				wantCall(t, fmt.Sprint("fill a ", i, " ", first), callWrite("a", string(want)))
			}
			want = append(want, "abcdefghijklmnopqrstuvwxyz"[(i+first)%26])
		}
	}
}

func TestLinesWithManyNumbers(t *testing.T) {
	for _, count := range []int{1, 2, 398, 399, 400} {
		nums := []int64{}
		text := ""
		for i := range count {
			nums = append(nums, int64(i*7%90+1))
			text += fmt.Sprint(" ", i*7%90+1)
		}
		wantLine(t, "crash"+text, impl.Line{Kind: 4, Nums: nums})
		wantLine(t, "arm"+text, impl.Line{Kind: 3, Nums: nums})
	}
	for _, count := range []int{401, 402, 1000, 20000} {
		text := strings.Repeat(" 1", count)
		wantBad(t, "crash"+text, "arm"+text)
	}
}

func TestLinesOfManyBytes(t *testing.T) {
	long := strings.Repeat("x", impl.MaxScript-len("write a "))
	wantCall(t, "write a "+long, callWrite("a", long))
	wantCall(t, "write "+long+" a", callWrite(long, "a"))
	wantCall(t, "read xyz"+long, callRead("xyz"+long))
	wantBad(t, "write a "+long+"x", "write "+long+"x a", "read xyzz"+long, strings.Repeat("x", impl.MaxScript), strings.Repeat("x", impl.MaxScript+1), strings.Repeat(" ", impl.MaxScript), strings.Repeat("\x00", 100000), "sync"+strings.Repeat(" ", impl.MaxScript))
}

// Each byte of each line is taken out, doubled, and put in the place of every other.
func TestLinesWithOneByteChanged(t *testing.T) {
	for _, text := range []string{"write a0 b-", "fill ab 1999 24", "fill - 10 3", "read a", "trunc b -12", "trunc c 100200300", "del q", "list", "sync", "clean", "stat", "mount", "arm 100 0 -64", "arm 99999", "crash 1 20 -3", "crash", "flip 99999 255", "flip 0 1"} {
		for i := range text {
			wantLine(t, text[:i]+text[i+1:], lineByBook(text[:i]+text[i+1:]))
			for b := range 256 {
				changed, longer := text[:i]+string([]byte{byte(b)})+text[i+1:], text[:i]+string([]byte{byte(b)})+text[i:]
				wantLine(t, changed, lineByBook(changed))
				wantLine(t, longer, lineByBook(longer))
			}
		}
	}
}

func TestDrawnLines(t *testing.T) {
	roll := &dice{state: 211}
	words := []string{"write", "fill", "read", "trunc", "del", "list", "sync", "clean", "stat", "mount", "arm", "crash", "flip"}
	fields := []string{"-", "0", "1", "25", "255", "2000", "99999", "100000", "-1", "a", "b."}
	strays := []string{"", " ", "\t", "\xff", "00", "-0", "1000000000", "256", "26", "2001", "100001"}
	kinds := map[int64]int{}
	for range 60000 {
		text := words[roll.roll(len(words))]
		for range roll.roll(5) {
			list := fields
			if roll.roll(12) == 0 {
				list = strays
			}
			text += " " + list[roll.roll(len(list))]
		}
		want := lineByBook(text)
		kinds[want.Kind]++
		wantLine(t, text, want)
	}
	for kind := range int64(6) {
		if kinds[kind] < 100 {
			t.Errorf("only %d lines of kind %d", kinds[kind], kind)
		}
	}
}

func TestLinesAreNewMemory(t *testing.T) {
	text := []byte("arm 3 4 5")
	first, second := impl.ParseLine(text), impl.ParseLine(text)
	for i := range first.Nums[:cap(first.Nums)] {
		first.Nums[:cap(first.Nums)][i] = -9
	}
	scribbleBytes(text)
	if want := []int64{3, 4, 5}; !sameLine(second, impl.Line{Kind: 3, Nums: want}) {
		t.Errorf("%+v", second)
	}
	text = []byte("write name data")
	line := impl.ParseLine(text)
	scribbleBytes(text)
	if line.Call != callWrite("name", "data") {
		t.Errorf("%+v", line)
	}
}
