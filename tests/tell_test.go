package tests

import (
	"fmt"
	"math"
	"slices"
	"strings"
	"testing"

	"loop.example/s02881/impl"
)

func wantTold(t *testing.T, kind int64, a impl.Answer, want string) {
	t.Helper()
	names := slices.Clone(a.Names)
	if got := impl.FormatAnswer(impl.Call{Kind: kind}, a); got != want {
		t.Errorf("kind %d, %+v: %q, want %q", kind, a, got, want)
	}
	if !slices.Equal(a.Names, names) {
		t.Errorf("kind %d: the names were changed", kind)
	}
}

// everything is an answer with all of its fields; each kind tells its own alone.
func everything() impl.Answer {
	return impl.Answer{Data: "d d", Names: []string{"n", "m"}, Num: 7, Stat: impl.Stat{Files: 1, Live: 2, Free: 3, Active: 4, Seq: 5}}
}

func TestToldByKind(t *testing.T) {
	for kind, want := range map[int64]string{1: "ok", 2: "data 3 d%20d", 3: "ok", 4: "ok", 5: "names 2 n m", 6: "ok", 7: "moved 7", 8: "stat 1 2 3 4 5"} {
		wantTold(t, kind, everything(), want)
	}
	for kind, want := range map[int64]string{1: "ok", 2: "data 0", 3: "ok", 4: "ok", 5: "names 0", 6: "ok", 7: "moved 0", 8: "stat 0 0 0 0 0"} {
		wantTold(t, kind, impl.Answer{}, want)
	}
}

// Nothing of the call but its kind plays a part.
func TestToldByTheKindAlone(t *testing.T) {
	for kind := range int64(10) {
		for _, a := range []impl.Answer{{}, everything(), {Code: 24}} {
			c := impl.Call{Kind: kind, Name: "No Name", Data: "x", Size: -1}
			if got, want := impl.FormatAnswer(c, a), tellByBook(impl.Call{Kind: kind}, a); got != want {
				t.Errorf("%+v: %q, want %q", c, got, want)
			}
		}
	}
}

func TestToldKindsThatAreNone(t *testing.T) {
	for _, kind := range append([]int64{-1, 0, 9, 10, 20, -8, 1 + 1<<32}, farNumbers...) {
		wantTold(t, kind, everything(), "")
		wantTold(t, kind, impl.Answer{}, "")
		wantTold(t, kind, impl.Answer{Code: 20}, "error 20")
	}
}

func TestToldCodes(t *testing.T) {
	for kind := int64(-1); kind < 11; kind++ {
		for _, code := range append([]int64{1, 8, 20, 21, 22, 23, 24, -1, 100}, farNumbers...) {
			a := everything()
			a.Code = code
			wantTold(t, kind, a, fmt.Sprint("error ", code))
		}
	}
}

func TestToldData(t *testing.T) {
	for data, want := range map[string]string{
		"a": "data 1 a", "hello": "data 5 hello", "%": "data 1 %25", "%%": "data 2 %25%25", "x%y": "data 3 x%25y", "%41": "data 3 %2541", " ": "data 1 %20", "a b": "data 3 a%20b", "-": "data 1 -",
		"!~": "data 2 !~", "\x7f": "data 1 %7F", "\x00": "data 1 %00", "\n": "data 1 %0A", "\xab\xcd\xef": "data 3 %AB%CD%EF", "\xff": "data 1 %FF", "é": "data 2 %C3%A9", "0\x1f0": "data 3 0%1F0", "&$": "data 2 &$",
	} {
		wantTold(t, impl.CallRead, impl.Answer{Data: data}, want)
	}
	long := strings.Repeat("ab%\x00", 3000)
	wantTold(t, impl.CallRead, impl.Answer{Data: long}, "data 12000 "+strings.Repeat("ab%25%00", 3000))
}

func TestToldDataOfEveryByte(t *testing.T) {
	all, told := "", ""
	for b := range 256 {
		one := string([]byte{byte(b)})
		shown := one
		if b < 33 || b > 126 || b == 37 {
			shown = "%" + "0123456789ABCDEF"[b/16:][:1] + "0123456789ABCDEF"[b%16:][:1]
		}
		wantTold(t, impl.CallRead, impl.Answer{Data: one}, "data 1 "+shown)
		wantTold(t, impl.CallRead, impl.Answer{Data: "a" + one + "F"}, "data 3 a"+shown+"F")
		all, told = all+one, told+shown
	}
	wantTold(t, impl.CallRead, impl.Answer{Data: all}, "data 256 "+told)
}

func TestToldNames(t *testing.T) {
	wantTold(t, impl.CallList, impl.Answer{Names: []string{}}, "names 0")
	wantTold(t, impl.CallList, impl.Answer{Names: []string{"a"}}, "names 1 a")
	wantTold(t, impl.CallList, impl.Answer{Names: []string{"b", "a", "b"}}, "names 3 b a b")
	wantTold(t, impl.CallList, impl.Answer{Names: []string{""}}, "names 1 ")
	wantTold(t, impl.CallList, impl.Answer{Names: []string{"", ""}}, "names 2  ")
	wantTold(t, impl.CallList, impl.Answer{Names: []string{"%", "\n", " "}}, "names 3 % \n  ")
	many := slices.Repeat([]string{"abc"}, 1000)
	wantTold(t, impl.CallList, impl.Answer{Names: many}, "names 1000"+strings.Repeat(" abc", 1000))
}

// A list with room behind it must not be written into.
func TestToldNamesWithSpareRoom(t *testing.T) {
	names := []string{"a", "b", "c", "d"}
	wantTold(t, impl.CallList, impl.Answer{Names: names[:2]}, "names 2 a b")
	wantTold(t, impl.CallList, impl.Answer{Names: names[1:3]}, "names 2 b c")
	if !slices.Equal(names, []string{"a", "b", "c", "d"}) {
		t.Errorf("%q", names)
	}
}

func TestToldNumbers(t *testing.T) {
	for _, n := range append([]int64{0, 1, -1, 9, 10, 1000000, -1000000}, farNumbers...) {
		wantTold(t, impl.CallClean, impl.Answer{Num: n}, fmt.Sprint("moved ", n))
		wantTold(t, impl.CallStat, impl.Answer{Stat: impl.Stat{Files: n}}, fmt.Sprint("stat ", n, " 0 0 0 0"))
		wantTold(t, impl.CallStat, impl.Answer{Stat: impl.Stat{Live: n}}, fmt.Sprint("stat 0 ", n, " 0 0 0"))
		wantTold(t, impl.CallStat, impl.Answer{Stat: impl.Stat{Free: n}}, fmt.Sprint("stat 0 0 ", n, " 0 0"))
		wantTold(t, impl.CallStat, impl.Answer{Stat: impl.Stat{Active: n}}, fmt.Sprint("stat 0 0 0 ", n, " 0"))
		wantTold(t, impl.CallStat, impl.Answer{Stat: impl.Stat{Seq: n}}, fmt.Sprint("stat 0 0 0 0 ", n))
	}
	wantTold(t, impl.CallStat, impl.Answer{Stat: impl.Stat{Files: -1, Live: -2, Free: -3, Active: -4, Seq: math.MinInt64}}, "stat -1 -2 -3 -4 -9223372036854775808")
}
