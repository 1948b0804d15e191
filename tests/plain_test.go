package tests

import (
	"fmt"
	"maps"
	"slices"
	"strings"

	"loop.example/s02881/impl"
)

func callWrite(name, data string) impl.Call {
	return impl.Call{Kind: impl.CallWrite, Name: name, Data: data}
}

func callRead(name string) impl.Call {
	return impl.Call{Kind: impl.CallRead, Name: name}
}

func callTruncate(name string, size int64) impl.Call {
	return impl.Call{Kind: impl.CallTruncate, Name: name, Size: size}
}

func callDelete(name string) impl.Call {
	return impl.Call{Kind: impl.CallDelete, Name: name}
}

var (
	callList  = impl.Call{Kind: impl.CallList}
	callSync  = impl.Call{Kind: impl.CallSync}
	callClean = impl.Call{Kind: impl.CallClean}
	callStat  = impl.Call{Kind: impl.CallStat}
)

// plainFile is one version of a file; what was written anew is another version, also with the same data.
type plainFile struct {
	data    string
	version int
}

// plainStore is the store without any disk: names with data, and the sum of section 5.3.
type plainStore struct {
	working  map[string]plainFile
	durable  map[string]plainFile
	limit    int
	versions int
}

func newPlainStore(g impl.Geometry, files []impl.File) *plainStore {
	s := &plainStore{working: map[string]plainFile{}, limit: int((g.Segs - 2) * g.SegBlocks)}
	for _, f := range files {
		s.put(f.Name, f.Data)
	}
	s.durable = maps.Clone(s.working)
	return s
}

func (s *plainStore) put(name, data string) {
	s.versions++
	s.working[name] = plainFile{data: data, version: s.versions}
}

func plainBlocks(size int) int {
	return (size+63)/64 + 1
}

func (s *plainStore) used() int {
	sum := 0
	for _, f := range s.working {
		sum += plainBlocks(len(f.data))
	}
	for name, f := range s.durable {
		if s.working[name].version != f.version {
			sum += plainBlocks(len(f.data))
		}
	}
	return sum
}

// plainFields are the fields that each kind has, by their first letters.
var plainFields = map[int64]string{1: "ND", 2: "N", 3: "NS", 4: "N", 5: "", 6: "", 7: "", 8: ""}

func (s *plainStore) code(c impl.Call) int64 {
	fields, known := plainFields[c.Kind]
	stray := c.Name != "" && !strings.Contains(fields, "N") || c.Data != "" && !strings.Contains(fields, "D") || c.Size != 0 && !strings.Contains(fields, "S")
	_, found := s.working[c.Name]
	size := len(c.Data)
	if c.Kind == 3 {
		size = int(c.Size)
	}
	switch {
	case !known || stray:
		return 20
	case c.Kind > 4:
		return 0
	case strings.Trim(c.Name, "abcdefghijklmnopqrstuvwxyz0123456789._-") != "" || len(c.Name) < 1 || len(c.Name) > 16:
		return 21
	case c.Kind != 1 && !found:
		return 22
	case c.Kind == 2 || c.Kind == 4:
		return 0
	case size < 0 || size > 1408:
		return 23
	case s.used()+plainBlocks(size) > s.limit:
		return 24
	}
	return 0
}

// answer makes a call; it knows nothing of Num and Stat.
func (s *plainStore) answer(c impl.Call) impl.Answer {
	if code := s.code(c); code != 0 {
		return impl.Answer{Code: code}
	}
	switch c.Kind {
	case 1:
		s.put(c.Name, c.Data)
	case 2:
		return impl.Answer{Data: s.working[c.Name].data}
	case 3:
		s.put(c.Name, (s.working[c.Name].data + strings.Repeat("\x00", 1408))[:c.Size])
	case 4:
		delete(s.working, c.Name)
	case 5:
		return impl.Answer{Names: slices.Sorted(maps.Keys(s.working))}
	case 6:
		s.durable = maps.Clone(s.working)
	}
	return impl.Answer{}
}

func plainList(version map[string]plainFile) []impl.File {
	files := []impl.File{}
	for _, name := range slices.Sorted(maps.Keys(version)) {
		files = append(files, impl.File{Name: name, Data: version[name].data})
	}
	return files
}

func sameAnswer(a, b impl.Answer) bool {
	return a.Code == b.Code && a.Data == b.Data && slices.Equal(a.Names, b.Names) && a.Num == b.Num && a.Stat == b.Stat
}

// withoutPlaces is an answer without what hangs on where the blocks lie.
func withoutPlaces(a impl.Answer) impl.Answer {
	a.Num, a.Stat = 0, impl.Stat{}
	return a
}

func drawnData(roll *dice, size int) string {
	b := make([]byte, size)
	for i := range b {
		b[i] = byte(roll.roll(256))
	}
	return string(b)
}

// drawnSize is mostly at or near the end of a block.
func drawnSize(roll *dice, blocks int) int {
	size := 64*roll.roll(blocks+1) + roll.roll(3) - 1
	if roll.roll(4) == 0 {
		size = roll.roll(64*blocks + 1)
	}
	return min(max(0, size), impl.MaxFile)
}

func drawnName(roll *dice, names int) string {
	return fmt.Sprint("f", roll.roll(names))
}

// drawnBadCall is refused for its form, its name or its size.
func drawnBadCall(roll *dice) impl.Call {
	bad := []impl.Call{
		{}, {Kind: 9}, {Kind: -1}, {Kind: 5, Name: "f0"}, {Kind: 6, Size: 1}, {Kind: 7, Data: "x"}, {Kind: 2, Name: "f0", Data: "x"}, {Kind: 1, Name: "f0", Size: 1}, {Kind: 3, Name: "f0", Data: "x"},
		callWrite("F", "x"), callRead(""), callDelete("a b"), callTruncate("abcdefghijklmnopq", 1), callRead("nobody"), callDelete("nobody"), callTruncate("nobody", 1),
		callWrite("f0", strings.Repeat("x", impl.MaxFile+1)), callTruncate("f0", impl.MaxFile+1), callTruncate("f0", -1),
	}
	return bad[roll.roll(len(bad))]
}

// drawnCall writes files of at most so many blocks of data.
func drawnCall(roll *dice, names, blocks int) impl.Call {
	switch n := roll.roll(40); {
	case n < 14:
		return callWrite(drawnName(roll, names), drawnData(roll, drawnSize(roll, blocks)))
	case n < 18:
		return callTruncate(drawnName(roll, names), int64(drawnSize(roll, blocks)))
	case n < 24:
		return callDelete(drawnName(roll, names))
	case n < 28:
		return callRead(drawnName(roll, names))
	case n < 30:
		return callList
	case n < 33:
		return callSync
	case n < 36:
		return callClean
	case n < 38:
		return callStat
	}
	return drawnBadCall(roll)
}

func drawnCalls(roll *dice, count, names, blocks int) []impl.Call {
	calls := []impl.Call{}
	for range count {
		calls = append(calls, drawnCall(roll, names, blocks))
	}
	return calls
}

// drawnGeometry is small, so that space runs short soon.
func drawnGeometry(roll *dice) impl.Geometry {
	return impl.Geometry{Segs: int64(4 + roll.roll(6)), SegBlocks: int64(2 + roll.roll(4))}
}

// drawnRun is a run that brings its store to its limits.
func drawnRun(roll *dice, g impl.Geometry, count int) []impl.Call {
	room := int((g.Segs - 2) * g.SegBlocks)
	return drawnCalls(roll, count, 2+roll.roll(room/2), 1+roll.roll(max(1, min(22, room/2))))
}
