package tests

import (
	"bytes"
	"encoding/binary"
	"fmt"
	"slices"
	"strings"
	"testing"

	"loop.example/s02881/impl"
)

// The engine of chapter 5, told once more: it makes all calls and keeps the list of the operations that they need, so that a run with any limit is a piece of that list.

// bookOp is a write, or a barrier if it has no data; call is the number of the call that needs it.
type bookOp struct {
	call  int
	block int64
	data  []byte
}

// bookFile has its inode's lid behind those of its data.
type bookFile struct {
	name string
	size int
	lids []int64
}

// bookEngine leaves the codes and the names to a plain store; the data are those of its disk, which may have been changed from outside.
type bookEngine struct {
	g       impl.Geometry
	disk    impl.Disk
	plain   *plainStore
	working []bookFile
	durable []bookFile
	table   []impl.Entry
	seq     int64
	active  int64
	used    int64
	call    int
	ops     []bookOp
}

// newBookEngine takes disks that can be mounted.
func newBookEngine(d impl.Disk, g impl.Geometry) *bookEngine {
	m := mountByBook(d, g)
	b := &bookEngine{g: g, disk: copyDisk(d), plain: newPlainStore(g, m.Files), table: m.Table, seq: m.Seq, active: -1}
	for i, e := range b.table {
		if e.Inode {
			block := blockAt(d, e.Addr)
			f := bookFile{name: strings.Trim(string(block[:16]), "\x00"), size: int(binary.BigEndian.Uint16(block[16:]))}
			for at := 18; at < 18+2*((f.size+63)/64); at += 2 {
				f.lids = append(f.lids, int64(binary.BigEndian.Uint16(block[at:])))
			}
			f.lids = append(f.lids, int64(i)+1)
			b.working = append(b.working, f)
		}
	}
	b.durable = slices.Clone(b.working)
	return b
}

// on makes the operation on a disk.
func (o bookOp) on(d *impl.Disk) {
	if o.data != nil {
		d.Pending = append(d.Pending, impl.Write{Block: o.block, Data: o.data})
		return
	}
	for _, w := range d.Pending {
		copy(d.Durable[64*w.Block:], w.Data)
	}
	d.Pending = nil
}

func (b *bookEngine) operate(o bookOp) {
	b.ops = append(b.ops, o)
	o.on(&b.disk)
}

func (b *bookEngine) barrier() {
	b.operate(bookOp{call: b.call})
}

func (b *bookEngine) write(block int64, data []byte) {
	if len(b.disk.Pending) > 255 {
		b.barrier()
	}
	data = append(bytes.Clone(data), make([]byte, 64-len(data))...)
	b.operate(bookOp{call: b.call, block: block, data: data})
}

func (b *bookEngine) read(block int64) []byte {
	for _, w := range slices.Backward(b.disk.Pending) {
		if w.Block == block {
			return w.Data
		}
	}
	return blockAt(b.disk, block)
}

// dataOf takes names of working files only.
func (b *bookEngine) dataOf(name string) string {
	f := b.working[slices.IndexFunc(b.working, func(f bookFile) bool { return f.name == name })]
	data := ""
	for _, lid := range f.lids[:len(f.lids)-1] {
		data += string(b.read(b.table[lid-1].Addr))
	}
	return data[:f.size]
}

func (b *bookEngine) counts() []int64 {
	counts := make([]int64, b.g.Segs)
	for _, e := range b.table {
		if e.Addr > 0 {
			counts[(e.Addr-logOf(b.g))/b.g.SegBlocks]++
		}
	}
	return counts
}

func (b *bookEngine) live() int64 {
	sum := int64(0)
	for _, count := range b.counts() {
		sum += count
	}
	return sum
}

func (b *bookEngine) free() int64 {
	sum := int64(0)
	for s, count := range b.counts() {
		if int64(s) == b.active {
			sum += b.g.SegBlocks - b.used
		} else if count == 0 {
			sum += b.g.SegBlocks
		}
	}
	return sum
}

func (b *bookEngine) append(lid int64, data []byte, inode bool) {
	if b.active < 0 || b.used >= b.g.SegBlocks {
		b.active, b.used = freeByBook(b.counts(), b.active), 0
	}
	addr := logOf(b.g) + b.active*b.g.SegBlocks + b.used
	b.used++
	b.write(addr, data)
	b.table[lid-1] = impl.Entry{Addr: addr, Inode: inode}
}

func (b *bookEngine) tableOf(files []bookFile) []impl.Entry {
	table := make([]impl.Entry, len(b.table))
	for _, f := range files {
		for _, lid := range f.lids {
			table[lid-1] = b.table[lid-1]
		}
	}
	return table
}

func (b *bookEngine) checkpoint(files []bookFile) {
	b.seq++
	data := make([]byte, 64*tablesOf(b.g))
	for i, e := range b.tableOf(files) {
		number := uint16(e.Addr)
		if e.Inode {
			number |= inodeBit
		}
		binary.BigEndian.PutUint16(data[2*i:], number)
	}
	header := b.seq & 1 * (1 + tablesOf(b.g))
	for i := range tablesOf(b.g) {
		b.write(header+1+i, data[64*i:64*i+64])
	}
	b.barrier()
	b.write(header, headerByHand(impl.Header{Seq: b.seq, Segs: b.g.Segs, SegBlocks: b.g.SegBlocks}))
	b.barrier()
}

func (b *bookEngine) clean() int64 {
	victim := victimByBook(b.counts(), b.active, b.g.SegBlocks)
	if victim < 0 {
		return 0
	}
	moved := int64(0)
	for i := range b.g.SegBlocks {
		addr := logOf(b.g) + victim*b.g.SegBlocks + i
		for at, e := range b.table {
			if e.Addr == addr {
				b.append(int64(at)+1, b.read(addr), e.Inode)
				moved++
				break
			}
		}
	}
	b.checkpoint(b.durable)
	return moved
}

func (b *bookEngine) store(name, data string) {
	n := int64(plainBlocks(len(data)))
	for b.free() < n+b.g.SegBlocks {
		b.clean()
	}
	f := bookFile{name: name, size: len(data), lids: slices.Clone(lidsByBook(b.table, n))}
	for i, lid := range f.lids[:n-1] {
		b.append(lid, []byte(data[64*i:min(64*i+64, len(data))]), false)
	}
	inode := inodeByHand(impl.Inode{Name: name, Size: int64(len(data)), Lids: f.lids[:n-1]})
	b.append(f.lids[n-1], inode, true)
	b.remove(name, f)
}

// remove puts files, or none, in the place of one; what belongs to no file any more leaves the table.
func (b *bookEngine) remove(name string, instead ...bookFile) {
	others := slices.DeleteFunc(slices.Clone(b.working), func(f bookFile) bool { return f.name == name })
	b.working = append(others, instead...)
	b.table = b.tableOf(slices.Concat(b.working, b.durable))
}

func (b *bookEngine) stat() impl.Stat {
	return impl.Stat{Files: int64(len(b.working)), Live: b.live(), Free: b.free(), Active: b.active, Seq: b.seq}
}

// answer adds what hangs on the disk to the answer of the plain store.
func (b *bookEngine) answer(c impl.Call) impl.Answer {
	a := b.plain.answer(c)
	if a.Code != 0 {
		return a
	}
	switch c.Kind {
	case 1:
		b.store(c.Name, c.Data)
	case 2:
		a.Data = b.dataOf(c.Name)
	case 3:
		b.store(c.Name, (b.dataOf(c.Name) + strings.Repeat("\x00", 1408))[:c.Size])
	case 4:
		b.remove(c.Name)
	case 6:
		b.checkpoint(b.working)
		b.durable = slices.Clone(b.working)
		b.table = b.tableOf(b.working)
	case 7:
		a.Num = b.clean()
	case 8:
		a.Stat = b.stat()
	}
	return a
}

// bookRun is everything that a run without a limit does.
type bookRun struct {
	start   impl.Disk
	answers []impl.Answer
	ops     []bookOp
}

func runByBook(d impl.Disk, g impl.Geometry, calls []impl.Call) bookRun {
	b := newBookEngine(d, g)
	r := bookRun{start: d}
	for i, c := range calls {
		b.call = i
		r.answers = append(r.answers, b.answer(c))
	}
	r.ops = b.ops
	return r
}

// at is the run with a limit.
func (r bookRun) at(limit int64) impl.RunResult {
	if limit < 0 || limit >= int64(len(r.ops)) {
		return impl.RunResult{Answers: r.answers, Ops: int64(len(r.ops)), Disk: diskAfter(r.start, r.ops)}
	}
	return impl.RunResult{Stopped: true, Answers: r.answers[:r.ops[limit].call], Ops: limit, Disk: diskAfter(r.start, r.ops[:limit])}
}

func diskAfter(d impl.Disk, ops []bookOp) impl.Disk {
	d = copyDisk(d)
	for _, o := range ops {
		o.on(&d)
	}
	return d
}

func differs(got, want impl.RunResult) string {
	switch {
	case got.Code != want.Code:
		return fmt.Sprintf("Code %d, want %d", got.Code, want.Code)
	case got.Stopped != want.Stopped || got.Ops != want.Ops:
		return fmt.Sprintf("Stopped %v after %d operations, want %v after %d", got.Stopped, got.Ops, want.Stopped, want.Ops)
	case len(got.Answers) != len(want.Answers):
		return fmt.Sprintf("%d answers, want %d", len(got.Answers), len(want.Answers))
	case !sameDisk(got.Disk, want.Disk):
		return "another disk"
	}
	for i := range want.Answers {
		if !sameAnswer(got.Answers[i], want.Answers[i]) {
			return fmt.Sprintf("answer %d: %+v, want %+v", i, got.Answers[i], want.Answers[i])
		}
	}
	return ""
}

func wantRun(t *testing.T, what string, d impl.Disk, g impl.Geometry, calls []impl.Call, limit int64, want impl.RunResult) impl.RunResult {
	t.Helper()
	disk, asked := copyDisk(d), slices.Clone(calls)
	got := impl.Run(d, g, calls, limit)
	if text := differs(got, want); text != "" {
		t.Fatalf("%s, limit %d: %s", what, limit, text)
	}
	if !sameDisk(d, disk) || !slices.Equal(calls, asked) {
		t.Fatalf("%s, limit %d: an argument was changed", what, limit)
	}
	return got
}
