package impl

import "strings"

const MaxName = 16
const MaxLids = 22
const MaxFile = 1408
const MaxAddr = 32767
const MaxSeq = 1099511627776

const maxLid = 65535
const maxEntries = 1024
const maxHeaderPart = 65535

// inodeMark is added to the address of an entry whose block is an inode.
const inodeMark = 32768

// The widths of the numbers, in bytes.
const sizeWidth = 2
const lidWidth = 2
const entryWidth = 2
const seqWidth = 8
const headerPartWidth = 2
const headerGap = BlockSize - 2*seqWidth - 2*headerPartWidth

type Inode struct {
	Name string
	Size int64
	Lids []int64
}

type InodeResult struct {
	Good  bool
	Inode Inode
}

type Entry struct {
	Addr  int64
	Inode bool
}

type TableResult struct {
	Good  bool
	Table []Entry
}

type Header struct {
	Seq       int64
	Segs      int64
	SegBlocks int64
}

type HeaderResult struct {
	Good   bool
	Header Header
}

// number is a value that takes width bytes; a gap of zeros is a wide number 0.
type number struct {
	width int
	value int64
}

// put is the one encoder: each number big-endian, one behind the other.
func put(numbers ...number) []byte {
	out := []byte{}
	for _, n := range numbers {
		for i := n.width - 1; i >= 0; i-- {
			out = append(out, byte(n.value>>(8*i)))
		}
	}
	return out
}

// putBlock leaves zeros behind the numbers.
func putBlock(numbers ...number) blockBytes {
	var b blockBytes
	copy(b[:], put(numbers...))
	return b
}

// outOfBytes is what a byteReader panics with, and nothing else does.
type outOfBytes struct{}

type byteReader struct {
	rest []byte
}

func (r *byteReader) take(width int) []byte {
	if len(r.rest) < width {
		panic(outOfBytes{})
	}
	taken := r.rest[:width]
	r.rest = r.rest[width:]
	return taken
}

func (r *byteReader) number(width int) int64 {
	n := int64(0)
	for _, b := range r.take(width) {
		n = n<<8 | int64(b)
	}
	return n
}

// caught tells whether a recovered value is a panic of the kind T; any other is a fault of the program and goes on.
func caught[T any](fault any) bool {
	if fault == nil {
		return false
	}
	if _, ok := fault.(T); !ok {
		panic(fault)
	}
	return true
}

// isBlock holds the argument against the value's own encoding, so that no stray byte passes.
func isBlock(data []byte, encoded blockBytes) bool {
	return len(data) == BlockSize && blockBytes(data) == encoded
}

func dataBlocks(size int64) int64 {
	return (size + BlockSize - 1) / BlockSize
}

func validNameByte(b byte) bool {
	return b >= 'a' && b <= 'z' || b >= '0' && b <= '9' || b == '.' || b == '_' || b == '-'
}

func ValidName(name string) bool {
	if len(name) < 1 || len(name) > MaxName {
		return false
	}
	for _, b := range []byte(name) {
		if !validNameByte(b) {
			return false
		}
	}
	return true
}

func validInode(n Inode) bool {
	if !ValidName(n.Name) || n.Size < 0 || n.Size > MaxFile || int64(len(n.Lids)) != dataBlocks(n.Size) {
		return false
	}
	for _, lid := range n.Lids {
		if lid < 1 || lid > maxLid {
			return false
		}
	}
	return true
}

// inodeBlock takes valid inodes only.
func inodeBlock(n Inode) blockBytes {
	numbers := []number{}
	for _, b := range []byte(n.Name) {
		numbers = append(numbers, number{1, int64(b)})
	}
	numbers = append(numbers, number{MaxName - len(n.Name), 0}, number{sizeWidth, n.Size})
	for _, lid := range n.Lids {
		numbers = append(numbers, number{lidWidth, lid})
	}
	return putBlock(numbers...)
}

func readInode(r *byteReader) Inode {
	name := strings.TrimRight(string(r.take(MaxName)), "\x00")
	n := Inode{Name: name, Size: r.number(sizeWidth)}
	for range dataBlocks(n.Size) {
		n.Lids = append(n.Lids, r.number(lidWidth))
	}
	return n
}

func EncodeInode(n Inode) []byte {
	if !validInode(n) {
		return []byte{}
	}
	b := inodeBlock(n)
	return b[:]
}

func DecodeInode(block []byte) (result InodeResult) {
	defer func() {
		if caught[outOfBytes](recover()) {
			result = InodeResult{}
		}
	}()
	n := readInode(&byteReader{rest: block})
	if !validInode(n) || !isBlock(block, inodeBlock(n)) {
		return InodeResult{}
	}
	return InodeResult{Good: true, Inode: n}
}

func validEntry(e Entry) bool {
	return e.Addr >= 0 && e.Addr <= MaxAddr && (e.Addr != 0 || !e.Inode)
}

func entryNumber(e Entry) number {
	if e.Inode {
		return number{entryWidth, e.Addr + inodeMark}
	}
	return number{entryWidth, e.Addr}
}

func readEntry(r *byteReader) Entry {
	n := r.number(entryWidth)
	return Entry{Addr: n % inodeMark, Inode: n >= inodeMark}
}

func EncodeTable(t []Entry) []byte {
	if len(t) > maxEntries {
		return []byte{}
	}
	numbers := make([]number, 0, len(t))
	for _, e := range t {
		if !validEntry(e) {
			return []byte{}
		}
		numbers = append(numbers, entryNumber(e))
	}
	return put(numbers...)
}

func DecodeTable(data []byte) (result TableResult) {
	defer func() {
		if caught[outOfBytes](recover()) {
			result = TableResult{}
		}
	}()
	if len(data) > maxEntries*entryWidth {
		return TableResult{}
	}
	table := []Entry{}
	r := &byteReader{rest: data}
	for len(r.rest) > 0 {
		e := readEntry(r)
		if !validEntry(e) {
			return TableResult{}
		}
		table = append(table, e)
	}
	return TableResult{Good: true, Table: table}
}

func validHeader(h Header) bool {
	return h.Seq >= 1 && h.Seq <= MaxSeq && validHeaderPart(h.Segs) && validHeaderPart(h.SegBlocks)
}

func validHeaderPart(n int64) bool {
	return n >= 0 && n <= maxHeaderPart
}

// headerBlock takes valid headers only. Seq stands at both ends, so that a torn write shows.
func headerBlock(h Header) blockBytes {
	return putBlock(
		number{seqWidth, h.Seq},
		number{headerPartWidth, h.Segs},
		number{headerPartWidth, h.SegBlocks},
		number{headerGap, 0},
		number{seqWidth, h.Seq},
	)
}

func readHeader(r *byteReader) Header {
	seq := r.number(seqWidth)
	segs := r.number(headerPartWidth)
	segBlocks := r.number(headerPartWidth)
	return Header{Seq: seq, Segs: segs, SegBlocks: segBlocks}
}

func EncodeHeader(h Header) []byte {
	if !validHeader(h) {
		return []byte{}
	}
	b := headerBlock(h)
	return b[:]
}

func DecodeHeader(block []byte) (result HeaderResult) {
	defer func() {
		if caught[outOfBytes](recover()) {
			result = HeaderResult{}
		}
	}()
	h := readHeader(&byteReader{rest: block})
	if !validHeader(h) || !isBlock(block, headerBlock(h)) {
		return HeaderResult{}
	}
	return HeaderResult{Good: true, Header: h}
}
