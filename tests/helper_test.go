package tests

import (
	"bytes"
	"math"
	"testing"

	"loop.example/s02881/impl"
)

// farNumbers lie beyond every limit of the document.
var farNumbers = []int64{math.MinInt64, math.MinInt64 + 1, -1 << 41, 1 << 41, 1<<41 + 1, math.MaxInt64 - 1, math.MaxInt64}

func filled(b byte) []byte {
	return bytes.Repeat([]byte{b}, impl.BlockSize)
}

// striped differs from byte to byte, so that a shift or a wrong cut shows.
func striped(seed int) []byte {
	b := make([]byte, impl.BlockSize)
	for i := range b {
		b[i] = byte(seed*71 + i*3 + 1)
	}
	return b
}

func stripedDisk(blocks int) impl.Disk {
	d := impl.Disk{}
	for i := range blocks {
		d.Durable = append(d.Durable, striped(100+i)...)
	}
	return d
}

func copyDisk(d impl.Disk) impl.Disk {
	c := impl.Disk{Durable: bytes.Clone(d.Durable)}
	for _, w := range d.Pending {
		c.Pending = append(c.Pending, impl.Write{Block: w.Block, Data: bytes.Clone(w.Data)})
	}
	return c
}

func sameDisk(a, b impl.Disk) bool {
	if !bytes.Equal(a.Durable, b.Durable) || len(a.Pending) != len(b.Pending) {
		return false
	}
	for i, w := range a.Pending {
		if w.Block != b.Pending[i].Block || !bytes.Equal(w.Data, b.Pending[i].Data) {
			return false
		}
	}
	return true
}

func zeroDisk(d impl.Disk) bool {
	return sameDisk(d, impl.Disk{})
}

func wantDisk(t *testing.T, what string, got, want impl.Disk) {
	t.Helper()
	if !sameDisk(got, want) {
		t.Errorf("%s:\n got %v\nwant %v", what, got, want)
	}
}

// scribble writes into all memory that an answer holds, up to its capacity.
func scribble(d impl.Disk) {
	scribbleBytes(d.Durable)
	for _, w := range d.Pending {
		scribbleBytes(w.Data)
	}
	for i := range d.Pending[:cap(d.Pending)] {
		d.Pending[:cap(d.Pending)][i] = impl.Write{Block: -9}
	}
}

func scribbleBytes(b []byte) {
	for i := range b[:cap(b)] {
		b[:cap(b)][i] ^= 255
	}
}

// dice is a small generator with a fixed start, so that every run of the tests is the same.
type dice struct {
	state uint64
}

func (d *dice) roll(n int) int {
	d.state = d.state*6364136223846793005 + 1442695040888963407
	return int(d.state>>33) % n
}
