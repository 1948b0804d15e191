package tests

import (
	"bytes"
	"fmt"
	"testing"

	"loop.example/s02881/impl"
)

func withPending(blocks, writes int) impl.Disk {
	d := stripedDisk(blocks)
	for i := range writes {
		d.Pending = append(d.Pending, impl.Write{Block: int64(i % blocks), Data: striped(i)})
	}
	return d
}

func badDisks() map[string]impl.Disk {
	return map[string]impl.Disk{
		"zero value":          {},
		"pending alone":       {Pending: []impl.Write{{Data: filled(1)}}},
		"one byte":            {Durable: make([]byte, 1)},
		"one byte short":      {Durable: make([]byte, impl.BlockSize-1)},
		"one byte over":       {Durable: make([]byte, impl.BlockSize+1)},
		"one block over":      {Durable: make([]byte, (impl.MaxBlocks+1)*impl.BlockSize)},
		"one byte over limit": {Durable: make([]byte, impl.MaxBlocks*impl.BlockSize+1)},
		"one write over":      withPending(2, impl.MaxPending+1),
		"block below":         {Durable: make([]byte, 128), Pending: []impl.Write{{Block: -1, Data: filled(1)}}},
		"block above":         {Durable: make([]byte, 128), Pending: []impl.Write{{Block: 2, Data: filled(1)}}},
		"block far above":     {Durable: make([]byte, 128), Pending: []impl.Write{{Block: 1 << 62, Data: filled(1)}}},
		"no data":             {Durable: make([]byte, 128), Pending: []impl.Write{{Block: 1}}},
		"short data":          {Durable: make([]byte, 128), Pending: []impl.Write{{Block: 1, Data: filled(1)[1:]}}},
		"long data":           {Durable: make([]byte, 128), Pending: []impl.Write{{Block: 1, Data: make([]byte, 65)}}},
		"bad second write":    {Durable: make([]byte, 128), Pending: []impl.Write{{Data: filled(1)}, {Block: 2, Data: filled(1)}}},
	}
}

func goodDisks() map[string]impl.Disk {
	return map[string]impl.Disk{
		"one block":   stripedDisk(1),
		"most blocks": stripedDisk(impl.MaxBlocks),
		"most writes": withPending(3, impl.MaxPending),
		"all limits":  withPending(impl.MaxBlocks, impl.MaxPending),
		"last block":  {Durable: make([]byte, 128), Pending: []impl.Write{{Block: 1, Data: filled(1)}}},
	}
}

func TestDiskConstants(t *testing.T) {
	if impl.BlockSize != 64 || impl.MaxBlocks != 1200 || impl.MaxPending != 400 {
		t.Error("the limits of chapter 1")
	}
}

func TestValidDisk(t *testing.T) {
	for what, d := range goodDisks() {
		if !impl.ValidDisk(d) {
			t.Errorf("%s: refused", what)
		}
	}
	for what, d := range badDisks() {
		if impl.ValidDisk(d) {
			t.Errorf("%s: accepted", what)
		}
	}
}

func TestBadDisksHaveZeroAnswers(t *testing.T) {
	for what, d := range badDisks() {
		if !zeroDisk(impl.DiskWrite(d, 0, filled(1))) {
			t.Errorf("%s: DiskWrite", what)
		}
		if len(impl.DiskRead(d, 0)) != 0 {
			t.Errorf("%s: DiskRead", what)
		}
		if !zeroDisk(impl.DiskBarrier(d)) {
			t.Errorf("%s: DiskBarrier", what)
		}
		if !zeroDisk(impl.DiskCrash(d, nil)) {
			t.Errorf("%s: DiskCrash", what)
		}
	}
}

func TestNewDisk(t *testing.T) {
	for _, blocks := range []int64{1, 2, impl.MaxBlocks - 1, impl.MaxBlocks} {
		d := impl.NewDisk(blocks)
		wantDisk(t, fmt.Sprint(blocks), d, impl.Disk{Durable: make([]byte, blocks*impl.BlockSize)})
		if !impl.ValidDisk(d) {
			t.Errorf("%d blocks: not valid", blocks)
		}
	}
	for _, blocks := range append([]int64{0, -1, impl.MaxBlocks + 1, 1 << 58}, farNumbers...) {
		if !zeroDisk(impl.NewDisk(blocks)) {
			t.Errorf("%d blocks: not the zero value", blocks)
		}
	}
}

func TestDiskWriteAppends(t *testing.T) {
	d := stripedDisk(3)
	want := copyDisk(d)
	for i, block := range []int64{1, 0, 1, 2, 1} {
		d = impl.DiskWrite(d, block, striped(i))
		want.Pending = append(want.Pending, impl.Write{Block: block, Data: striped(i)})
		wantDisk(t, fmt.Sprint("write ", i), d, want)
	}
}

func TestDiskWriteLimits(t *testing.T) {
	d := withPending(2, impl.MaxPending-1)
	full := impl.DiskWrite(d, 1, striped(9))
	if len(full.Pending) != impl.MaxPending || !impl.ValidDisk(full) {
		t.Fatal("the write number MaxPending is accepted")
	}
	if !zeroDisk(impl.DiskWrite(full, 1, striped(9))) {
		t.Error("the write number MaxPending + 1 is refused")
	}
	if len(impl.DiskRead(full, 1)) != impl.BlockSize || zeroDisk(impl.DiskBarrier(full)) {
		t.Error("a disk with MaxPending writes is read and made durable")
	}
}

func TestDiskWriteBadArguments(t *testing.T) {
	d := withPending(2, 3)
	for _, block := range append([]int64{-1, 2, 3}, farNumbers...) {
		if !zeroDisk(impl.DiskWrite(d, block, filled(1))) {
			t.Errorf("block %d", block)
		}
	}
	for _, length := range []int{0, 1, impl.BlockSize - 1, impl.BlockSize + 1, 2 * impl.BlockSize} {
		if !zeroDisk(impl.DiskWrite(d, 0, make([]byte, length))) {
			t.Errorf("%d bytes", length)
		}
	}
	if !zeroDisk(impl.DiskWrite(d, 0, nil)) {
		t.Error("no data")
	}
}

func TestDiskRead(t *testing.T) {
	d := stripedDisk(4)
	for block := range int64(4) {
		if !bytes.Equal(impl.DiskRead(d, block), striped(100+int(block))) {
			t.Errorf("durable block %d", block)
		}
	}
	for i, block := range []int64{2, 0, 2, 3, 2, 0} {
		d = impl.DiskWrite(d, block, striped(i))
	}
	want := map[int64][]byte{0: striped(5), 1: striped(101), 2: striped(4), 3: striped(3)}
	for block, data := range want {
		if !bytes.Equal(impl.DiskRead(d, block), data) {
			t.Errorf("block %d is not as its youngest write left it", block)
		}
	}
	for _, block := range append([]int64{-1, 4}, farNumbers...) {
		if len(impl.DiskRead(d, block)) != 0 {
			t.Errorf("block %d", block)
		}
	}
}

// crashByBytes goes by the words of chapter 1, a byte at a time.
func crashByBytes(d impl.Disk, choices []int64) impl.Disk {
	after := impl.Disk{Durable: bytes.Clone(d.Durable)}
	for i, w := range d.Pending {
		choice := int64(0)
		if i < len(choices) {
			choice = choices[i]
		}
		whole := choice < 0 || choice > impl.BlockSize-1
		for k := range int64(impl.BlockSize) {
			if whole || k < choice {
				after.Durable[w.Block*impl.BlockSize+k] = w.Data[k]
			}
		}
	}
	return after
}

func TestDiskBarrier(t *testing.T) {
	for what, d := range goodDisks() {
		whole := make([]int64, len(d.Pending))
		for i := range whole {
			whole[i] = -1
		}
		wantDisk(t, what, impl.DiskBarrier(d), crashByBytes(d, whole))
	}
}

func TestDiskCrashEveryChoice(t *testing.T) {
	d := stripedDisk(2)
	d = impl.DiskWrite(d, 1, striped(1))
	for choice := int64(-3); choice <= 70; choice++ {
		choices := []int64{choice}
		wantDisk(t, fmt.Sprint(choices), impl.DiskCrash(d, choices), crashByBytes(d, choices))
	}
	for _, choice := range farNumbers {
		if !bytes.Equal(impl.DiskCrash(d, []int64{choice}).Durable[64:], striped(1)) {
			t.Errorf("choice %d does not keep the whole write", choice)
		}
	}
}

// Three writes to one block and one to another, with every mix of choices that lose, tear and keep.
func TestDiskCrashManyWritesToOneBlock(t *testing.T) {
	d := stripedDisk(3)
	for i, block := range []int64{1, 1, 2, 1} {
		d = impl.DiskWrite(d, block, striped(i))
	}
	kinds := []int64{0, 1, 20, 40, 63, 64, -1, 1000}
	for i := range len(kinds) * len(kinds) * len(kinds) * len(kinds) {
		choices := []int64{kinds[i%8], kinds[i/8%8], kinds[i/64%8], kinds[i/512]}
		got := impl.DiskCrash(d, choices)
		wantDisk(t, fmt.Sprint(choices), got, crashByBytes(d, choices))
		if !bytes.Equal(got.Durable[:64], striped(100)) {
			t.Fatalf("%v: a block that was not written has changed", choices)
		}
	}
}

func TestDiskCrashFewerAndMoreChoices(t *testing.T) {
	d := withPending(2, 5)
	all := []int64{64, 3, -1, 9, 70, -1, 5, 64, 1}
	for n := range len(all) + 1 {
		wantDisk(t, fmt.Sprint(n, " choices"), impl.DiskCrash(d, all[:n]), crashByBytes(d, all[:min(n, 5)]))
	}
	wantDisk(t, "no choices lose all", impl.DiskCrash(d, nil), stripedDisk(2))
	wantDisk(t, "nothing pending", impl.DiskCrash(stripedDisk(2), all), stripedDisk(2))
}

func TestDiskCrashChoiceLimit(t *testing.T) {
	for _, writes := range []int{0, 1, impl.MaxPending} {
		d := withPending(2, writes)
		choices := make([]int64, impl.MaxPending+1)
		for i := range choices {
			choices[i] = int64(i%90) - 5
		}
		wantDisk(t, "MaxPending choices", impl.DiskCrash(d, choices[:impl.MaxPending]), crashByBytes(d, choices[:impl.MaxPending]))
		if !zeroDisk(impl.DiskCrash(d, choices)) {
			t.Errorf("%d writes, MaxPending + 1 choices: not the zero value", writes)
		}
	}
}

func rolledChoices(d *dice) []int64 {
	choices := make([]int64, d.roll(20))
	for i := range choices {
		choices[i] = int64(d.roll(80)) - 8
	}
	return choices
}

// What is durable is kept by the test itself: the disk is a plain list of blocks to it.
func TestDurableBlocksOutliveCrashes(t *testing.T) {
	const blocks = 6
	rolls := &dice{state: 1}
	d := impl.NewDisk(blocks)
	for round := range 400 {
		durable := [blocks][]byte{}
		for i := range rolls.roll(12) {
			d = impl.DiskWrite(d, int64(rolls.roll(blocks)), striped(round+i))
		}
		for b := range durable {
			durable[b] = impl.DiskRead(d, int64(b))
		}
		d = impl.DiskBarrier(d)
		written := [blocks]bool{}
		for i := range rolls.roll(12) {
			b := rolls.roll(blocks)
			written[b] = true
			d = impl.DiskWrite(d, int64(b), striped(1000+round+i))
		}
		choices := rolledChoices(rolls)
		want := crashByBytes(d, choices)
		d = impl.DiskCrash(d, choices)
		wantDisk(t, fmt.Sprint("round ", round), d, want)
		for b := range durable {
			if !written[b] && !bytes.Equal(impl.DiskRead(d, int64(b)), durable[b]) {
				t.Fatalf("round %d: block %d was durable and has changed", round, b)
			}
		}
	}
}

func TestDiskArgumentsStay(t *testing.T) {
	d := withPending(8, 7)
	data := striped(50)
	choices := []int64{64, 3, -1}
	before := copyDisk(d)
	answers := map[string]impl.Disk{
		"DiskWrite":   impl.DiskWrite(d, 2, data),
		"DiskBarrier": impl.DiskBarrier(d),
		"DiskCrash":   impl.DiskCrash(d, choices),
	}
	wantDisk(t, "the argument", d, before)
	for what, a := range answers {
		scribble(a)
		wantDisk(t, what+" shares memory with its disk", d, before)
	}
	for _, block := range []int64{0, 7} {
		scribbleBytes(impl.DiskRead(d, block))
		wantDisk(t, "DiskRead shares memory with its disk", d, before)
	}
	if !bytes.Equal(data, striped(50)) || choices[0] != 64 || choices[1] != 3 || choices[2] != -1 {
		t.Error("data or choices have changed")
	}
}

// Lists without room behind their end would hide what append writes, so the argument has some.
func TestDiskWriteLeavesSpareRoomAlone(t *testing.T) {
	d := stripedDisk(2)
	d.Pending = make([]impl.Write, 1, 4)
	d.Pending[0] = impl.Write{Block: 1, Data: striped(1)}
	a := impl.DiskWrite(d, 0, striped(2))
	b := impl.DiskWrite(d, 1, striped(3))
	if d.Pending[:2][1].Data != nil || !bytes.Equal(a.Pending[1].Data, striped(2)) || !bytes.Equal(b.Pending[1].Data, striped(3)) {
		t.Error("two answers share a list")
	}
}

func TestDiskAnswerListsAreApart(t *testing.T) {
	shared := striped(1)
	d := impl.Disk{Durable: stripedDisk(2).Durable}
	d.Pending = []impl.Write{{Block: 0, Data: shared}, {Block: 1, Data: shared}}
	a := impl.DiskWrite(d, 0, shared)
	for i := range a.Pending {
		want := copyDisk(a)
		scribbleBytes(a.Pending[i].Data)
		scribbleBytes(want.Pending[i].Data)
		wantDisk(t, fmt.Sprint("pending write ", i), a, want)
	}
	want := copyDisk(a)
	scribbleBytes(a.Durable)
	if sameDisk(a, want) || !bytes.Equal(a.Pending[0].Data, want.Pending[0].Data) {
		t.Error("durable bytes and pending writes share memory")
	}
}
