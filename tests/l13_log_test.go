package tests

import (
	"fmt"
	"math"
	"slices"
	"strings"
	"testing"

	"loop.example/g00285/impl"
)

var (
	_ func(impl.Log) int                                    = impl.FreeBlocks
	_ func(impl.Log, int) int                               = impl.OpenBlock
	_ func(impl.Log, int, []byte, int) (impl.Log, int, int) = impl.Write
	_ func(impl.Log, int, int) (impl.Rec, bool)             = impl.ReadAt
	_ func(impl.Log) bool                                   = impl.LogOk
	_ struct {
		D   impl.Dev
		Seq int
	} = impl.Log{}
)

// refusedWrite asks for this code, and for the log as it was beside it.
func refusedWrite(t *testing.T, l impl.Log, a askedWrite, want int) {
	t.Helper()
	e, addr, code := checkWrite(t, l, a)
	if code != want || addr != -1 || !sameLog(e, l) {
		t.Errorf("%s: %d and the code %d, not %d, and %s, of %s", a, addr, code, want, toldLog(e), toldLog(l))
	}
}

// wroteAt asks for this address, and answers the log behind.
func wroteAt(t *testing.T, l impl.Log, a askedWrite, want int) impl.Log {
	t.Helper()
	e, addr, code := checkWrite(t, l, a)
	if code != impl.FsGood || addr != want || e.Seq != l.Seq+1 {
		t.Errorf("%s: %d and the code %d, not %d, of %s", a, addr, code, want, toldLog(l))
	}
	return e
}

// failedWrite asks for this code, and for so many operations that were begun.
func failedWrite(t *testing.T, l impl.Log, a askedWrite, want, begun int) impl.Log {
	t.Helper()
	e, addr, code := checkWrite(t, l, a)
	if code != want || addr != -1 || e.D.Ops != l.D.Ops+begun {
		t.Errorf("%s: %d and the code %d, not %d, and %d operations, of %s", a, addr, code, want, e.D.Ops, toldLog(l))
	}
	return e
}

// record is a page's text that is a record of this number.
func record(kind, seq int) string { return recForm(rec(kind, seq, fmt.Sprint("body ", seq))) }

// records are n of them, from this number on.
func records(seq, n int) []string {
	l := []string{}
	for i := range n {
		l = append(l, record(1+i%4, seq+i))
	}
	return l
}

// recsOf is how many pages of a log have a record of this number.
func recsOf(l impl.Log, seq int) int {
	n := 0
	for _, r := range recordsByWords(l) {
		if r.Seq == seq {
			n++
		}
	}
	return n
}

func TestAKnownRunOfALog(t *testing.T) {
	faults := []impl.Fault{torn(2, 3), bad(4), torn(5, 400), bad(6), bad(7), bad(8)}
	l := newLog(4, faults...)
	do := func(a askedWrite, wantAddr, wantCode, seq, ops int, down bool, blocks ...impl.Block) {
		t.Helper()
		want := impl.Log{D: impl.Dev{C: chip(blocks...), Ops: ops, Faults: faults, Down: down}, Seq: seq}
		e, addr, code := a.of(l)
		if addr != wantAddr || code != wantCode || toldLog(e) != toldLog(want) {
			t.Errorf("%s: %d and the code %d, not %d and %d, and %s, not %s", a, addr, code, wantAddr, wantCode, toldLog(e), toldLog(want))
		}
		if !impl.LogOk(e) {
			t.Errorf("%s: no log any more", a)
		}
		l = e
	}
	none := block(0, false)
	zero, one := "\x01\x00\x00\xc5\x25\x31\x04", "\x04\x01\x01\x05\xb0\x57\x64\x21"
	do(askedWrite{impl.RecNode, "", 1}, 0, impl.FsGood, 1, 1, false, block(0, false, zero), none, none, none)
	do(askedWrite{impl.RecRoot, "\x05", 1}, 1, impl.FsGood, 2, 2, false, block(0, false, zero, one), none, none, none)
	do(askedWrite{5, "", 1}, -1, impl.FsForm, 2, 2, false, block(0, false, zero, one), none, none, none)
	do(askedWrite{impl.RecMap, "map", 1}, -1, impl.FsDown, 3, 3, true, block(0, false, zero, one, "\x02\x02\x03"), none, none, none)
	do(askedWrite{impl.RecMap, "map", 1}, -1, impl.FsDown, 3, 3, true, block(0, false, zero, one, "\x02\x02\x03"), none, none, none)
	l.D = impl.PowerUp(l.D)
	three := withItsSum("\x02\x03\x03map")
	do(askedWrite{impl.RecMap, "map", 1}, 3, impl.FsGood, 4, 4, false, block(0, false, zero, one, "\x02\x02\x03", three), none, none, none)
	first := block(0, true, zero, one, "\x02\x02\x03", three)
	// The block 0 turns bad; in the midst of the next try the power goes, with all of it kept.
	four := withItsSum("\x03\x04\x02ab")
	do(askedWrite{impl.RecTable, "ab", 1}, -1, impl.FsDown, 5, 6, true, first, block(0, false, four), none, none)
	l.D = impl.PowerUp(l.D)
	// The blocks 1 and 2 turn bad, and the one that is left is spared.
	do(askedWrite{impl.RecTable, "cd", 1}, -1, impl.FsSpace, 5, 8, false, first, block(0, true, four), block(0, true), none)
	do(askedWrite{impl.RecTable, "cd", 1}, -1, impl.FsSpace, 5, 8, false, first, block(0, true, four), block(0, true), none)
	do(askedWrite{impl.RecTable, "cd", 0}, -1, impl.FsSpace, 5, 9, false, first, block(0, true, four), block(0, true), block(0, true))
	checkReadAll(t, l, map[int]impl.Rec{0: rec(1, 0, ""), 1: rec(4, 1, "\x05"), 3: rec(2, 3, "map"), 8: rec(3, 4, "ab")})
}

func TestTheZeroLog(t *testing.T) {
	l := impl.Log{}
	if impl.FreeBlocks(l) != 0 || impl.OpenBlock(l, 0) != -1 || impl.OpenBlock(l, -1) != -1 || impl.LogOk(l) {
		t.Error("of no blocks", impl.FreeBlocks(l), "are free, and open is", impl.OpenBlock(l, 0))
	}
	refusedWrite(t, l, askedWrite{1, "a", 0}, impl.FsForm)
	checkReadAll(t, l, nil)
}

// TestABlockThatTurnsBad: whatever it has, the record is there once, elsewhere, and its number is given once.
func TestABlockThatTurnsBad(t *testing.T) {
	for n := range 8 {
		for place := range 4 {
			c := chip(block(0, false, records(90, 8)...), block(0, false, records(90, 8)...), block(0, false), block(0, false))
			c.Blocks[place] = block(0, false, records(50, n)...)
			for keep := range 3 {
				l := logOf(dev(c, 6, impl.Fault{At: 6, Kind: impl.FaBad, Keep: 200 * keep}), 100)
				blk := openByWords(l, 0)
				if n > 0 && blk != place {
					t.Fatalf("%d pages: open is %d, not %d", n, blk, place)
				}
				was, a := recordsByWords(l), askedWrite{2, "again", 0}
				e, addr, code := checkWrite(t, l, a)
				if code != impl.FsGood || addr/8 == blk || !e.D.C.Blocks[blk].Bad || e.D.Ops != 8 || e.Seq != 101 || recsOf(e, 100) != 1 {
					t.Errorf("%d pages at %d: %d and the code %d, and %s", n, place, addr, code, toldLog(e))
				}
				for other, b := range e.D.C.Blocks {
					if b.Bad != (other == blk) || other == blk && len(textsOfPages(b)) != len(textsOfPages(c.Blocks[blk])) {
						t.Errorf("%d pages at %d: the block %d is %s", n, place, other, toldBlock(b))
					}
				}
				was[addr] = rec(2, 100, "again")
				checkReadAll(t, e, was)
				wroteAt(t, e, a, addr+1)
			}
		}
	}
}

// TestSeveralBlocksThatTurnBad: one behind the other, until there is no open one.
func TestSeveralBlocksThatTurnBad(t *testing.T) {
	for n := 3; n <= 24; n++ {
		for turned := range min(n, 20) + 1 {
			for _, spare := range []int{0, 1, n - 1} {
				faults := []impl.Fault{}
				for at := range turned {
					faults = append(faults, bad(at))
				}
				l, a := newLog(n, faults...), askedWrite{3, "many tries", spare}
				if turned < n-spare {
					e := wroteAt(t, l, a, 8*turned)
					if e.D.Ops != turned+1 || recsOf(e, 0) != 1 || impl.FreeBlocks(e) != n-turned-1 {
						t.Errorf("%d of %d turned bad: %s", turned, n, toldLog(e))
					}
					continue
				}
				e := failedWrite(t, l, a, impl.FsSpace, n-spare)
				if e.Seq != 0 || recsOf(e, 0) != 0 || impl.FreeBlocks(e) != spare || impl.OpenBlock(e, spare) != -1 {
					t.Errorf("all but %d of %d turned bad: %s", spare, n, toldLog(e))
				}
				refusedWrite(t, e, a, impl.FsSpace)
			}
		}
	}
}

// TestABegunBlockIsTriedAheadOfFreeOnes: where one turned bad, the next that is begun comes, however many are free.
func TestABegunBlockIsTriedAheadOfFreeOnes(t *testing.T) {
	c := chip(block(0, false), block(0, false, records(0, 7)...), block(0, false), block(0, true, records(10, 3)...), block(0, false, records(20, 2)...))
	l := logOf(dev(c, 0, bad(0), bad(1), bad(2)), 50)
	for spare, want := range map[int]int{-1: 16, 0: 16, 1: -1, 2: -1, 9: -1} {
		e, addr, code := checkWrite(t, l, askedWrite{1, "x", spare})
		if want >= 0 && (addr != want || code != impl.FsGood || e.D.Ops != 4) || want < 0 && code != impl.FsSpace {
			t.Errorf("spare %d: %d and the code %d, and %s", spare, addr, code, toldLog(e))
		}
		for blk, turned := range []bool{spare < 2, true, false, true, true} {
			if e.D.C.Blocks[blk].Bad != turned {
				t.Errorf("spare %d: the block %d is bad: %v", spare, blk, !turned)
			}
		}
	}
}

// TestPowerThatGoesAtEachKeep: FsDown, and Seq is one more, whether the page has a record or not.
func TestPowerThatGoesAtEachKeep(t *testing.T) {
	for _, n := range []int{0, 1, 100, 380} {
		for keep := 0; keep <= impl.PageMax; keep++ {
			c := chip(block(0, false, records(0, keep%8)...), block(0, false), block(0, false))
			l, a := logOf(dev(c, 0, torn(0, keep)), 20), askedWrite{1 + keep%4, strings.Repeat("k", n), 0}
			e := failedWrite(t, l, a, impl.FsDown, 1)
			whole := keep >= len(recForm(a.recOf(l)))
			r, ok := impl.ReadAt(e, keep%8, a.kind)
			if !e.D.Down || e.Seq != 21 || !impl.LogOk(e) || ok != whole || ok && !sameRec(r, a.recOf(l)) || recsOf(e, 20) != map[bool]int{true: 1}[whole] {
				t.Errorf("%d bytes, %d kept: is read %s, %v, of %s", n, keep, toldRec(r), ok, toldLog(e))
			}
			refusedWrite(t, e, a, impl.FsDown)
			// The number of what was torn is not given once more, and its page is not written again.
			e = wroteAt(t, poweredUp(e), a, keep%8+1)
			if r, ok := impl.ReadAt(e, keep%8+1, a.kind); !ok || r.Seq != 21 || !impl.LogOk(e) {
				t.Errorf("%d bytes, %d kept: behind it is read %s, %v", n, keep, toldRec(r), ok)
			}
		}
	}
}

// TestPowerThatGoesBehindBadBlocks: in the midst of each try.
func TestPowerThatGoesBehindBadBlocks(t *testing.T) {
	for tries := range 6 {
		for _, keep := range []int{0, 5, 400} {
			faults := []impl.Fault{}
			for at := range tries {
				faults = append(faults, bad(at))
			}
			l := newLog(6, append(faults, torn(tries, keep))...)
			e := failedWrite(t, l, askedWrite{4, "root", 0}, impl.FsDown, tries+1)
			if e.Seq != 1 || !e.D.Down || recsOf(e, 0) != map[bool]int{true: 1}[keep == 400] || impl.FreeBlocks(e) != 5-tries || impl.NextPage(e.D.C, tries) != 1 {
				t.Errorf("%d turned bad, %d kept: %s", tries, keep, toldLog(e))
			}
		}
	}
}

func TestALogThatIsOff(t *testing.T) {
	for i, c := range rightChips() {
		for _, faults := range [][]impl.Fault{nil, {bad(i)}, {torn(i, 400)}} {
			l := logOf(off(dev(c, i, faults...)), 5)
			for _, spare := range []int{-1, 0, 1, 24, math.MaxInt} {
				refusedWrite(t, l, askedWrite{1, "x", spare}, impl.FsDown)
			}
			checkAskedLog(t, l)
		}
	}
	refusedWrite(t, logOf(off(dev(impl.ChipNew(3), 100000)), 5), askedWrite{1, "x", 0}, impl.FsDown)
	l := wroteAt(t, newLog(3), askedWrite{1, "x", 0}, 0)
	if r, ok := impl.ReadAt(logOf(off(l.D), 1), 0, 1); !ok || !sameRec(r, rec(1, 0, "x")) || !impl.LogOk(logOf(off(l.D), 1)) {
		t.Error("of what is off is read", toldRec(r), ok)
	}
}

func TestTheLastOperationsOfALog(t *testing.T) {
	a, full := askedWrite{2, "last", 0}, records(0, 8)
	at := func(ops int, l ...impl.Fault) impl.Log { return logOf(dev(impl.ChipNew(3), ops, l...), 40) }
	l := wroteAt(t, at(99999), a, 0)
	if l.D.Ops != 100000 || l.D.Down {
		t.Errorf("behind the last operation: %s", toldLog(l))
	}
	// No operation is begun: nothing is written, the power is on, and the number is still to be given.
	refusedWrite(t, l, a, impl.FsDown)
	refusedWrite(t, poweredUp(l), a, impl.FsDown)
	refusedWrite(t, at(100000), a, impl.FsDown)
	refusedWrite(t, at(100000, bad(100000)), a, impl.FsDown)
	refusedWrite(t, at(100000, torn(100000, 400)), a, impl.FsDown)
	// In the midst of the last one the power goes.
	e := failedWrite(t, at(99999, torn(99999, 400)), a, impl.FsDown, 1)
	if e.Seq != 41 || !e.D.Down || recsOf(e, 40) != 1 {
		t.Errorf("torn in the last operation: %s", toldLog(e))
	}
	// The last one turns a block bad, and there is no other operation to try again.
	e = failedWrite(t, at(99999, bad(99999)), a, impl.FsDown, 1)
	if e.Seq != 40 || e.D.Down || recsOf(e, 40) != 0 || !e.D.C.Blocks[0].Bad {
		t.Errorf("bad in the last operation: %s", toldLog(e))
	}
	e = wroteAt(t, at(99998, bad(99998)), a, 8)
	if e.D.Ops != 100000 {
		t.Errorf("bad in the last operation but one: %s", toldLog(e))
	}
	// And where there is no other block, either, that counts first.
	c := chip(block(0, false, full...), block(0, false, full[:3]...), block(0, true))
	e = failedWrite(t, logOf(dev(c, 99999, bad(99999)), 40), a, impl.FsSpace, 1)
	if e.Seq != 40 || !e.D.C.Blocks[1].Bad {
		t.Errorf("bad in the last operation, and nothing else: %s", toldLog(e))
	}
	c.Blocks[1] = block(0, false, full...)
	refusedWrite(t, logOf(dev(c, 100000), 40), a, impl.FsSpace)
	refusedWrite(t, logOf(dev(c, 99999), 40), a, impl.FsSpace)
}

// TestSparesOfALog: free blocks are open only if there are more than spare of them; one that is begun is, whatever spare is.
func TestSparesOfALog(t *testing.T) {
	for n := 3; n <= 24; n++ {
		for free := range n + 1 {
			c := impl.ChipNew(n)
			for blk := range n - free {
				c.Blocks[blk*29%n] = block(1, blk%2 == 0, slices.Repeat([]string{"p"}, 8*(blk%2))...)
				if blk%2 == 1 {
					c.Blocks[blk*29%n].Pages[7].B = nil
				}
			}
			l := logOf(dev(c, 0), 3)
			all := freeByWords(l)
			for _, k := range []struct {
				spare int
				open  bool
			}{{free - 1, true}, {free, false}, {free + 1, false}, {0, free > 0}, {-1, true}, {-2, true}, {math.MinInt, true}, {math.MaxInt, false}, {1 << 32, false}, {-1 << 32, true}} {
				want := -1
				if k.open && len(all) > 0 {
					want = all[0]
				}
				if got := impl.OpenBlock(l, k.spare); got != want {
					t.Errorf("%d of %d are free, spare %d: open is %d, not %d", len(all), n, k.spare, got, want)
				}
				if want < 0 {
					refusedWrite(t, l, askedWrite{1, "s", k.spare}, impl.FsSpace)
				} else {
					wroteAt(t, l, askedWrite{1, "s", k.spare}, 8*want)
				}
			}
			if len(all) == 0 {
				continue
			}
			last := all[len(all)-1]
			c.Blocks[last] = block(0, false, "begun")
			for _, spare := range []int{math.MinInt, -1, 0, free - 2, free - 1, free, free + 1, math.MaxInt} {
				if got := impl.OpenBlock(l, spare); got != last {
					t.Errorf("the block %d is begun, spare %d: open is %d", last, spare, got)
				}
				wroteAt(t, l, askedWrite{1, "s", spare}, 8*last+1)
			}
		}
	}
}

// TestBlocksOfEachFill: of which no page, one, seven and all eight are written, bad or not, at each place.
func TestBlocksOfEachFill(t *testing.T) {
	full := block(0, false, records(0, 8)...)
	for written := range 9 {
		for place := range 3 {
			for _, isBad := range []bool{false, true} {
				c := chip(full, full, full)
				c.Blocks[place] = block(0, isBad, records(8, written)...)
				l, free, open := logOf(dev(c, 0), 50), 0, -1
				if written == 0 && !isBad {
					free = 1
				}
				if written < 8 && !isBad {
					open = place
				}
				if impl.FreeBlocks(l) != free || impl.OpenBlock(l, 0) != open {
					t.Errorf("%d pages at %d, bad: %v: %d are free, and open is %d", written, place, isBad, impl.FreeBlocks(l), impl.OpenBlock(l, 0))
				}
				if open < 0 {
					refusedWrite(t, l, askedWrite{1, "x", 0}, impl.FsSpace)
				} else {
					wroteAt(t, l, askedWrite{1, "x", 0}, 8*place+written)
				}
				checkReadAll(t, l, recordsByWords(l))
			}
		}
	}
}

// TestBlocksOfEachFillBesideEachOther: three blocks, each of them free, begun, full, and bad.
func TestBlocksOfEachFillBesideEachOther(t *testing.T) {
	kinds := []impl.Block{}
	for _, n := range []int{0, 1, 7, 8} {
		kinds = append(kinds, block(0, false, records(0, n)...), block(0, true, records(0, n)...))
	}
	for one := range kinds {
		for two := range kinds {
			for three := range kinds {
				l := logOf(dev(chip(kinds[one], kinds[two], kinds[three]), 0, bad(1)), 8)
				checkAskedLog(t, l)
				for _, spare := range []int{-1, 0, 1, 2, 3} {
					e, _, _ := checkWrite(t, l, askedWrite{1, "x", spare})
					checkAskedLog(t, e)
				}
			}
		}
	}
}

func TestNumbersOfALogAtTheirEdges(t *testing.T) {
	a := askedWrite{4, "root", 0}
	for _, seq := range []int{0, 1, 999998, 999999} {
		l := logOf(impl.DevNew(3, nil), seq)
		if !impl.LogOk(l) {
			t.Error("no log of the number", seq)
		}
		e := wroteAt(t, l, a, 0)
		if r, ok := impl.ReadAt(e, 0, 4); !ok || r.Seq != seq || e.Seq != seq+1 || !impl.LogOk(e) {
			t.Errorf("the number %d: is read %s, %v", seq, toldRec(r), ok)
		}
		e = failedWrite(t, logOf(impl.DevNew(3, []impl.Fault{torn(0, 400)}), seq), a, impl.FsDown, 1)
		if e.Seq != seq+1 || !impl.LogOk(e) {
			t.Errorf("the number %d, torn: %s", seq, toldLog(e))
		}
	}
	for _, seq := range append(wrongSeqs(), 1000000) {
		for _, l := range []impl.Log{logOf(impl.DevNew(3, nil), seq), logOf(impl.DevNew(3, []impl.Fault{bad(0)}), seq), logOf(off(impl.DevNew(3, nil)), seq), logOf(dev(fullChip(), 100000), seq)} {
			refusedWrite(t, l, a, impl.FsForm)
			if impl.LogOk(l) != (seq == 1000000) {
				t.Error("a log of the number", seq)
			}
		}
	}
	refusedWrite(t, wroteAt(t, logOf(impl.DevNew(3, nil), 999999), a, 0), a, impl.FsForm)
}

func TestWhatIsWrittenAtItsEdges(t *testing.T) {
	l := newLog(3)
	for _, k := range []struct {
		kind, body int
		right      bool
	}{
		{0, 0, false}, {1, 0, true}, {2, 0, true}, {3, 0, true}, {4, 0, true}, {5, 0, false},
		{1, 1, true}, {1, 379, true}, {1, 380, true}, {1, 381, false}, {4, 380, true}, {4, 381, false}, {0, 380, false}, {5, 381, false},
	} {
		a := askedWrite{k.kind, strings.Repeat("q", k.body), 0}
		if !k.right {
			refusedWrite(t, l, a, impl.FsForm)
			continue
		}
		e := wroteAt(t, l, a, 0)
		if r, ok := impl.ReadAt(e, 0, k.kind); !ok || len(r.Body) != k.body {
			t.Errorf("%s: is read %s, %v", a, toldRec(r), ok)
		}
	}
	for _, r := range wrongRecs() {
		refusedWrite(t, logOf(impl.DevNew(3, nil), r.Seq), askedWrite{r.Kind, string(r.Body), 0}, impl.FsForm)
	}
	if e, addr, code := impl.Write(l, 1, nil, 0); addr != 0 || code != impl.FsGood || !sameLog(e, wroteAt(t, l, askedWrite{1, "", 0}, 0)) {
		t.Error("nil and an empty body are told apart:", addr, code)
	}
}

// TestAddressesOfALog: those of each page, and those that are of none.
func TestAddressesOfALog(t *testing.T) {
	for _, n := range []int{3, 4, 24} {
		c := impl.ChipNew(n)
		for blk := range n {
			c.Blocks[blk] = block(0, blk%3 == 0, records(8*blk, 8)...)
		}
		l := logOf(dev(c, 0), 8*n)
		for addr := range 8 * n {
			want := rec(1+addr%4, addr, fmt.Sprint("body ", addr))
			if r, ok := impl.ReadAt(l, addr, want.Kind); !ok || !sameRec(r, want) {
				t.Errorf("at %d is read %s, %v", addr, toldRec(r), ok)
			}
		}
		checkReadAll(t, l, recordsByWords(l))
		for _, addr := range []int{-1, -2, -7, -8, -9, -15, -16, -8 * n, 8 * n, 8*n + 1, 8*n + 7, 8*n + 8, 1 << 16, 1 << 32, 1<<32 + 1, -1 << 32, math.MinInt, math.MinInt + 1, math.MinInt + 8, math.MaxInt, math.MaxInt - 7} {
			for kind := -1; kind <= 5; kind++ {
				if r, ok := impl.ReadAt(l, addr, kind); ok || !sameRec(r, impl.Rec{}) {
					t.Errorf("%d blocks: at %d is read %s, %v", n, addr, toldRec(r), ok)
				}
			}
		}
	}
}

func TestReadingOfAnotherKind(t *testing.T) {
	l := logOf(dev(chip(block(0, false, records(0, 4)...), block(0, true, records(4, 4)...), block(0, false)), 0), 8)
	for addr, want := range recordsByWords(l) {
		for _, kind := range append(wrongKinds(), 1, 2, 3, 4) {
			r, ok := impl.ReadAt(l, addr, kind)
			if ok != (kind == want.Kind) || ok && !sameRec(r, want) || !ok && !sameRec(r, impl.Rec{}) {
				t.Errorf("at %d, of the kind %d, is read %s, %v", addr, kind, toldRec(r), ok)
			}
		}
	}
}

// TestNumbersAboveThoseOfAllRecords: a log's number is above that of each record, on whatever page it is.
func TestNumbersAboveThoseOfAllRecords(t *testing.T) {
	for _, n := range []int{3, 24} {
		for place := range n {
			for page := range 8 {
				for _, isBad := range []bool{false, true} {
					c := impl.ChipNew(n)
					pages := append(slices.Repeat([]string{"none"}, page), record(1+page%4, 700))
					c.Blocks[place] = block(0, isBad, append(pages, records(3, 7-page)...)...)
					for seq, right := range map[int]bool{701: true, 700: false, 699: false, 0: false, 1000000: true, 1000001: false, -1: false, math.MaxInt: false, math.MinInt: false} {
						l := logOf(dev(c, 0), seq)
						if impl.LogOk(l) != right || impl.LogOk(logOf(off(l.D), seq)) != right {
							t.Errorf("a record of 700 at %d, and the number %d: %v", 8*place+page, seq, impl.LogOk(l))
						}
					}
				}
			}
		}
	}
	for _, seq := range []int{0, 1, 999999, 1000000} {
		l := logOf(dev(chip(block(0, false, record(1, 1000000)), block(0, false), block(0, false)), 0), seq)
		if impl.LogOk(l) {
			t.Error("a record of MaxNum, and the number", seq)
		}
		l.D.C.Blocks[0] = block(0, false, record(1, 0))
		if impl.LogOk(l) != (seq > 0) {
			t.Error("a record of 0, and the number", seq)
		}
	}
}

// TestWritingToALogThatIsBehind: only its device need be right, and not its number.
func TestWritingToALogThatIsBehind(t *testing.T) {
	l := logOf(dev(chip(block(0, false, records(500, 3)...), block(0, false), block(0, false)), 0), 7)
	e := wroteAt(t, l, askedWrite{1, "behind", 0}, 3)
	if r, ok := impl.ReadAt(e, 3, 1); !ok || r.Seq != 7 || impl.LogOk(l) || impl.LogOk(e) {
		t.Error("is read", toldRec(r), ok)
	}
}

// noRecords are texts of pages that are no records, among them some that nearly are.
func noRecords() []string {
	r := recForm(rec(2, 300, "ab"))
	l := []string{"", "x", "some bytes", r[:len(r)-1], r[1:], r + "\x00", r + r, withItsSum("\x05\x05\x02ab"), withItsSum("\x00\x05\x02ab"), withItsSum("\x01\xc1\x84\x3d\x00"), withItsSum("\x01\x85\x00\x00"), recForm(rec(1, 5, strings.Repeat("x", 381))), strings.Repeat("\x00", 400), strings.Repeat("\xff", 400)}
	for i := range len(r) {
		l = append(l, r[:i]+string([]byte{r[i] ^ 0x20})+r[i+1:])
	}
	return l
}

// TestPagesThatAreNoRecords: nothing is read there, and no number stands against the log's.
func TestPagesThatAreNoRecords(t *testing.T) {
	for i, s := range noRecords() {
		for page := range 8 {
			pages := slices.Repeat([]string{s}, page+1)
			l := logOf(dev(chip(block(0, i%2 == 0, pages...), block(0, false, s), block(0, false)), 0), 0)
			if !impl.LogOk(l) {
				t.Errorf("no log of pages that are no records: %q", s)
			}
			checkReadAll(t, l, nil)
			checkAskedLog(t, l)
			e := wroteAt(t, l, askedWrite{3, "behind", 0}, openByWords(l, 0)*8+nextByWords(l.D.C, openByWords(l, 0)))
			if len(recordsByWords(e)) != 1 {
				t.Errorf("of %q there are now %d records", s, len(recordsByWords(e)))
			}
		}
	}
}

// TestLogsOfWrongDevices: by each of their parts. Nothing is written, and what is asked is answered by what is there.
func TestLogsOfWrongDevices(t *testing.T) {
	for _, d := range wrongDevs() {
		for _, seq := range []int{0, 5, 1000000, -1} {
			l := logOf(d, seq)
			if impl.LogOk(l) {
				t.Fatalf("this is no log: %s", toldLog(l))
			}
			refusedWrite(t, l, askedWrite{1, "x", 0}, impl.FsForm)
			refusedWrite(t, l, askedWrite{0, strings.Repeat("x", 381), -1}, impl.FsForm)
		}
		checkAskedLog(t, logOf(d, 5))
		checkReadAll(t, logOf(d, 5), recordsByWords(logOf(d, 5)))
	}
}

// TestReadingOfWrongChips: a record is read wherever a page has one, be the chip right or not; what is not written has none.
func TestReadingOfWrongChips(t *testing.T) {
	c := chip(block(-1, false, records(0, 2)...), impl.Block{}, block(0, true, records(2, 12)...))
	c.Blocks[0].Pages[5] = impl.Page{Used: true, B: []byte(record(4, 90))}
	c.Blocks[0].Pages[6] = impl.Page{B: []byte(record(4, 91))}
	l := logOf(dev(c, -7), 200)
	checkAskedLog(t, l)
	want := map[int]impl.Rec{5: rec(4, 90, "body 90")}
	for i := range 8 {
		want[16+i] = rec(1+i%4, 2+i, fmt.Sprint("body ", 2+i))
	}
	want[0], want[1] = rec(1, 0, "body 0"), rec(2, 1, "body 1")
	checkReadAll(t, l, want)
	if impl.LogOk(l) || impl.FreeBlocks(l) != 1 || impl.OpenBlock(l, 5) != 0 {
		t.Error("right:", impl.LogOk(l), impl.FreeBlocks(l), "are free, and open is", impl.OpenBlock(l, 5))
	}
}

// TestWhichCodeOfALogComesFirst: where several are right at once, the one that the chapter names first counts.
func TestWhichCodeOfALogComesFirst(t *testing.T) {
	good, long, kind := askedWrite{1, "x", 0}, askedWrite{1, strings.Repeat("x", 381), 0}, askedWrite{5, "x", 0}
	full := chip(fullChip().Blocks[:3]...)
	for _, c := range []impl.Chip{impl.ChipNew(3), full, mixedChip(3)} {
		for _, ops := range []int{0, 99999, 100000} {
			for _, isOff := range []bool{false, true} {
				d := dev(c, ops, bad(ops))
				d.Down = isOff
				refusedWrite(t, logOf(d, 5), long, impl.FsForm)
				refusedWrite(t, logOf(d, 5), kind, impl.FsForm)
				refusedWrite(t, logOf(d, 1000000), good, impl.FsForm)
				refusedWrite(t, logOf(d, -1), good, impl.FsForm)
				wrong := d
				wrong.Faults = []impl.Fault{bad(2), bad(2)}
				refusedWrite(t, logOf(wrong, 5), good, impl.FsForm)
				if isOff {
					refusedWrite(t, logOf(d, 5), good, impl.FsDown)
				}
			}
		}
	}
	for _, ops := range []int{0, 99999, 100000} {
		refusedWrite(t, logOf(off(dev(full, ops)), 5), good, impl.FsDown)
		refusedWrite(t, logOf(dev(full, ops), 5), good, impl.FsSpace)
		refusedWrite(t, logOf(dev(full, ops, torn(ops, 9)), 5), good, impl.FsSpace)
		refusedWrite(t, logOf(dev(impl.ChipNew(3), ops, torn(ops, 9)), 5), askedWrite{1, "x", 3}, impl.FsSpace)
	}
	refusedWrite(t, logOf(dev(impl.ChipNew(3), 100000), 5), askedWrite{1, "x", 2}, impl.FsDown)
	refusedWrite(t, logOf(dev(impl.ChipNew(3), 100000, torn(100000, 9)), 5), good, impl.FsDown)
	failedWrite(t, logOf(dev(impl.ChipNew(3), 99999, torn(99999, 9)), 5), good, impl.FsDown, 1)
}

// TestVeryLargeAndVerySmallNumbersToWrite: each beside each other one.
func TestVeryLargeAndVerySmallNumbersToWrite(t *testing.T) {
	for _, kind := range append(wrongKinds(), 1, 4) {
		for _, seq := range append(wrongSeqs(), 0, 999999, 1000000) {
			for _, spare := range []int{math.MinInt, -1, 0, 2, 3, math.MaxInt} {
				checkWrite(t, logOf(impl.DevNew(3, nil), seq), askedWrite{kind, "n", spare})
			}
		}
	}
}
