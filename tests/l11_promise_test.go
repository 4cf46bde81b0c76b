package tests

import (
	"fmt"
	"maps"
	"math"
	"math/rand/v2"
	"slices"
	"strings"
	"testing"

	"loop.example/g00285/impl"
)

// Promise 11: what a device says it did it did; where the power went a page has a beginning of it.

// devStory is what was done to a device: to its chip, and which blocks turned bad.
type devStory struct {
	*chipStory
	bad []bool
}

func storyOfDev(d impl.Dev) *devStory {
	s := &devStory{chipStory: storyOf(d.C)}
	for _, b := range d.C.Blocks {
		s.bad = append(s.bad, b.Bad)
	}
	return s
}

// tears is an operation in whose midst the power went.
func (s *devStory) tears(a askedDev, keep int) {
	if a.call == "DevErase" {
		s.texts[a.blk] = slices.Repeat([]string{""}, min(keep, 8))
		s.wears[a.blk]++
		return
	}
	s.texts[a.blk] = append(s.texts[a.blk], a.b[:min(keep, len(a.b))])
}

// goesOn takes the operation as begun, if Ops says so, and what became of it by its code.
func (s *devStory) goesOn(t *testing.T, d, e impl.Dev, a askedDev, code int) {
	t.Helper()
	f, comes := impl.FaultAt(d)
	switch {
	case e.Ops == d.Ops:
	case code == impl.FsGood && !comes:
		s.chipStory.goesOn(a.ofChip())
	case code == impl.FsNone && comes && f.Kind == impl.FaBad:
		s.bad[a.blk] = true
	case code == impl.FsDown && comes && f.Kind == impl.FaTorn:
		s.tears(a, f.Keep)
	default:
		t.Fatalf("%s: the code %d beside the fault %v, %v", a, code, f, comes)
	}
}

func (s *devStory) check(t *testing.T, d impl.Dev) {
	t.Helper()
	s.chipStory.check(t, d.C)
	for blk, b := range d.C.Blocks {
		if b.Bad != s.bad[blk] {
			t.Fatalf("the block %d is bad: %v", blk, b.Bad)
		}
	}
	if !impl.DevOk(d) {
		t.Fatalf("no device any more: %s", toldDev(d))
	}
}

// checkNothingDone asks for the device as it was, but for how many operations were begun.
func checkNothingDone(t *testing.T, d, e impl.Dev, a askedDev, begun int) {
	t.Helper()
	d.Ops += begun
	if toldDev(d) != toldDev(e) {
		t.Fatalf("%s: nothing was done, but there is %s, of %s", a, toldDev(e), toldDev(d))
	}
}

// checkDone asks what is said to be done, whole or torn, by what is read alone.
func checkDone(t *testing.T, d, e impl.Dev, a askedDev) {
	t.Helper()
	next := impl.NextPage(d.C, a.blk)
	for blk := range d.C.Blocks {
		for page := range 8 {
			mine := blk == a.blk && (a.call == "DevErase" || page == next)
			if !mine && !readAsBefore(d.C, e.C, blk, page) {
				t.Fatalf("%s: the page %d of %d is other now", a, page, blk)
			}
		}
		if blk != a.blk && toldBlock(d.C.Blocks[blk]) != toldBlock(e.C.Blocks[blk]) {
			t.Fatalf("%s: the block %d is other now", a, blk)
		}
	}
	was, is := d.C.Blocks[a.blk], e.C.Blocks[a.blk]
	if is.Bad || a.call == "DevErase" && is.Wear != was.Wear+1 || a.call == "DevProgram" && is.Wear != was.Wear {
		t.Fatalf("%s: the block is %s, and was %s", a, toldBlock(is), toldBlock(was))
	}
}

// checkWhole asks for all of what was begun.
func checkWhole(t *testing.T, d, e impl.Dev, a askedDev) {
	t.Helper()
	checkDone(t, d, e, a)
	if e.Down || e.Ops != d.Ops+1 {
		t.Fatalf("%s: good, but off: %v, and %d operations", a, e.Down, e.Ops)
	}
	if a.call == "DevErase" {
		for page := range 8 {
			if b, ok := impl.ReadPage(e.C, a.blk, page); ok || len(b) != 0 {
				t.Fatalf("%s: erased, but the page %d has %q", a, page, b)
			}
		}
		return
	}
	b, ok := impl.ReadPage(e.C, a.blk, impl.NextPage(d.C, a.blk))
	if string(b) != a.b || !ok || impl.NextPage(e.C, a.blk) != impl.NextPage(d.C, a.blk)+1 {
		t.Fatalf("%s: good, but the page has %q, %v", a, b, ok)
	}
}

// checkTorn asks for a beginning of what was begun, as long as Keep says.
func checkTorn(t *testing.T, d, e impl.Dev, a askedDev, keep int) {
	t.Helper()
	checkDone(t, d, e, a)
	if !e.Down || e.Ops != d.Ops+1 {
		t.Fatalf("%s: torn, but off: %v, and %d operations", a, e.Down, e.Ops)
	}
	if a.call == "DevErase" {
		for page := range 8 {
			if b, ok := impl.ReadPage(e.C, a.blk, page); ok != (page < keep) || len(b) != 0 {
				t.Fatalf("%s, %d kept: the page %d has %q, %v", a, keep, page, b, ok)
			}
		}
		return
	}
	b, ok := impl.ReadPage(e.C, a.blk, impl.NextPage(d.C, a.blk))
	if !ok || !strings.HasPrefix(a.b, string(b)) || len(b) != keep && (len(b) > keep || len(b) != len(a.b)) {
		t.Fatalf("%s, %d kept: the page has %q, %v", a, keep, b, ok)
	}
	if impl.NextPage(e.C, a.blk) != impl.NextPage(d.C, a.blk)+1 {
		t.Fatalf("%s: the next page is %d", a, impl.NextPage(e.C, a.blk))
	}
}

// checkPromise holds what a call answers against what it says by its code, and answers how it ended.
func checkPromise(t *testing.T, d, e impl.Dev, a askedDev, code int) string {
	t.Helper()
	f, comes := impl.FaultAt(d)
	switch {
	case a.call == "PowerUp":
		d.Down = false
		checkNothingDone(t, d, e, a, 0)
		return "on"
	case d.Down:
		checkNothingDone(t, d, e, a, 0)
		if code != impl.FsDown {
			t.Fatalf("%s of what is off: the code %d", a, code)
		}
		return "off"
	case code == impl.FsGood:
		checkWhole(t, d, e, a)
		return "whole"
	case code == impl.FsDown && e.Ops != d.Ops:
		if !comes || f.Kind != impl.FaTorn {
			t.Fatalf("%s: the power went, but the fault is %v, %v", a, f, comes)
		}
		checkTorn(t, d, e, a, f.Keep)
		return "torn"
	case code == impl.FsNone && e.Ops != d.Ops:
		if !comes || f.Kind != impl.FaBad || !e.C.Blocks[a.blk].Bad {
			t.Fatalf("%s: FsNone, but the fault is %v, %v: %s", a, f, comes, toldDev(e))
		}
		e.C.Blocks[a.blk].Bad = false
		checkNothingDone(t, d, e, a, 1)
		e.C.Blocks[a.blk].Bad = true
		return "bad"
	}
	checkNothingDone(t, d, e, a, 0)
	return fmt.Sprint("refused ", code)
}

// anyFaults picks at most 20 of them, close to each other, by numbers that hang on a fixed start alone.
func anyFaults(r *rand.Rand, from int) []impl.Fault {
	l, at := []impl.Fault{}, from
	for range r.IntN(21) {
		at += r.IntN(9)
		keep := []int{0, 1, 7, 8, 9, 400, r.IntN(10), r.IntN(401)}[r.IntN(8)]
		if at <= 100000 {
			l = append(l, impl.Fault{At: at, Kind: 1 + min(r.IntN(4), 1), Keep: keep})
		}
		at++
	}
	return l
}

// anyDevCall is mostly one of a block that is there; of what is off, PowerUp comes soon.
func anyDevCall(r *rand.Rand, d impl.Dev) askedDev {
	if r.IntN(30) == 0 || d.Down && r.IntN(3) > 0 {
		return powerUp()
	}
	blk := r.IntN(len(d.C.Blocks))
	if r.IntN(25) == 0 {
		blk = []int{-1, len(d.C.Blocks), len(d.C.Blocks) + 1, math.MinInt, math.MaxInt, 1 << 32}[r.IntN(6)]
	}
	if r.IntN(4) == 0 {
		return devErase(blk)
	}
	n := []int{0, 1, 2, 399, 400, 401, r.IntN(20), r.IntN(20), r.IntN(401)}[r.IntN(9)]
	return devProgram(blk, strings.Repeat("abcdefghijklmnopqrstuvwxyz"[r.IntN(26):], 401)[:n])
}

func TestLongRunsOfDevices(t *testing.T) {
	met := map[string]map[string]int{"DevProgram": {}, "DevErase": {}, "PowerUp": {}}
	for n := 3; n <= 24; n++ {
		for run := range 6 {
			r := rand.New(rand.NewPCG(11, uint64(8*n+run)))
			d := impl.DevNew(n, anyFaults(r, 0))
			if run > 3 {
				ops := []int{99900, 99980}[run-4]
				d = dev(startOfChipRun(n), ops, anyFaults(r, ops)...)
			}
			story := storyOfDev(d)
			for range 150 {
				a := anyDevCall(r, d)
				e, code := checkDev(t, d, a)
				met[a.call][checkPromise(t, d, e, a, code)]++
				story.goesOn(t, d, e, a, code)
				story.check(t, e)
				d = e
			}
			if t.Failed() {
				return
			}
		}
	}
	ends := []string{"bad", "off", "refused 1", "refused 10", "refused 2", "refused 5", "torn", "whole"}
	for _, call := range []string{"DevProgram", "DevErase"} {
		if got := slices.Sorted(maps.Keys(met[call])); !slices.Equal(got, ends) {
			t.Errorf("%s ends as %q", call, got)
		}
	}
	t.Log(met)
}

func smallDevCalls() []askedDev {
	l := []askedDev{powerUp(), devProgram(1, strings.Repeat("b", 401)), devErase(-1), devProgram(3, "x")}
	for blk := range 3 {
		l = append(l, devProgram(blk, "ab"), devErase(blk))
	}
	return l
}

// TestEveryShortRunOfADevice goes through all devices that few calls make: of new ones and of some that are nearly full, or worn, with faults of each kind at each of the first operations.
func TestEveryShortRunOfADevice(t *testing.T) {
	worn := chip(block(0, false, pagesUpTo(7)...), block(99999, false, pagesUpTo(8)...), block(5, true, pagesUpTo(3)...))
	for _, l := range [][]impl.Fault{
		nil, {bad(0)}, {torn(0, 1)}, {torn(1, 0), bad(2)}, {bad(1), torn(2, 3)}, {torn(0, 8), torn(1, 7), torn(2, 2)}, {bad(0), bad(1), torn(2, 400), bad(3)},
	} {
		for _, c := range []impl.Chip{impl.ChipNew(3), worn} {
			everyState(t, dev(c, 0, l...), toldDev, 6, smallDevCalls(), func(d impl.Dev, a askedDev) impl.Dev {
				e, code := checkDev(t, d, a)
				checkPromise(t, d, e, a, code)
				return e
			})
		}
	}
	everyState(t, dev(worn, 99998, torn(99998, 1), bad(99999), torn(100000, 2)), toldDev, 6, smallDevCalls(), func(d impl.Dev, a askedDev) impl.Dev {
		e, code := checkDev(t, d, a)
		checkPromise(t, d, e, a, code)
		return e
	})
}

// TestEveryFaultAtEveryOperation: of a fixed run, each operation in turn is torn, or turns its block bad, and those ahead of it and behind it are not.
func TestEveryFaultAtEveryOperation(t *testing.T) {
	run := []askedDev{}
	for i := range 24 {
		run = append(run, devProgram(i%3, fmt.Sprint("the page ", i)))
	}
	run = append(run, devErase(1), devProgram(1, "new"), devErase(1), devErase(0), devProgram(0, "again"), devErase(2))
	for at := range run {
		for _, f := range []impl.Fault{bad(at), torn(at, 0), torn(at, 4), torn(at, 400)} {
			d := impl.DevNew(3, []impl.Fault{f})
			for i, a := range run {
				e, code := checkDev(t, d, a)
				end := checkPromise(t, d, e, a, code)
				if want := map[int]string{impl.FaBad: "bad", impl.FaTorn: "torn"}[f.Kind]; i < at && end != "whole" || i == at && end != want {
					t.Fatalf("the fault %v: the operation %d ends as %s", f, i, end)
				}
				if i > at && (end == "torn" || end == "bad") {
					t.Fatalf("the fault %v came again, at %d", f, i)
				}
				d = impl.PowerUp(e)
			}
		}
	}
}

// TestAllTwentyFaultsCome: one operation behind the other fails, and behind the last one all go well.
func TestAllTwentyFaultsCome(t *testing.T) {
	l := []impl.Fault{}
	for at := range 20 {
		l = append(l, torn(at, at))
	}
	for at := 2; at < 20; at += 3 {
		l[at] = bad(at)
	}
	d := impl.DevNew(24, l)
	for i := range 40 {
		blk := i % 24
		if i >= 20 {
			blk = 20 + i%4
		}
		a := devProgram(blk, "thirty bytes, or some more: abc")
		e, code := checkDev(t, d, a)
		end := checkPromise(t, d, e, a, code)
		if want := map[bool]string{true: "bad", false: "torn"}[i%3 == 2]; i < 20 && end != want || i >= 20 && end != "whole" {
			t.Fatalf("the operation %d ends as %s", i, end)
		}
		d = impl.PowerUp(e)
	}
	if !slices.Equal(d.Faults, l) || d.Ops != 40 {
		t.Errorf("the faults are %s", toldFaults(d.Faults))
	}
}

// TestWhatIsTornIsGoneOnFrom: behind PowerUp the next page comes behind the torn one, and an erase makes a block whole again.
func TestWhatIsTornIsGoneOnFrom(t *testing.T) {
	for keep := range 10 {
		d := impl.DevNew(3, []impl.Fault{torn(1, keep), torn(3, keep)})
		d = begunDev(t, d, devProgram(0, "one"), impl.FsGood)
		d = begunDev(t, d, devProgram(0, "twotwotwo"), impl.FsDown)
		d = begunDev(t, impl.PowerUp(d), devProgram(0, "three"), impl.FsGood)
		if got := textsOfPages(d.C.Blocks[0]); !slices.Equal(got, []string{"one", "twotwotwo"[:keep], "three"}) {
			t.Errorf("%d kept: the pages are %q", keep, got)
		}
		d = begunDev(t, d, devErase(0), impl.FsDown)
		d = impl.PowerUp(d)
		if keep < 8 {
			e := begunDev(t, d, devProgram(0, "behind"), impl.FsGood)
			if b, ok := impl.ReadPage(e.C, 0, keep); string(b) != "behind" || !ok {
				t.Errorf("%d kept: behind them is %q, %v", keep, b, ok)
			}
		} else {
			refusedDev(t, d, devProgram(0, "behind"), impl.FsFull)
		}
		d = begunDev(t, d, devErase(0), impl.FsGood)
		if impl.NextPage(d.C, 0) != 0 || d.C.Blocks[0].Wear != 2 {
			t.Errorf("%d kept: behind an erase there is %s", keep, toldDev(d))
		}
	}
}
