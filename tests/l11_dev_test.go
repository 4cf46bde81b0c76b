package tests

import (
	"math"
	"slices"
	"strings"
	"testing"

	"loop.example/g00285/impl"
)

var (
	_ func(int, []impl.Fault) impl.Dev            = impl.DevNew
	_ func(impl.Dev) bool                         = impl.DevOk
	_ func(impl.Dev) (impl.Fault, bool)           = impl.FaultAt
	_ func(impl.Dev, int, []byte) (impl.Dev, int) = impl.DevProgram
	_ func(impl.Dev, int) (impl.Dev, int)         = impl.DevErase
	_ func(impl.Dev) impl.Dev                     = impl.PowerUp
	_ struct{ At, Kind, Keep int }                = impl.Fault{}
	_ struct {
		C      impl.Chip
		Ops    int
		Faults []impl.Fault
		Down   bool
	} = impl.Dev{}
)

func TestFaultConstants(t *testing.T) {
	if impl.FaBad != 1 || impl.FaTorn != 2 || impl.FsDown != 10 || impl.FsNone != 2 {
		t.Error("the constants are", impl.FaBad, impl.FaTorn, impl.FsDown, impl.FsNone)
	}
}

// checkDev holds a call against the words, whatever its code, and answers what the program answers.
func checkDev(t *testing.T, d impl.Dev, a askedDev) (impl.Dev, int) {
	t.Helper()
	was := toldDev(d)
	want, wantCode := a.ofWords(d)
	e, code := a.of(d)
	if code != wantCode || toldDev(e) != toldDev(want) {
		t.Errorf("%s: the code %d, not %d, and %s, not %s, of %s", a, code, wantCode, toldDev(e), toldDev(want), was)
	}
	if toldDev(d) != was {
		t.Errorf("%s: the argument is now %s, of %s", a, toldDev(d), was)
	}
	if right := devByWords(d); impl.DevOk(e) != right || devByWords(e) != right {
		t.Errorf("%s: a device that is right: %v, of one: %v", a, impl.DevOk(e), right)
	}
	checkAskedDev(t, e)
	return e, code
}

// checkAskedDev holds what is asked of a device against the words.
func checkAskedDev(t *testing.T, d impl.Dev) {
	t.Helper()
	if got := impl.DevOk(d); got != devByWords(d) {
		t.Errorf("DevOk is %v of %s", got, toldDev(d))
	}
	f, ok := impl.FaultAt(d)
	if want, wanted := faultAtByWords(d); f != want || ok != wanted {
		t.Errorf("FaultAt is %v and %v, not %v and %v, of %s", f, ok, want, wanted, toldDev(d))
	}
}

// refusedDev asks for this code, and for the device as it was beside it.
func refusedDev(t *testing.T, d impl.Dev, a askedDev, want int) {
	t.Helper()
	was := toldDev(d)
	e, code := checkDev(t, d, a)
	if code != want || want == impl.FsGood {
		t.Errorf("%s: the code %d, not %d, of %s", a, code, want, was)
	}
	if toldDev(e) != was {
		t.Errorf("%s is refused, but the answer is %s, of %s", a, toldDev(e), was)
	}
}

// begunDev asks for this code, of an operation that was begun.
func begunDev(t *testing.T, d impl.Dev, a askedDev, want int) impl.Dev {
	t.Helper()
	e, code := checkDev(t, d, a)
	if code != want || e.Ops != d.Ops+1 {
		t.Errorf("%s: the code %d, not %d, and %d operations, of %s", a, code, want, e.Ops, toldDev(d))
	}
	return e
}

func TestAKnownRunOfADevice(t *testing.T) {
	faults := []impl.Fault{torn(2, 3), bad(4), torn(5, 2), torn(6, 400), bad(90)}
	d := impl.DevNew(4, faults)
	do := func(a askedDev, code int, ops int, down bool, l ...impl.Block) {
		t.Helper()
		e, got := a.of(d)
		want := impl.Dev{C: chip(l...), Ops: ops, Faults: faults, Down: down}
		if got != code || toldDev(e) != toldDev(want) {
			t.Errorf("%s: the code %d, not %d, and %s, not %s", a, got, code, toldDev(e), toldDev(want))
		}
		if !impl.DevOk(e) {
			t.Errorf("%s: no device any more", a)
		}
		d = e
	}
	none, ten := block(0, false), block(0, false, "ten")
	do(devProgram(1, "ten"), impl.FsGood, 1, false, none, ten, none, none)
	do(devErase(3), impl.FsGood, 2, false, none, ten, none, block(1, false))
	do(devProgram(4, "x"), impl.FsForm, 2, false, none, ten, none, block(1, false))
	half := block(0, false, "ten", "hal")
	do(devProgram(1, "half"), impl.FsDown, 3, true, none, half, none, block(1, false))
	do(devProgram(1, "more"), impl.FsDown, 3, true, none, half, none, block(1, false))
	do(devErase(0), impl.FsDown, 3, true, none, half, none, block(1, false))
	do(powerUp(), impl.FsGood, 3, false, none, half, none, block(1, false))
	do(powerUp(), impl.FsGood, 3, false, none, half, none, block(1, false))
	more := block(0, false, "ten", "hal", "more")
	do(devProgram(1, "more"), impl.FsGood, 4, false, none, more, none, block(1, false))
	more.Bad = true
	do(devErase(1), impl.FsNone, 5, false, none, more, none, block(1, false))
	do(devErase(1), impl.FsNone, 5, false, none, more, none, block(1, false))
	do(devProgram(1, "x"), impl.FsNone, 5, false, none, more, none, block(1, false))
	do(devErase(3), impl.FsDown, 6, true, none, more, none, block(2, false, "", ""))
	do(powerUp(), impl.FsGood, 6, false, none, more, none, block(2, false, "", ""))
	do(devProgram(3, "all"), impl.FsDown, 7, true, none, more, none, block(2, false, "", "", "all"))
	do(powerUp(), impl.FsGood, 7, false, none, more, none, block(2, false, "", "", "all"))
	do(devErase(3), impl.FsGood, 8, false, none, more, none, block(3, false))
}

// manyFaults are n of them, of both kinds.
func manyFaults(n int) []impl.Fault {
	l := []impl.Fault{}
	for i := range n {
		l = append(l, impl.Fault{At: 3 * i, Kind: 1 + i%2, Keep: i * 7 % 401})
	}
	return l
}

// rightFaults are lists of faults that a device may have.
func rightFaults() [][]impl.Fault {
	l := [][]impl.Fault{nil, {}, manyFaults(1), manyFaults(19), manyFaults(20), {bad(0), torn(100000, 400)}, {{At: 0, Kind: 1, Keep: 400}}, {torn(99999, 0), bad(100000)}}
	for _, at := range []int{0, 1, 99999, 100000} {
		for _, keep := range []int{0, 1, 7, 8, 399, 400} {
			l = append(l, []impl.Fault{torn(at, keep)}, []impl.Fault{{At: at, Kind: impl.FaBad, Keep: keep}})
		}
	}
	return l
}

// wrongFaultsAlone are faults that no device has, each wrong in one thing alone.
func wrongFaultsAlone() []impl.Fault {
	l := []impl.Fault{{}, {At: 5}, {At: 5, Keep: 5}}
	for _, n := range []int{math.MinInt, -1 << 32, -256, -1, 100001, 1 << 32, 1<<32 + 1, math.MaxInt} {
		l = append(l, bad(n), torn(n, 5), impl.Fault{At: 5, Kind: 1, Keep: n}, torn(5, n))
	}
	for _, keep := range []int{401, 402, 1000, 65536} {
		l = append(l, impl.Fault{At: 5, Kind: 1, Keep: keep}, torn(5, keep))
	}
	for _, kind := range []int{math.MinInt, -2, -1, 0, 3, 4, 257, 258, 1<<32 + 1, 1<<32 + 2, math.MaxInt} {
		l = append(l, impl.Fault{At: 5, Kind: kind}, impl.Fault{At: 5, Kind: kind, Keep: 400})
	}
	return l
}

// wrongFaults are lists of faults that no device has.
func wrongFaults() [][]impl.Fault {
	l := [][]impl.Fault{
		manyFaults(21), manyFaults(22), manyFaults(1000), slices.Repeat([]impl.Fault{bad(7)}, 21),
		{bad(2), bad(2)}, {torn(2, 1), torn(2, 2)}, {bad(2), torn(2, 0)}, {torn(2, 0), bad(2)}, {bad(0), bad(0)}, {bad(100000), bad(100000)},
		{bad(3), bad(2)}, {torn(1, 0), torn(0, 400)}, {bad(0), bad(5), bad(4)}, {bad(5), bad(4), bad(6)}, {bad(0), bad(1), bad(1)}, {bad(0), bad(1), bad(0)},
		append(manyFaults(19), bad(54)), append(manyFaults(19), bad(53)), append([]impl.Fault{bad(1)}, manyFaults(19)...),
	}
	for _, f := range wrongFaultsAlone() {
		l = append(l, []impl.Fault{f}, []impl.Fault{f, torn(f.At+1, 1)}, []impl.Fault{torn(f.At-1, 1), f}, append(manyFaults(2), f, torn(f.At+1, 0)))
	}
	return l
}

func TestNewDevices(t *testing.T) {
	for n := 3; n <= 24; n++ {
		for _, l := range rightFaults() {
			d := impl.DevNew(n, l)
			if toldDev(d) != toldDev(devNewByWords(n, l)) || len(d.C.Blocks) != n || !slices.Equal(d.Faults, l) || d.Ops != 0 || d.Down || !impl.DevOk(d) {
				t.Errorf("DevNew of %d and %s is %s", n, toldFaults(l), toldDev(d))
			}
			checkAskedDev(t, d)
		}
	}
	none := toldDev(impl.Dev{})
	for _, n := range append(farNumbers(), 0, 1, 2, 25, 26, 100) {
		for _, l := range rightFaults() {
			if d := impl.DevNew(n, l); toldDev(d) != none || impl.DevOk(d) {
				t.Errorf("DevNew of %d and %s is %s", n, toldFaults(l), toldDev(d))
			}
		}
	}
	for _, n := range []int{2, 3, 8, 24, 25} {
		for _, l := range wrongFaults() {
			if d := impl.DevNew(n, l); toldDev(d) != none || impl.DevOk(d) {
				t.Errorf("DevNew of %d and %s is %s", n, toldFaults(l), toldDev(d))
			}
		}
	}
}

func TestDevicesOfEveryNumberOfFaults(t *testing.T) {
	for n := range 24 {
		l := manyFaults(n)
		if d := impl.DevNew(3, l); impl.DevOk(d) != (n <= 20) || len(d.Faults) != n && n <= 20 || len(d.Faults) != 0 && n > 20 {
			t.Errorf("of %d faults there is %s", n, toldDev(d))
		}
		if d := dev(impl.ChipNew(3), 1, l...); impl.DevOk(d) != (n <= 20) {
			t.Errorf("%d faults: %v", n, impl.DevOk(d))
		}
	}
}

// rightDevs are devices of many kinds, on and off, all of them right.
func rightDevs() []impl.Dev {
	l := []impl.Dev{}
	for i, c := range rightChips() {
		faults := rightFaults()[i%len(rightFaults())]
		l = append(l, dev(c, []int{0, 1, 50, 99999, 100000}[i%5], faults...))
	}
	for i, faults := range rightFaults() {
		l = append(l, dev(mixedChip(i%9), []int{0, 1, 3, 99999, 100000}[i%5], faults...))
	}
	for _, d := range l {
		l = append(l, off(d))
	}
	return l
}

// wrongOps are numbers that no device has begun.
func wrongOps() []int {
	return []int{math.MinInt, -1 << 32, -100000, -1, 100001, 100002, 1 << 32, math.MaxInt}
}

// wrongDevs are devices that are not right: by their chip, their Ops, or a fault.
func wrongDevs() []impl.Dev {
	l := []impl.Dev{{}, {Ops: 5}, {Faults: manyFaults(3)}}
	for _, c := range wrongChips() {
		l = append(l, dev(c, 1, manyFaults(2)...))
	}
	for _, ops := range wrongOps() {
		l = append(l, dev(mixedChip(3), ops), dev(impl.ChipNew(3), ops, manyFaults(20)...), dev(impl.ChipNew(3), ops, bad(ops)))
	}
	for _, faults := range wrongFaults() {
		l = append(l, dev(mixedChip(3), 5, faults...))
	}
	for _, d := range l {
		l = append(l, off(d))
	}
	return l
}

func TestDevicesThatAreAndThatAreNone(t *testing.T) {
	for _, d := range rightDevs() {
		if !devByWords(d) || !impl.DevOk(d) {
			t.Errorf("this is a device: %s", toldDev(d))
		}
		checkAskedDev(t, d)
	}
	for _, d := range wrongDevs() {
		if devByWords(d) || impl.DevOk(d) {
			t.Errorf("this is no device: %s", toldDev(d))
		}
		checkAskedDev(t, d)
	}
	for _, ops := range []int{0, 1, 99999, 100000} {
		if d := dev(impl.ChipNew(3), ops); !impl.DevOk(d) || !impl.DevOk(off(d)) {
			t.Errorf("%d operations were begun", ops)
		}
	}
}

// someDevCalls are calls of all kinds, of blocks that are there and of some that are not.
func someDevCalls() []askedDev {
	l := []askedDev{powerUp()}
	for _, blk := range []int{math.MinInt, -1, 0, 1, 2, 3, 23, 24, math.MaxInt} {
		l = append(l, devErase(blk), devProgram(blk, ""), devProgram(blk, "some bytes"))
	}
	return append(l, devProgram(0, strings.Repeat("x", 400)), devProgram(1, strings.Repeat("x", 401)), devProgram(9, strings.Repeat("x", 401)))
}

func TestEachCallOfManyDevices(t *testing.T) {
	for _, d := range rightDevs() {
		for _, a := range someDevCalls() {
			checkDev(t, d, a)
		}
	}
}

func TestNothingIsDoneToWhatIsNoDevice(t *testing.T) {
	for _, d := range wrongDevs() {
		for _, a := range []askedDev{devProgram(0, "x"), devProgram(2, ""), devErase(1), devProgram(-1, strings.Repeat("x", 401)), devErase(math.MaxInt)} {
			refusedDev(t, d, a, impl.FsForm)
		}
		checkDev(t, d, powerUp())
	}
}

func TestWhichFaultComes(t *testing.T) {
	for _, k := range []struct {
		d    impl.Dev
		want impl.Fault
		ok   bool
	}{
		{impl.Dev{}, impl.Fault{}, false},
		{dev(impl.ChipNew(3), 0), impl.Fault{}, false},
		{dev(impl.ChipNew(3), 0, bad(1)), impl.Fault{}, false},
		{dev(impl.ChipNew(3), 1, bad(0), torn(1, 9), bad(2)), torn(1, 9), true},
		{dev(impl.ChipNew(3), 2, bad(0), torn(1, 9), bad(2)), bad(2), true},
		{dev(impl.ChipNew(3), 3, bad(0), torn(1, 9), bad(2)), impl.Fault{}, false},
		{dev(impl.ChipNew(3), 100000, bad(99999), torn(100000, 1)), torn(100000, 1), true},
		{off(dev(impl.ChipNew(3), 4, torn(4, 7))), torn(4, 7), true},
		// Of what is not right, too: the first of several, in whatever order, of whatever kind.
		{dev(impl.ChipNew(3), 4, bad(9), torn(4, 1), torn(4, 2), bad(4)), torn(4, 1), true},
		{dev(impl.ChipNew(3), 4, bad(4), torn(4, 1)), bad(4), true},
		{dev(impl.Chip{}, -5, bad(9), impl.Fault{At: -5, Kind: 77, Keep: -3}), impl.Fault{At: -5, Kind: 77, Keep: -3}, true},
		{dev(impl.Chip{}, 0, impl.Fault{}), impl.Fault{}, true},
		{dev(impl.Chip{}, 0, torn(7, 7), impl.Fault{}, torn(0, 1)), impl.Fault{}, true},
		{dev(impl.Chip{}, math.MinInt, bad(math.MaxInt), torn(math.MinInt, 2)), torn(math.MinInt, 2), true},
		{dev(impl.Chip{}, 1, bad(1<<32+1)), impl.Fault{}, false},
		{dev(impl.Chip{}, 900, append(manyFaults(400), bad(901))...), manyFaults(301)[300], true},
	} {
		if f, ok := impl.FaultAt(k.d); f != k.want || ok != k.ok {
			t.Errorf("FaultAt is %v and %v, not %v, of %s", f, ok, k.want, toldDev(k.d))
		}
		checkAskedDev(t, k.d)
	}
}

// TestEachKeepOfATornPage: the page has the first Keep bytes, or all, when there are fewer.
func TestEachKeepOfATornPage(t *testing.T) {
	all := strings.Repeat("0123456789abcdefghijk", 20)[:400]
	for keep := range 401 {
		for _, n := range []int{0, 1, 2, 7, 8, 9, 399, 400, max(keep-1, 0), keep, min(keep+1, 400)} {
			d := impl.DevNew(3, []impl.Fault{torn(0, keep)})
			e := begunDev(t, d, devProgram(keep%3, all[:n]), impl.FsDown)
			b, ok := impl.ReadPage(e.C, keep%3, 0)
			if want := all[:min(n, keep)]; string(b) != want || !ok || !e.Down || impl.NextPage(e.C, keep%3) != 1 {
				t.Errorf("of %d bytes, %d kept, the page has %q, %v", n, keep, b, ok)
			}
		}
	}
}

// TestEachKeepOfATornErase: the first Keep pages are written, with nothing, or all, when there are fewer.
func TestEachKeepOfATornErase(t *testing.T) {
	for keep := range 401 {
		for written := range 9 {
			c := chip(block(0, false, "a"), block(7, false, pagesUpTo(written)...), block(0, false, "b"))
			e := begunDev(t, dev(c, 3, torn(3, keep)), devErase(1), impl.FsDown)
			if impl.NextPage(e.C, 1) != min(keep, 8) || e.C.Blocks[1].Wear != 8 || !e.Down || e.C.Blocks[1].Bad {
				t.Errorf("of %d pages, %d kept, there is %s", written, keep, toldDev(e))
			}
			for page := range 8 {
				if b, ok := impl.ReadPage(e.C, 1, page); len(b) != 0 || ok != (page < keep) {
					t.Errorf("of %d pages, %d kept, the page %d has %q, %v", written, keep, page, b, ok)
				}
			}
		}
	}
}

// TestBlocksThatTurnBad: whatever Keep says, and whatever was asked, all but Bad and Ops is as it was.
func TestBlocksThatTurnBad(t *testing.T) {
	for written := range 9 {
		for _, keep := range []int{0, 1, 3, 8, 400} {
			for blk := range 4 {
				c := chip(block(0, false), block(99999, false), block(5, false), block(1, false))
				c.Blocks[blk] = block(blk, false, pagesUpTo(written)...)
				d := dev(c, 6, impl.Fault{At: 6, Kind: impl.FaBad, Keep: keep}, bad(7))
				want := d
				want.Ops, want.C.Blocks = 7, slices.Clone(c.Blocks)
				want.C.Blocks[blk].Bad = true
				calls := []askedDev{devErase(blk)}
				if written < 8 {
					calls = append(calls, devProgram(blk, ""), devProgram(blk, "some bytes"))
				}
				for _, a := range calls {
					e := begunDev(t, d, a, impl.FsNone)
					if toldDev(e) != toldDev(want) {
						t.Errorf("%s: %s, not %s", a, toldDev(e), toldDev(want))
					}
					// From now on nothing is begun there, so that the next fault waits for another block.
					refusedDev(t, e, a, impl.FsNone)
					begunDev(t, e, devErase((blk+2)%4), impl.FsNone)
				}
			}
		}
	}
}

func TestTheMostOperations(t *testing.T) {
	for _, a := range []askedDev{devProgram(1, "x"), devErase(1)} {
		d := dev(impl.ChipNew(3), 99998, bad(100000))
		d = begunDev(t, begunDev(t, d, a, impl.FsGood), a, impl.FsGood)
		if d.Ops != 100000 || !impl.DevOk(d) || d.Down {
			t.Errorf("behind %s: %s", a, toldDev(d))
		}
		for _, d := range []impl.Dev{d, off(d), impl.PowerUp(d), impl.PowerUp(off(d)), dev(impl.ChipNew(3), 100000), dev(impl.ChipNew(3), 100000, torn(99999, 3)), dev(impl.ChipNew(3), 100000, torn(100000, 3))} {
			refusedDev(t, d, devProgram(2, "x"), impl.FsDown)
			refusedDev(t, d, devErase(0), impl.FsDown)
		}
		last := begunDev(t, dev(impl.ChipNew(3), 99999, torn(99999, 0)), a, impl.FsDown)
		if !last.Down || last.Ops != 100000 {
			t.Errorf("behind the last operation: %s", toldDev(last))
		}
		refusedDev(t, impl.PowerUp(last), a, impl.FsDown)
		begunDev(t, dev(impl.ChipNew(3), 99999, bad(99999), bad(100000)), a, impl.FsNone)
	}
}

// TestWhichCodeOfADeviceComesFirst: where several are right at once, the one that the chapter names first counts.
func TestWhichCodeOfADeviceComesFirst(t *testing.T) {
	long, full := strings.Repeat("x", 401), pagesUpTo(8)
	at := func(b impl.Block) impl.Chip { return chip(block(0, false), b, block(0, false)) }
	bare, worn := at(block(0, false)), at(block(100000, true, full...))
	calls := []askedDev{devProgram(1, "x"), devProgram(1, long), devProgram(3, "x"), devErase(1), devErase(-1)}
	for _, c := range []impl.Chip{bare, worn, at(block(100000, false, full...))} {
		for _, a := range calls {
			refusedDev(t, off(dev(c, -1)), a, impl.FsForm)
			refusedDev(t, off(dev(c, 100001)), a, impl.FsForm)
			refusedDev(t, off(dev(c, 100000, bad(2), bad(2))), a, impl.FsForm)
			refusedDev(t, off(dev(impl.Chip{Blocks: c.Blocks[:2]}, 100000)), a, impl.FsForm)
			refusedDev(t, dev(impl.Chip{Blocks: c.Blocks[:2]}, 100000), a, impl.FsForm)
			refusedDev(t, off(dev(c, 0, torn(0, 401))), a, impl.FsForm)
			refusedDev(t, off(dev(c, 0)), a, impl.FsDown)
			refusedDev(t, off(dev(c, 0, bad(0))), a, impl.FsDown)
			refusedDev(t, off(dev(c, 0, torn(0, 4))), a, impl.FsDown)
			refusedDev(t, dev(c, 100000), a, impl.FsDown)
			refusedDev(t, dev(c, 100000, bad(100000)), a, impl.FsDown)
			refusedDev(t, off(dev(c, 100000)), a, impl.FsDown)
		}
	}
	for _, k := range []struct {
		c    impl.Chip
		a    askedDev
		want int
	}{
		{bare, devProgram(1, long), impl.FsForm}, {bare, devProgram(3, "x"), impl.FsForm}, {bare, devErase(3), impl.FsForm}, {bare, devErase(-1), impl.FsForm},
		{worn, devProgram(1, long), impl.FsForm}, {worn, devProgram(-1, "x"), impl.FsForm}, {worn, devProgram(1, "x"), impl.FsNone}, {worn, devErase(1), impl.FsNone},
		{at(block(100000, false, full...)), devProgram(1, "x"), impl.FsFull}, {at(block(100000, false, full...)), devErase(1), impl.FsFull},
		{at(block(0, false, full...)), devProgram(1, ""), impl.FsFull}, {at(block(100000, false)), devErase(1), impl.FsFull},
	} {
		// What the chip refuses is not begun: no fault comes, and the one that was to come still is.
		for _, l := range [][]impl.Fault{nil, {bad(5)}, {torn(5, 0)}, {torn(5, 400)}, {torn(4, 0), bad(6)}} {
			refusedDev(t, dev(k.c, 5, l...), k.a, k.want)
			refusedDev(t, dev(k.c, 99999, l...), k.a, k.want)
			refusedDev(t, dev(k.c, 99999, torn(99999, 9)), k.a, k.want)
		}
	}
	begunDev(t, dev(at(block(0, false, full...)), 5), devErase(1), impl.FsGood)
	begunDev(t, dev(at(block(100000, false)), 5), devProgram(1, "x"), impl.FsGood)
	begunDev(t, dev(at(block(100000, false)), 5, torn(5, 0)), devProgram(1, "x"), impl.FsDown)
	begunDev(t, dev(at(block(99999, false, full...)), 5, torn(5, 8)), devErase(1), impl.FsDown)
}

// TestAFaultWaitsForWhatIsBegun: refused calls do not use it up, however many there are.
func TestAFaultWaitsForWhatIsBegun(t *testing.T) {
	for _, f := range []impl.Fault{bad(1), torn(1, 2)} {
		d := begunDev(t, impl.DevNew(3, []impl.Fault{f}), devProgram(0, "first"), impl.FsGood)
		d.C.Blocks[2].Bad = true
		for range 5 {
			for _, a := range []askedDev{devProgram(-1, "x"), devProgram(0, strings.Repeat("x", 401)), devProgram(2, "x"), devErase(2), devErase(3)} {
				e, code := checkDev(t, d, a)
				if got, ok := impl.FaultAt(e); code == impl.FsGood || got != f || !ok || e.Ops != 1 {
					t.Errorf("%s: the code %d, the fault %v, %d operations", a, code, got, e.Ops)
				}
				d = e
			}
			d = impl.PowerUp(d)
		}
		e := begunDev(t, d, devProgram(0, "second"), map[int]int{1: impl.FsNone, 2: impl.FsDown}[f.Kind])
		if got, ok := impl.FaultAt(e); ok || !slices.Equal(e.Faults, d.Faults) {
			t.Errorf("behind it there is %v, of %s", got, toldFaults(e.Faults))
		}
	}
}

// TestWhatIsOffDoesNothing: until PowerUp, all is as it was, also beside faults that would come.
func TestWhatIsOffDoesNothing(t *testing.T) {
	for i, c := range rightChips() {
		for _, l := range [][]impl.Fault{nil, {bad(i)}, {torn(i, 3)}, {torn(i-1, 3), bad(i + 1)}} {
			d := off(dev(c, i, l...))
			if !impl.DevOk(d) {
				d = off(dev(c, i))
			}
			for _, blk := range []int{math.MinInt, -1, 0, 1, len(c.Blocks) - 1, len(c.Blocks), math.MaxInt} {
				refusedDev(t, d, devProgram(blk, "x"), impl.FsDown)
				refusedDev(t, d, devErase(blk), impl.FsDown)
			}
			refusedDev(t, d, devProgram(0, strings.Repeat("x", 401)), impl.FsDown)
			on, _ := checkDev(t, d, powerUp())
			if d.Down = false; on.Down || toldDev(on) != toldDev(d) {
				t.Errorf("PowerUp answers %s", toldDev(on))
			}
		}
	}
}

func TestBlocksOfADeviceThatAreNotThere(t *testing.T) {
	for n := 3; n <= 24; n++ {
		d := impl.DevNew(n, []impl.Fault{torn(0, 1), bad(1)})
		for _, blk := range append(farNumbers(), n, n+1) {
			refusedDev(t, d, devProgram(blk, "x"), impl.FsForm)
			refusedDev(t, d, devProgram(blk, ""), impl.FsForm)
			refusedDev(t, d, devErase(blk), impl.FsForm)
		}
		for _, blk := range []int{0, n - 1} {
			e := begunDev(t, d, devProgram(blk, "xy"), impl.FsDown)
			begunDev(t, impl.PowerUp(e), devErase(blk), impl.FsNone)
		}
	}
}

// TestPagesOfEveryLengthOfADevice: what is too long is refused whatever Keep leaves of it.
func TestPagesOfEveryLengthOfADevice(t *testing.T) {
	for n := range 410 {
		s := strings.Repeat("\x80\x00p", n)[:n]
		for _, l := range [][]impl.Fault{nil, {torn(0, 0)}, {torn(0, 400)}, {bad(0)}} {
			d := impl.DevNew(3, l)
			if n > 400 {
				refusedDev(t, d, devProgram(1, s), impl.FsForm)
				continue
			}
			e, code := checkDev(t, d, devProgram(1, s))
			if b, ok := impl.ReadPage(e.C, 1, 0); code == impl.FsGood && (string(b) != s || !ok) || e.Ops != 1 {
				t.Errorf("%d bytes: %d are read, %v", n, len(b), ok)
			}
		}
	}
	for _, n := range []int{1000, 1 << 16, 1<<16 + 1, 1 << 22} {
		refusedDev(t, impl.DevNew(3, []impl.Fault{torn(0, 5)}), devProgram(1, strings.Repeat("x", n)), impl.FsForm)
	}
}

// TestPowerUpOfAnything: it is on, and all else is as it was, right or not.
func TestPowerUpOfAnything(t *testing.T) {
	for i, d := range append(rightDevs(), wrongDevs()...) {
		was := toldDev(d)
		want := d
		want.Down = false
		if e := impl.PowerUp(d); toldDev(e) != toldDev(want) || toldDev(d) != was {
			t.Errorf("device %d: PowerUp answers %s, of %s", i, toldDev(e), was)
		}
	}
	if got := toldDev(impl.PowerUp(impl.Dev{Down: true})); got != toldDev(impl.Dev{}) {
		t.Error("PowerUp of what is off and has nothing is", got)
	}
}
