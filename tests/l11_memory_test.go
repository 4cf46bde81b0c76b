package tests

import (
	"bytes"
	"fmt"
	"slices"
	"strings"
	"testing"

	"loop.example/g00285/impl"
)

// roomyFaults answers a list of faults within a longer one, and all of that. What lies behind would come at each operation up to 40.
func roomyFaults(l []impl.Fault) ([]impl.Fault, []impl.Fault) {
	whole := slices.Clone(l)
	for at := range 40 {
		whole = append(whole, torn(at, 1), torn(99990+at, 1), bad(at))
	}
	return whole[:len(l)], whole
}

// roomyDev is a device all of whose lists lie within longer ones, and all of that memory.
type roomyDev struct {
	roomyChip
	in     impl.Dev
	faults []impl.Fault
}

func roomOfDev(d impl.Dev) roomyDev {
	r := roomyDev{roomyChip: roomOf(d.C)}
	r.in, r.in.C = d, r.roomyChip.in
	r.in.Faults, r.faults = roomyFaults(d.Faults)
	return r
}

func (r roomyDev) told() string {
	return fmt.Sprint(r.in.Ops, r.in.Down, len(r.in.Faults), toldFaults(r.faults), r.roomyChip.told())
}

func (r roomyDev) overwrite() {
	clear(r.faults)
	r.roomyChip.overwrite()
}

func overwriteDev(d impl.Dev) {
	overwriteChip(d.C)
	clear(d.Faults[:cap(d.Faults)])
}

// memoryDevs are devices with faults of each kind to come, with none, off, with no operation left, and some that are not right.
func memoryDevs() []impl.Dev {
	l := []impl.Dev{}
	for i, c := range memoryChips() {
		l = append(l, dev(c, 4, bad(1), torn(4, 3), bad(6)), dev(c, 4, torn(2, 3), bad(4)))
		l = append(l, []impl.Dev{dev(c, 4), off(dev(c, 4, torn(4, 3))), dev(c, 100000, manyFaults(20)...), dev(c, 4, bad(4), bad(4)), dev(c, -4, manyFaults(21)...)}[i%5])
	}
	return l
}

// memoryDevCalls are calls that some devices take, and some that none takes.
func memoryDevCalls() []askedDev {
	return []askedDev{
		powerUp(), devProgram(0, "some bytes"), devProgram(0, ""), devProgram(2, strings.Repeat("x", 400)), devErase(0), devErase(2),
		devProgram(1, "x"), devProgram(3, strings.Repeat("x", 401)), devProgram(-1, "x"), devErase(24),
	}
}

// roomyText answers bytes within longer ones, and all of these.
func roomyText(s string) ([]byte, []byte) { return roomyBytes(askProgram(0, s)) }

func TestDeviceCallsReadAndWriteNoSpareRoom(t *testing.T) {
	for i, d := range memoryDevs() {
		r := roomOfDev(d)
		kept := r.told()
		f, ok := impl.FaultAt(r.in)
		if want, wanted := impl.FaultAt(d); f != want || ok != wanted || impl.DevOk(r.in) != impl.DevOk(d) {
			t.Errorf("device %d: what lies behind its lists counts: %v, %v", i, f, ok)
		}
		for _, a := range memoryDevCalls() {
			b, whole := roomyText(a.b)
			keptBytes := string(whole)
			got, code := a.ofBytes(r.in, b)
			if want, wantCode := a.of(d); toldDev(got) != toldDev(want) || code != wantCode {
				t.Errorf("device %d: %s reads what lies behind: %d, %s", i, a, code, toldDev(got))
			}
			if string(whole) != keptBytes {
				t.Fatalf("device %d: %s: its bytes, or what lies behind them, were written", i, a)
			}
			if r.told() != kept {
				t.Fatalf("device %d: %s: an argument, or what lies behind it, was written", i, a)
			}
		}
	}
}

func TestDeviceCallsAnswerNewMemory(t *testing.T) {
	for i, d := range memoryDevs() {
		for _, a := range memoryDevCalls() {
			r := roomOfDev(d)
			b, whole := roomyText(a.b)
			kept, keptBytes := r.told(), string(whole)
			first, _ := a.ofBytes(r.in, b)
			second, _ := a.ofBytes(r.in, b)
			want := toldDev(second)
			overwriteDev(first)
			if r.told() != kept || string(whole) != keptBytes {
				t.Errorf("device %d: %s: the answer shares memory with an argument", i, a)
			}
			if third, _ := a.ofBytes(r.in, b); toldDev(second) != want || toldDev(third) != want {
				t.Errorf("device %d: %s: two answers share memory", i, a)
			}
			r.overwrite()
			clear(whole)
			if toldDev(second) != want {
				t.Errorf("device %d: %s: the answer turns with an argument", i, a)
			}
		}
	}
}

func TestNewDevicesAreNewMemory(t *testing.T) {
	for _, n := range []int{2, 3, 24} {
		for _, l := range append(rightFaults(), manyFaults(21), []impl.Fault{bad(3), bad(3)}) {
			in, whole := roomyFaults(l)
			kept := toldFaults(whole)
			first, second := impl.DevNew(n, in), impl.DevNew(n, in)
			want := toldDev(second)
			if want != toldDev(devNewByWords(n, l)) {
				t.Errorf("DevNew reads what lies behind its list: %s", want)
			}
			overwriteDev(first)
			if toldFaults(whole) != kept || toldDev(second) != want {
				t.Errorf("a new device shares memory with the list that it is of, or with another one: %s", want)
			}
			_ = append(second.Faults, bad(77))
			if toldFaults(whole) != kept {
				t.Error("what is put behind a new device's faults is in the list that it is of")
			}
			clear(whole)
			if toldDev(second) != want || toldDev(impl.DevNew(n, l)) != want {
				t.Errorf("a new device turns with the list that it is of: %s", want)
			}
		}
	}
}

// TestWhatIsNotKeptIsNotHandedOut: behind what is kept of a torn page there is nothing of the rest, and behind a torn erase nothing of what was there.
func TestWhatIsNotKeptIsNotHandedOut(t *testing.T) {
	for keep := range 30 {
		e := begunDev(t, impl.DevNew(3, []impl.Fault{torn(0, keep)}), devProgram(1, "0123456789abcdefghijSECRETsecret"), impl.FsDown)
		for _, p := range e.C.Blocks[1].Pages {
			if behind := p.B[len(p.B):cap(p.B)]; bytes.ContainsAny(behind, "0123456789abcdefghijSECRETsecret") {
				t.Errorf("behind %d bytes there is still %q", keep, behind)
			}
		}
		c := chip(block(0, false), block(0, false, slices.Repeat([]string{"secret"}, 8)...), block(0, false))
		e = begunDev(t, dev(c, 0, torn(0, keep)), devErase(1), impl.FsDown)
		for _, p := range e.C.Blocks[1].Pages[:cap(e.C.Blocks[1].Pages)] {
			if bytes.Contains(p.B[:cap(p.B)], []byte("secret")) {
				t.Errorf("of what was erased there is still %s", toldPage(p))
			}
		}
	}
}

func TestListsOfOneDeviceShareNone(t *testing.T) {
	for _, c := range sharingChips() {
		own := c.Blocks[0].Pages[0].B
		for _, l := range [][]impl.Fault{nil, {bad(0)}, {torn(0, 3)}, {torn(0, 400)}} {
			for _, a := range memoryDevCalls() {
				checkBlocksShareNone(t, a.String(), func() impl.Chip {
					e, _ := a.of(dev(c, 0, l...))
					return e.C
				})
			}
			// What is programmed may be bytes of the device itself.
			checkBlocksShareNone(t, "DevProgram of a page's own bytes", func() impl.Chip {
				e, _ := impl.DevProgram(dev(c, 0, l...), 1, own)
				return e.C
			})
		}
	}
	checkBlocksShareNone(t, "DevNew", func() impl.Chip { return impl.DevNew(5, manyFaults(3)).C })
}

// TestTheSpareRoomOfADeviceIsItsOwn: what is put behind a list of an answer is not to be seen in another one, nor in an argument.
func TestTheSpareRoomOfADeviceIsItsOwn(t *testing.T) {
	for _, d := range memoryDevs() {
		r := roomOfDev(d)
		kept := r.told()
		for _, a := range memoryDevCalls() {
			e, _ := a.of(r.in)
			want := toldDev(e)
			for _, b := range e.C.Blocks {
				_ = append(b.Pages, impl.Page{Used: true, B: []byte("behind")})
				for _, p := range b.Pages {
					_ = append(p.B, "behind"...)
				}
			}
			_ = append(e.C.Blocks, block(9, true, "behind"))
			_ = append(e.Faults, torn(99, 9))
			if toldDev(e) != want || r.told() != kept {
				t.Errorf("%s: what is put behind one list is in another", a)
			}
		}
	}
}

func TestDevicesKeepNothing(t *testing.T) {
	wants := map[string]string{}
	for range 3 {
		for i, d := range memoryDevs() {
			for _, a := range memoryDevCalls() {
				e, code := a.of(d)
				f, ok := impl.FaultAt(d)
				s := fmt.Sprint(toldDev(e), code, f, ok, impl.DevOk(d), toldDev(impl.DevNew(3, d.Faults)))
				key := fmt.Sprint(i, a)
				if want, was := wants[key]; was && s != want {
					t.Errorf("device %d: %s hangs on the calls ahead: %s, not %s", i, a, s, want)
				}
				wants[key] = s
			}
		}
	}
}

// TestVeryLargeDevices: however much is handed in, it is answered.
func TestVeryLargeDevices(t *testing.T) {
	many := dev(chip(slices.Repeat([]impl.Block{block(1, false, "a")}, 5000)...), 0)
	long := dev(chip(block(0, false), block(0, false, slices.Repeat([]string{"p"}, 5000)...), block(0, false, strings.Repeat("x", 1<<20))), 0)
	faults := dev(impl.ChipNew(3), 3*99999, manyFaults(100000)...)
	for _, d := range []impl.Dev{many, long, faults} {
		if impl.DevOk(d) {
			t.Error("so much is a device")
		}
		refusedDev(t, d, devProgram(1, "x"), impl.FsForm)
		refusedDev(t, off(d), devProgram(1, strings.Repeat("x", 1<<20)), impl.FsForm)
		refusedDev(t, d, devErase(4999), impl.FsForm)
		checkDev(t, off(d), powerUp())
	}
	if f, ok := impl.FaultAt(faults); f != faults.Faults[99999] || !ok {
		t.Error("a fault that is far behind is", f, ok)
	}
	if d := impl.DevNew(3, faults.Faults); toldDev(d) != toldDev(impl.Dev{}) {
		t.Error("a device of 100000 faults is new")
	}
}
