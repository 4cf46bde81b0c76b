package tests

import (
	"bytes"
	"fmt"
	"slices"
	"strings"
	"testing"

	"loop.example/g00285/impl"
)

// roomyLog is a log all of whose lists lie within longer ones, and all of that memory.
type roomyLog struct {
	roomyDev
	in impl.Log
}

func roomOfLog(l impl.Log) roomyLog {
	r := roomyLog{roomyDev: roomOfDev(l.D)}
	r.in = logOf(r.roomyDev.in, l.Seq)
	return r
}

func (r roomyLog) told() string { return fmt.Sprint(r.in.Seq, r.roomyDev.told()) }

// recordChip has blocks with records, begun, full, bad, and free.
func recordChip() impl.Chip {
	return chip(block(0, false, records(0, 8)...), block(3, true, records(8, 4)...), block(1, false, records(12, 3)...), block(0, false), block(2, true), block(0, false))
}

// memoryLogs are logs with faults of each kind to come, with none, off, with no operation, no number or no room left, and some that are not right.
func memoryLogs() []impl.Log {
	l := []impl.Log{}
	for _, d := range []impl.Dev{
		dev(recordChip(), 4), dev(recordChip(), 4, bad(4)), dev(recordChip(), 4, bad(4), bad(5), bad(6)), dev(recordChip(), 4, torn(4, 5)), dev(recordChip(), 4, bad(4), torn(5, 400)),
		off(dev(recordChip(), 4, bad(1), torn(4, 3))), dev(recordChip(), 100000, manyFaults(20)...), dev(chip(recordChip().Blocks[:2]...), 4), dev(chip(recordChip().Blocks[0], recordChip().Blocks[1], recordChip().Blocks[4]), 4, bad(4)),
	} {
		l = append(l, logOf(d, 20), logOf(d, 1000000))
	}
	for i, d := range memoryDevs() {
		if i%3 == 0 {
			l = append(l, logOf(d, 20))
		}
	}
	return l
}

// memoryWrites are calls that some logs take, and some that none takes.
func memoryWrites() []askedWrite {
	return []askedWrite{{1, "some bytes", 0}, {4, "", 1}, {2, strings.Repeat("x", 380), 0}, {3, "spare", 2}, {1, "spare", 9}, {0, "x", 0}, {1, strings.Repeat("x", 381), 0}}
}

// askedOfLog tells all that is asked of a log.
func askedOfLog(l impl.Log) string {
	s := &strings.Builder{}
	fmt.Fprint(s, impl.FreeBlocks(l), impl.LogOk(l))
	for spare := -1; spare < 4; spare++ {
		fmt.Fprint(s, " ", impl.OpenBlock(l, spare))
	}
	for addr := -1; addr < 8*len(l.D.C.Blocks)+9; addr++ {
		for kind := 1; kind <= 4; kind++ {
			r, ok := impl.ReadAt(l, addr, kind)
			fmt.Fprint(s, toldRec(r), ok)
		}
	}
	return s.String()
}

func TestLogCallsReadAndWriteNoSpareRoom(t *testing.T) {
	for i, l := range memoryLogs() {
		r := roomOfLog(l)
		kept := r.told()
		if askedOfLog(r.in) != askedOfLog(l) {
			t.Errorf("log %d: what lies behind its lists counts", i)
		}
		if r.told() != kept {
			t.Fatalf("log %d: an argument, or what lies behind it, was written by a call that asks", i)
		}
		for _, a := range memoryWrites() {
			b, whole := roomyText(a.body)
			keptBytes := string(whole)
			got, addr, code := a.ofBytes(r.in, b)
			if want, wantAddr, wantCode := a.of(l); !sameLog(got, want) || addr != wantAddr || code != wantCode {
				t.Errorf("log %d: %s reads what lies behind: %d, %d, %s", i, a, addr, code, toldLog(got))
			}
			if string(whole) != keptBytes {
				t.Fatalf("log %d: %s: its body, or what lies behind it, was written", i, a)
			}
			if r.told() != kept {
				t.Fatalf("log %d: %s: an argument, or what lies behind it, was written", i, a)
			}
		}
	}
}

func TestWriteAnswersNewMemory(t *testing.T) {
	for i, l := range memoryLogs() {
		for _, a := range memoryWrites() {
			r := roomOfLog(l)
			b, whole := roomyText(a.body)
			kept, keptBytes := r.told(), string(whole)
			first, _, _ := a.ofBytes(r.in, b)
			second, _, _ := a.ofBytes(r.in, b)
			want := clonedLog(second)
			overwriteDev(first.D)
			if r.told() != kept || string(whole) != keptBytes {
				t.Errorf("log %d: %s: the answer shares memory with an argument", i, a)
			}
			if third, _, _ := a.ofBytes(r.in, b); !sameLog(second, want) || !sameLog(third, want) {
				t.Errorf("log %d: %s: two answers share memory", i, a)
			}
			r.overwrite()
			clear(whole)
			if !sameLog(second, want) {
				t.Errorf("log %d: %s: the answer turns with an argument", i, a)
			}
		}
	}
}

func TestReadAtAnswersNewMemory(t *testing.T) {
	for i, l := range memoryLogs() {
		r := roomOfLog(l)
		kept := r.told()
		for addr, want := range recordsByWords(l) {
			first, _ := impl.ReadAt(r.in, addr, want.Kind)
			second, ok := impl.ReadAt(r.in, addr, want.Kind)
			if !ok || !sameRec(second, want) {
				t.Fatalf("log %d: at %d is read %s, %v", i, addr, toldRec(second), ok)
			}
			if behind := second.Body[len(second.Body):cap(second.Body)]; slices.ContainsFunc(behind, func(c byte) bool { return c != 0 }) {
				t.Errorf("log %d: %x, behind the body, is handed out", i, behind)
			}
			clear(first.Body[:cap(first.Body)])
			if r.told() != kept || !sameRec(second, want) {
				t.Errorf("log %d: what is read at %d shares memory with the log, or with another answer", i, addr)
			}
			other := roomOfLog(l)
			third, _ := impl.ReadAt(other.in, addr, want.Kind)
			other.overwrite()
			if !sameRec(third, want) {
				t.Errorf("log %d: what was read at %d turns with the log", i, addr)
			}
		}
	}
}

func TestListsOfOneLogShareNone(t *testing.T) {
	for _, c := range append(sharingChips(), recordChip()) {
		own := c.Blocks[0].Pages[0].B
		for _, faults := range [][]impl.Fault{nil, {bad(0)}, {torn(0, 3)}, {bad(0), bad(1), torn(2, 400)}} {
			for _, a := range memoryWrites() {
				checkBlocksShareNone(t, a.String(), func() impl.Chip {
					e, _, _ := a.of(logOf(dev(c, 0, faults...), 20))
					return e.D.C
				})
			}
			// What is written may be bytes of the log itself.
			checkBlocksShareNone(t, "Write of a page's own bytes", func() impl.Chip {
				e, _, _ := impl.Write(logOf(dev(c, 0, faults...), 20), 1, own, 0)
				return e.D.C
			})
		}
	}
}

// TestTheSpareRoomOfALogIsItsOwn: what is put behind a list of an answer is not to be seen in another one, nor in an argument.
func TestTheSpareRoomOfALogIsItsOwn(t *testing.T) {
	for _, l := range memoryLogs() {
		r := roomOfLog(l)
		kept := r.told()
		for _, a := range memoryWrites() {
			e, _, _ := a.of(r.in)
			want := clonedLog(e)
			for _, b := range e.D.C.Blocks {
				_ = append(b.Pages, impl.Page{Used: true, B: []byte("behind")})
				for _, p := range b.Pages {
					_ = append(p.B, "behind"...)
				}
			}
			_ = append(e.D.C.Blocks, block(9, true, "behind"))
			_ = append(e.D.Faults, torn(99, 9))
			if !sameLog(e, want) || r.told() != kept {
				t.Errorf("%s: what is put behind one list is in another", a)
			}
		}
	}
}

// TestWhatIsNotKeptOfARecordIsNotHandedOut: behind what is kept of a torn page there is nothing of the rest.
func TestWhatIsNotKeptOfARecordIsNotHandedOut(t *testing.T) {
	for keep := range 40 {
		e, _, code := impl.Write(newLog(3, torn(0, keep)), 1, []byte(strings.Repeat("secret", 20)), 0)
		if code != impl.FsDown {
			t.Fatal("the code", code)
		}
		for _, p := range e.D.C.Blocks[0].Pages {
			if behind := p.B[len(p.B):cap(p.B)]; bytes.ContainsAny(behind, "secret") {
				t.Errorf("behind %d bytes there is still %q", keep, behind)
			}
		}
	}
}

func TestLogsKeepNothing(t *testing.T) {
	wants := map[string]string{}
	for range 3 {
		for i, l := range memoryLogs() {
			for _, a := range memoryWrites() {
				e, addr, code := a.of(l)
				s := fmt.Sprint(toldLog(e), addr, code, impl.FreeBlocks(l), impl.OpenBlock(l, a.spare), impl.LogOk(l))
				key := fmt.Sprint(i, a)
				if want, was := wants[key]; was && s != want {
					t.Errorf("log %d: %s hangs on the calls ahead: %s, not %s", i, a, s, want)
				}
				wants[key] = s
			}
		}
	}
}

// TestVeryLargeLogs: however much is handed in, it is answered.
func TestVeryLargeLogs(t *testing.T) {
	full := block(1, false, records(0, 8)...)
	many := logOf(dev(chip(append(slices.Repeat([]impl.Block{full}, 5000), block(0, false), block(0, false, record(4, 9)))...), 0), 10)
	long := logOf(dev(chip(block(0, false), block(0, false, slices.Repeat([]string{record(1, 1)}, 5000)...), block(0, false, strings.Repeat("x", 1<<20))), 0), 10)
	for _, l := range []impl.Log{many, long} {
		if impl.LogOk(l) {
			t.Error("so much is a log")
		}
		refusedWrite(t, l, askedWrite{1, "x", 0}, impl.FsForm)
		refusedWrite(t, logOf(off(l.D), 10), askedWrite{1, strings.Repeat("x", 1<<20), 0}, impl.FsForm)
	}
	if impl.FreeBlocks(many) != 1 || impl.OpenBlock(many, 0) != 5001 || impl.FreeBlocks(long) != 1 || impl.OpenBlock(long, 0) != 2 {
		t.Error("of many blocks", impl.FreeBlocks(many), impl.FreeBlocks(long), "are free, and open is", impl.OpenBlock(many, 0), impl.OpenBlock(long, 0))
	}
	if r, ok := impl.ReadAt(many, 8*5001, 4); !ok || r.Seq != 9 {
		t.Error("a record that is far behind is", toldRec(r), ok)
	}
	refusedWrite(t, newLog(3), askedWrite{1, strings.Repeat("x", 5000000), 0}, impl.FsForm)
}
