package tests

import (
	"fmt"
	"maps"
	"math/rand/v2"
	"slices"
	"strings"
	"testing"

	"loop.example/g00285/impl"
)

// Promise 13: what is written to a log is read at its address.

// checkWrite holds a Write against the words, and against what it says by its code, and answers what the program answers.
func checkWrite(t *testing.T, l impl.Log, a askedWrite) (impl.Log, int, int) {
	t.Helper()
	was := clonedLog(l)
	want, wantAddr, wantCode := a.ofWords(l)
	e, addr, code := a.of(l)
	if code != wantCode || addr != wantAddr || !sameLog(e, want) {
		t.Fatalf("%s: %d and the code %d, not %d and %d, and %s, not %s, of %s", a, addr, code, wantAddr, wantCode, toldLog(e), toldLog(want), toldLog(was))
	}
	if !sameLog(l, was) {
		t.Fatalf("%s: the argument is now %s, of %s", a, toldLog(l), toldLog(was))
	}
	checkPromiseOfWrite(t, l, e, a, addr, code)
	return e, addr, code
}

// freshAddrs are those whose pages are other in e than in l.
func freshAddrs(l, e impl.Log) []int {
	fresh := []int{}
	for blk, b := range e.D.C.Blocks {
		for page := range b.Pages {
			if !readAsBefore(l.D.C, e.D.C, blk, page) {
				fresh = append(fresh, blk*8+page)
			}
		}
	}
	return fresh
}

// checkPromiseOfWrite asks by what is read alone.
func checkPromiseOfWrite(t *testing.T, l, e impl.Log, a askedWrite, addr, code int) {
	t.Helper()
	fresh, seq := freshAddrs(l, e), l.Seq
	switch {
	case code == impl.FsGood:
		seq++
		r, ok := impl.ReadAt(e, addr, a.kind)
		if !ok || !sameRec(r, a.recOf(l)) {
			t.Fatalf("%s: at %d is read %s, %v", a, addr, toldRec(r), ok)
		}
		if _, ahead := impl.ReadPage(l.D.C, addr/8, addr%8); ahead || !slices.Equal(fresh, []int{addr}) {
			t.Fatalf("%s: the page at %d was written: %v; those at %v are other now", a, addr, ahead, fresh)
		}
	case addr != -1:
		t.Fatalf("%s: the address %d beside the code %d", a, addr, code)
	case code == impl.FsDown && e.D.Down && !l.D.Down:
		seq++
		if len(fresh) != 1 {
			t.Fatalf("%s: the power went, and the pages at %v are other now", a, fresh)
		}
		checkTornPage(t, l, e, a, fresh[0])
	case len(fresh) != 0:
		t.Fatalf("%s: the code %d, and the pages at %v are other now", a, code, fresh)
	}
	if e.Seq != seq || impl.LogOk(e) != impl.LogOk(l) || code == impl.FsForm && !sameLog(l, e) {
		t.Fatalf("%s: the code %d, and %s, of %s", a, code, toldLog(e), toldLog(l))
	}
}

// checkTornPage: there is a record only if all of it was written.
func checkTornPage(t *testing.T, l, e impl.Log, a askedWrite, addr int) {
	t.Helper()
	b, _ := impl.ReadPage(e.D.C, addr/8, addr%8)
	form := recForm(a.recOf(l))
	r, ok := impl.ReadAt(e, addr, a.kind)
	if !strings.HasPrefix(form, string(b)) || ok != (form == string(b)) || ok && !sameRec(r, a.recOf(l)) || !ok && !sameRec(r, impl.Rec{}) {
		t.Fatalf("%s: of the torn page at %d is read %s, %v", a, addr, toldRec(r), ok)
	}
}

// sparesAround are those about as many as there are free blocks, and some that are far.
func sparesAround(l impl.Log) []int {
	n := len(freeByWords(l))
	return append(farNumbers(), 0, 1, 2, n-1, n, n+1, 23, 24, 25)
}

// checkAskedLog holds what is asked of a log against the words.
func checkAskedLog(t *testing.T, l impl.Log) {
	t.Helper()
	if got := impl.FreeBlocks(l); got != len(freeByWords(l)) {
		t.Fatalf("FreeBlocks is %d, not %v, of %s", got, freeByWords(l), toldLog(l))
	}
	for _, spare := range sparesAround(l) {
		if got := impl.OpenBlock(l, spare); got != openByWords(l, spare) {
			t.Fatalf("OpenBlock with %d is %d, not %d, of %s", spare, got, openByWords(l, spare), toldLog(l))
		}
	}
	if got := impl.LogOk(l); got != logByWords(l) {
		t.Fatalf("LogOk is %v of %s", got, toldLog(l))
	}
}

// checkReadAll holds what is read at each address, of each kind, against these records.
func checkReadAll(t *testing.T, l impl.Log, records map[int]impl.Rec) {
	t.Helper()
	for addr := -9; addr < 8*len(l.D.C.Blocks)+9; addr++ {
		for kind := 0; kind <= 5; kind++ {
			want, there := records[addr]
			if there = there && want.Kind == kind; !there {
				want = impl.Rec{}
			}
			if r, ok := impl.ReadAt(l, addr, kind); ok != there || !sameRec(r, want) {
				t.Fatalf("at %d, of the kind %d, is read %s, %v, not %s", addr, kind, toldRec(r), ok, toldRec(want))
			}
		}
	}
}

// logStory is what was written to a log, by the addresses that were answered.
type logStory map[int]impl.Rec

func (s logStory) goesOn(t *testing.T, l impl.Log, a askedWrite, addr, code int) {
	t.Helper()
	if _, there := s[addr]; there {
		t.Fatalf("%s: the address %d is answered once more", a, addr)
	}
	if code == impl.FsGood {
		s[addr] = a.recOf(l)
	}
}

// check reads all that was ever written with FsGood.
func (s logStory) check(t *testing.T, l impl.Log) {
	t.Helper()
	for addr, want := range s {
		if r, ok := impl.ReadAt(l, addr, want.Kind); !ok || !sameRec(r, want) {
			t.Fatalf("at %d is read %s, %v, not %s", addr, toldRec(r), ok, toldRec(want))
		}
	}
}

// anyWrite is mostly one that is right, with a small spare.
func anyWrite(r *rand.Rand) askedWrite {
	kind, n := 1+r.IntN(4), []int{0, 1, 2, 5, 127, 128, 379, 380, r.IntN(40), r.IntN(40), r.IntN(381)}[r.IntN(11)]
	if r.IntN(40) == 0 {
		kind = []int{0, 5, -1, 256 + 1}[r.IntN(4)]
	}
	if r.IntN(40) == 0 {
		n = []int{381, 382, 400, 5000}[r.IntN(4)]
	}
	return askedWrite{kind, anyBytes(r, n), []int{0, 0, 0, 0, 0, 1, 1, 2, 3, -1}[r.IntN(10)]}
}

// howWritten tells the end of a Write, for counting.
func howWritten(l, e impl.Log, code int) string {
	end := map[int]string{impl.FsGood: "good", impl.FsForm: "form", impl.FsSpace: "space", impl.FsDown: "down"}[code]
	if code == impl.FsDown && e.D.Down && !l.D.Down {
		end = "torn"
	}
	if tried := e.D.Ops - l.D.Ops; tried > 1 || tried == 1 && (code == impl.FsSpace || end == "down") {
		end += ", again"
	}
	return end
}

// startsOfLogs are logs of n blocks: without faults, with faults that come soon, with few operations or numbers left, and with blocks that are partly written, full, or bad.
func startsOfLogs(r *rand.Rand, n int) []impl.Log {
	l := []impl.Log{newLog(n), newLog(n, anyFaults(r, 0)...), newLog(n, anyFaults(r, r.IntN(60))...)}
	l = append(l, logOf(dev(impl.ChipNew(n), 99980, anyFaults(r, 99980)...), r.IntN(1000)), logOf(impl.DevNew(n, nil), 999990))
	return append(l, logOf(dev(impl.ChipNew(n), 99995, bad(99999)), 0), logOf(dev(startOfChipRun(n), 0, anyFaults(r, 0)...), 5))
}

// runLog writes to a log until there is no room any more, or it has refused for long, and answers it.
func runLog(t *testing.T, r *rand.Rand, l impl.Log, met map[string]int) {
	t.Helper()
	story := logStory{}
	for refused := 0; refused < 12; {
		a := anyWrite(r)
		e, addr, code := checkWrite(t, l, a)
		met[howWritten(l, e, code)]++
		story.goesOn(t, l, a, addr, code)
		story.check(t, e)
		checkAskedLog(t, e)
		if refused++; code == impl.FsGood {
			refused = 0
		}
		if l = e; l.D.Down && r.IntN(3) > 0 {
			l = poweredUp(l)
		}
	}
	checkReadAll(t, l, recordsByWords(l))
}

func TestLongRunsOfLogs(t *testing.T) {
	met := map[string]int{}
	for n := 3; n <= 24; n++ {
		r := rand.New(rand.NewPCG(13, uint64(n)))
		for _, l := range startsOfLogs(r, n) {
			runLog(t, r, l, met)
		}
	}
	ends := []string{"down", "down, again", "form", "good", "good, again", "space", "space, again", "torn", "torn, again"}
	if got := slices.Sorted(maps.Keys(met)); !slices.Equal(got, ends) {
		t.Errorf("Write ends as %q", got)
	}
	t.Log(met)
}

func smallWrites() []askedWrite {
	return []askedWrite{{1, "a", 0}, {4, "", 1}, {2, "bc", 2}, {0, "a", 0}, {1, "a", -1}, {3, strings.Repeat("x", 381), 0}}
}

// everyLog goes through all logs that few calls make of one, the power that comes among them.
func everyLog(t *testing.T, start impl.Log) {
	t.Helper()
	power := askedWrite{}
	everyState(t, start, toldLog, 4, append(smallWrites(), power), func(l impl.Log, a askedWrite) impl.Log {
		if a == power {
			return poweredUp(l)
		}
		e, _, _ := checkWrite(t, l, a)
		checkAskedLog(t, e)
		return e
	})
}

// TestEveryShortRunOfALog: of a new one and of some that are nearly full, with faults of each kind at each of the first operations, and with few operations or numbers left.
func TestEveryShortRunOfALog(t *testing.T) {
	full := slices.Repeat([]string{"full"}, 8)
	chips := []impl.Chip{impl.ChipNew(3), chip(block(0, false, full[:7]...), block(0, true, full[:3]...), block(0, false)), chip(block(0, false, full...), block(0, false, full[:6]...), block(0, false, full[:7]...))}
	for _, c := range chips {
		for _, faults := range [][]impl.Fault{
			nil, {bad(0)}, {torn(0, 1)}, {torn(1, 0), bad(2)}, {bad(1), torn(2, 400)}, {torn(0, 8), torn(1, 7), torn(2, 2)}, {bad(0), bad(1), torn(2, 400), bad(3)}, {bad(0), bad(1), bad(2)},
		} {
			everyLog(t, logOf(dev(c, 0, faults...), 0))
			everyLog(t, logOf(dev(c, 0, faults...), 999997))
		}
		for _, faults := range [][]impl.Fault{nil, {bad(99999)}, {torn(99999, 400)}, {bad(99998), bad(99999)}, {torn(99998, 3), bad(99999), bad(100000)}} {
			everyLog(t, logOf(dev(c, 99998, faults...), 7))
		}
	}
}

// TestALogIsFilledFromTheFirstPageOn: without faults, the addresses are all that there are, in turn.
func TestALogIsFilledFromTheFirstPageOn(t *testing.T) {
	for n := 3; n <= 24; n++ {
		for _, spare := range []int{0, 1, 2, n - 1} {
			l, room := newLog(n), 8*(n-spare)
			for i := range room {
				e, addr, code := checkWrite(t, l, askedWrite{1 + i%4, fmt.Sprint("body ", i), spare})
				if code != impl.FsGood || addr != i || e.Seq != i+1 || e.D.Ops != i+1 {
					t.Fatalf("%d blocks, spare %d: the record %d is at %d, the code %d, Seq %d", n, spare, i, addr, code, e.Seq)
				}
				l = e
			}
			refusedWrite(t, l, askedWrite{1, "one more", spare}, impl.FsSpace)
			for addr := range room {
				r, ok := impl.ReadAt(l, addr, 1+addr%4)
				if !ok || r.Seq != addr || string(r.Body) != fmt.Sprint("body ", addr) || r.Kind != 1+addr%4 {
					t.Fatalf("%d blocks: at %d is read %s, %v", n, addr, toldRec(r), ok)
				}
			}
			if impl.FreeBlocks(l) != spare || impl.OpenBlock(l, spare) != -1 || impl.OpenBlock(l, spare-1) != map[bool]int{true: n - spare, false: -1}[spare > 0] {
				t.Errorf("%d blocks, spare %d: %d are free, and open is %d", n, spare, impl.FreeBlocks(l), impl.OpenBlock(l, spare-1))
			}
		}
	}
}

// TestRecordsOfEveryLengthInALog: bodies of each length, and of each kind, one behind the other.
func TestRecordsOfEveryLengthInALog(t *testing.T) {
	r := rand.New(rand.NewPCG(13, 100))
	l, story := newLog(3), logStory{}
	for n := range 381 {
		a := askedWrite{1 + n%4, anyBytes(r, n), 0}
		e, addr, code := checkWrite(t, l, a)
		if code != impl.FsGood {
			t.Fatalf("%s: the code %d", a, code)
		}
		story.goesOn(t, l, a, addr, code)
		story.check(t, e)
		if l = e; addr == 23 {
			l, story = logOf(impl.DevNew(3, nil), l.Seq), logStory{}
		}
	}
}

// TestRecordsOfManyNumbersInALog: those at which a number's form is longer, and those next to them.
func TestRecordsOfManyNumbersInALog(t *testing.T) {
	for _, seq := range recSeqs() {
		if seq == impl.MaxNum {
			continue
		}
		for kind := 1; kind <= 4; kind++ {
			e, addr, code := checkWrite(t, logOf(impl.DevNew(3, nil), seq), askedWrite{kind, strings.Repeat("x", 380), 0})
			if r, ok := impl.ReadAt(e, addr, kind); code != impl.FsGood || !ok || r.Seq != seq || len(r.Body) != 380 || e.Seq != seq+1 {
				t.Errorf("the number %d: the code %d, read %s, %v", seq, code, toldRec(r), ok)
			}
		}
	}
}
