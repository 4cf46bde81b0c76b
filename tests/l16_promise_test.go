package tests

import (
	"bytes"
	"fmt"
	"maps"
	"math"
	"math/rand/v2"
	"slices"
	"strings"
	"testing"

	"loop.example/g00285/impl"
)

// Promise 16: what fails leaves what was saved.

// checkSave holds a Save against the words, and against what it says by its code, and answers what the program answers.
func checkSave(t *testing.T, l impl.Log, m impl.Image, a askedSave) (impl.Log, impl.Image, int) {
	t.Helper()
	was, wasImage, wasFs := clonedLog(l), toldImage(m), toldFs(a.f)
	want, wantImage, wantCode := a.ofWords(l, m)
	e, n, code := a.of(l, m)
	if code != wantCode || !sameLog(e, want) || !sameImage(n, wantImage) {
		t.Fatalf("%s: the code %d, not %d, and %s, not %s, and %s, not %s, of %s and %s", a, code, wantCode, toldImage(n), toldImage(wantImage), toldLog(e), toldLog(want), wasImage, toldLog(was))
	}
	if !sameLog(l, was) || toldImage(m) != wasImage || toldFs(a.f) != wasFs {
		t.Fatalf("%s: an argument is other now: %s, %s", a, toldLog(l), toldImage(m))
	}
	checkPromiseOfSave(t, l, e, m, n, a, code)
	return e, n, code
}

// checkPromiseOfSave asks by what is read alone: what was saved is there whatever the code is, and what is saved now beside FsGood.
func checkPromiseOfSave(t *testing.T, l, e impl.Log, m, n impl.Image, a askedSave, code int) {
	t.Helper()
	if impl.LogOk(e) != impl.LogOk(l) || impl.ImageOk(e, m) != impl.ImageOk(l, m) {
		t.Fatalf("%s: the code %d, and what was saved is right no more: %s", a, code, toldImage(m))
	}
	if impl.ImageOk(l, m) {
		checkReadBack(t, e, m)
	}
	for _, addr := range freshAddrs(l, e) {
		if _, was := impl.ReadPage(l.D.C, addr/8, addr%8); was {
			t.Fatalf("%s: the page at %d was written over", a, addr)
		}
	}
	switch {
	case code != impl.FsGood && !sameImage(m, n):
		t.Fatalf("%s: beside the code %d the image is %s", a, code, toldImage(n))
	case code == impl.FsForm && e.Seq == l.Seq && !sameLog(e, l):
		t.Fatalf("%s: the log is %s", a, toldLog(e))
	case code == impl.FsGood:
		if !impl.ImageOk(e, n) || !impl.SameFs(n.F, a.f) {
			t.Fatalf("%s: the image %s", a, toldImage(n))
		}
		checkReadBack(t, e, n)
		checkNothingTwice(t, l, e, m, a)
	}
}

// wantRec reads a record, and asks for its body by what reads that.
func wantRec[T any](t *testing.T, l impl.Log, addr, kind int, get func([]byte) (T, bool), told func(T) string, want T) {
	t.Helper()
	r, ok := impl.ReadAt(l, addr, kind)
	x, whole := get(r.Body)
	if !ok || !whole || told(x) != told(want) {
		t.Fatalf("at %d, of the kind %d, is %s, %v, %v, not %s", addr, kind, told(x), ok, whole, told(want))
	}
}

// checkReadBack gets an image back of its root alone, part by part.
func checkReadBack(t *testing.T, l impl.Log, m impl.Image) {
	t.Helper()
	if m.Root == -1 && m.At == -1 {
		return
	}
	number := func(b []byte) (int, bool) {
		n, next, ok := impl.GetNum(b, 0)
		return n, ok && next == len(b)
	}
	wantRec(t, l, m.Root, impl.RecRoot, number, func(n int) string { return fmt.Sprint(n) }, m.At)
	wantRec(t, l, m.At, impl.RecTable, impl.GetTable, toldTable, m.T)
	for i, r := range m.T.Rows {
		wantRec(t, l, r.Map, impl.RecMap, impl.GetMap, toldMap, m.Maps[i])
		for _, x := range m.F.Vols[i].T.Inodes {
			wantRec(t, l, impl.AddrOf(m.Maps[i], x.Ino), impl.RecNode, impl.GetInode, told, x)
		}
	}
}

// checkNothingTwice: no inode and no map is written that was saved, or written, already, but in the block that is avoided.
func checkNothingTwice(t *testing.T, l, e impl.Log, m impl.Image, a askedSave) {
	t.Helper()
	there := map[string]int{}
	for i, v := range m.F.Vols {
		for k, x := range v.T.Inodes {
			if addr := m.Maps[i].Places[k].Addr; addr/8 != a.avoid {
				there["n"+formOf(x)] = addr
			}
		}
		if addr := m.T.Rows[i].Map; addr/8 != a.avoid {
			there["m"+mapForm(m.Maps[i])] = addr
		}
	}
	records := recordsByWords(e)
	for _, addr := range freshInOrder(l, e) {
		r := records[addr]
		if r.Kind > impl.RecMap {
			continue
		}
		key := " nm"[r.Kind:r.Kind+1] + string(r.Body)
		if was, again := there[key]; again {
			t.Fatalf("%s: what is at %d is written once more at %d", a, was, addr)
		}
		if addr/8 != a.avoid {
			there[key] = addr
		}
	}
}

// freshInOrder are the addresses of the records that are in e and not in l, by their numbers.
func freshInOrder(l, e impl.Log) []int {
	records := recordsByWords(e)
	fresh := slices.DeleteFunc(freshAddrs(l, e), func(addr int) bool {
		_, is := records[addr]
		return !is
	})
	slices.SortFunc(fresh, func(a, b int) int { return records[a].Seq - records[b].Seq })
	return fresh
}

// freshKinds tells the records that are in e and not in l by a letter each: inodes, maps, tables, roots.
func freshKinds(l, e impl.Log) string {
	s, records := "", recordsByWords(e)
	for _, addr := range freshInOrder(l, e) {
		s += " nmtr"[records[addr].Kind : records[addr].Kind+1]
	}
	return s
}

// mustSave asks for FsGood.
func mustSave(t *testing.T, l impl.Log, m impl.Image, a askedSave) (impl.Log, impl.Image) {
	t.Helper()
	e, n, code := checkSave(t, l, m, a)
	if code != impl.FsGood {
		t.Fatalf("%s: the code %d, of %s", a, code, toldLog(l))
	}
	return e, n
}

// savedOn is a file system that is saved on a new log of n blocks.
func savedOn(t *testing.T, n int, f impl.Fs) (impl.Log, impl.Image) {
	t.Helper()
	return mustSave(t, newLog(n), newImage(), askedSave{f, -1, 0})
}

// failingSaves are what is saved, and what is to be saved then: much, little, and what was dropped.
func failingSaves() [][2]impl.Fs {
	x := table(4, dir(1, 0, ent("d", 2), ent("f", 3)), dir(2, 1), file(3, 1, "hello"))
	one := system(2, vol(1, "main", false, 500, x))
	other := table(5, dir(1, 0, ent("f", 3), ent("g", 4)), file(3, 1, "other"), file(4, 1, "more", attr("k", "v")))
	two := system(4, vol(1, "main", false, 500, other), vol(2, "snap", true, 500, x), vol(3, "work", false, 600, impl.TabNew()))
	return [][2]impl.Fs{{system(1), one}, {one, two}, {two, one}, {two, system(4)}, {one, system(3, one.Vols[0], vol(2, "snap", true, 500, x))}, {system(1), two}}
}

// startOf is what was saved ahead, without any fault, on the first blocks of n, and the number of operations that were begun.
func startOf(t *testing.T, n int, f impl.Fs) (impl.Log, impl.Image) {
	t.Helper()
	if len(f.Vols) == 0 && f.Next == 1 {
		return newLog(n), newImage()
	}
	return savedOn(t, n, f)
}

// withFaults is the log with these faults to come, each so many operations from now.
func withFaults(l impl.Log, faults ...impl.Fault) impl.Log {
	l.D.Faults = nil
	for _, f := range faults {
		f.At += l.D.Ops
		l.D.Faults = append(l.D.Faults, f)
	}
	return l
}

// checkSavedAgain: behind what failed the power comes, and the same is saved once more, of what was saved.
func checkSavedAgain(t *testing.T, l impl.Log, m impl.Image, a askedSave) {
	t.Helper()
	e, n, code := checkSave(t, poweredUp(l), m, a)
	if code == impl.FsGood && (!impl.ImageOk(e, n) || !impl.SameFs(n.F, a.f)) || code != impl.FsGood && code != impl.FsSpace {
		t.Fatalf("%s: once more, the code %d", a, code)
	}
}

// TestWhatFailsLeavesWhatWasSaved: at each operation of a save a block turns bad, or the power goes, or one behind the other.
func TestWhatFailsLeavesWhatWasSaved(t *testing.T) {
	met := map[int]int{}
	for _, two := range failingSaves() {
		for _, n := range []int{3, 4, 6} {
			l, m := startOf(t, n, two[0])
			for _, spare := range []int{0, 1} {
				a := askedSave{two[1], -1, spare}
				whole, _, code := checkSave(t, l, m, a)
				for at := range whole.D.Ops - l.D.Ops {
					for _, faults := range [][]impl.Fault{
						{bad(at)}, {torn(at, 0)}, {torn(at, 1)}, {torn(at, 9)}, {torn(at, 400)}, {bad(at), bad(at + 1)}, {bad(at), torn(at+1, 400)}, {bad(at), bad(at + 2), torn(at+4, 5)}, {bad(at), bad(at + 1), bad(at + 2), bad(at + 3)},
					} {
						e, n, failed := checkSave(t, withFaults(l, faults...), m, a)
						met[failed]++
						if tornAt := faults[len(faults)-1]; tornAt.Kind == impl.FaTorn && e.D.Down && (failed != impl.FsDown || !sameImage(n, m)) {
							t.Fatalf("%s, faults %v: the code %d, and %s", a, faults, failed, toldImage(n))
						}
						if faults[0].Kind == impl.FaTorn && failed != impl.FsDown {
							t.Fatalf("%s, faults %v: the code %d, not %d", a, faults, failed, impl.FsDown)
						}
						checkSavedAgain(t, e, n, a)
					}
				}
				met[code]++
			}
		}
	}
	if got := slices.Sorted(maps.Keys(met)); !slices.Equal(got, []int{impl.FsGood, impl.FsSpace, impl.FsDown}) {
		t.Error("the codes", met)
	}
}

// TestARootThatIsTornIsNotSaved: even where its page has all of it.
func TestARootThatIsTornIsNotSaved(t *testing.T) {
	for _, two := range failingSaves() {
		l, m := startOf(t, 6, two[0])
		whole, _ := mustSave(t, l, m, askSave(two[1]))
		last := whole.D.Ops - l.D.Ops - 1
		e, n, code := checkSave(t, withFaults(l, torn(last, 400)), m, askSave(two[1]))
		if code != impl.FsDown || !sameImage(n, m) || !e.D.Down || e.Seq != whole.Seq || freshKinds(l, e) != freshKinds(l, whole) {
			t.Errorf("the code %d, and %s, %s", code, toldImage(n), toldLog(e))
		}
	}
}

// TestABlockOfWhatIsSavedTurnsBad: what it has is still read, and nothing of it is written again.
func TestABlockOfWhatIsSavedTurnsBad(t *testing.T) {
	for _, two := range failingSaves()[1:5] {
		l, m := startOf(t, 8, two[0])
		whole, _ := mustSave(t, l, m, askSave(two[1]))
		e, _ := mustSave(t, withFaults(l, bad(0)), m, askSave(two[1]))
		if !e.D.C.Blocks[m.Root/8].Bad || freshKinds(l, e) != freshKinds(l, whole) || e.D.Ops != whole.D.Ops+1 {
			t.Errorf("%q is written, not %q: %s", freshKinds(l, e), freshKinds(l, whole), toldLog(e))
		}
	}
}

// chainOf is a tree of n inodes, one within the other, which needs n records and its map.
func chainOf(n int) impl.Tab {
	x := table(n+1, dir(1, 0))
	for ino := 2; ino <= n; ino++ {
		x.Inodes[ino-2].Ents = []impl.Ent{ent("d", ino)}
		x.Inodes = append(x.Inodes, dir(ino, 1))
	}
	return x
}

// wantEnd asks for this code, and for so many records that were written.
func wantEnd(t *testing.T, l impl.Log, m impl.Image, a askedSave, want, written int) {
	t.Helper()
	e, n, code := checkSave(t, l, m, a)
	if code != want || len(freshKinds(l, e)) != written || !sameImage(n, m) || e.Seq != l.Seq+written {
		t.Errorf("spare %d: the code %d, not %d, and %q, not %d of them, of %s", a.spare, code, want, freshKinds(l, e), written, toldLog(l))
	}
}

// TestNoRoomButWhatIsSpared: the blocks that are left hold just so many records.
func TestNoRoomButWhatIsSpared(t *testing.T) {
	for blocks := 3; blocks <= 5; blocks++ {
		for spare := -1; spare <= blocks+1; spare++ {
			room := 8 * (blocks - min(max(spare, 0), blocks))
			for _, n := range []int{room - 4, room - 3, room - 2, room - 1, room, 30} {
				if n < 1 || n > 30 {
					continue
				}
				a := askedSave{system(2, vol(1, "a", false, 4000, chainOf(n))), -1, spare}
				if n+3 > room {
					wantEnd(t, newLog(blocks), newImage(), a, impl.FsSpace, room)
					continue
				}
				e, m := mustSave(t, newLog(blocks), newImage(), a)
				if e.Seq != n+3 || m.Root != n+2 {
					t.Errorf("%d inodes on %d blocks: %s", n, blocks, toldImage(m))
				}
			}
		}
	}
	// What is begun is filled, whatever is spared.
	l, m := savedOn(t, 3, system(2, vol(1, "a", false, 100, impl.TabNew())))
	for spare := range 5 {
		mustSave(t, l, m, askedSave{system(2, vol(1, "a", false, 101, impl.TabNew())), -1, spare})
		a := askedSave{system(2, vol(1, "a", false, 4000, chainOf(3))), -1, spare}
		if spare < 2 {
			mustSave(t, l, m, a)
		} else {
			wantEnd(t, l, m, a, impl.FsSpace, 4)
		}
	}
}

func TestADeviceThatIsOffSavesNothing(t *testing.T) {
	for _, two := range failingSaves() {
		l, m := startOf(t, 6, two[0])
		l.D.Down = true
		for _, avoid := range []int{-1, 0, 1, 5, 6} {
			for _, spare := range []int{-1, 0, 1, 9} {
				wantEnd(t, l, m, askedSave{two[1], avoid, spare}, impl.FsDown, 0)
				// What is saved already needs no power, unless a block is avoided.
				same, want := askedSave{two[0], avoid, spare}, map[bool]int{true: impl.FsGood, false: impl.FsDown}[avoid == -1]
				wantEnd(t, l, m, same, want, 0)
			}
		}
	}
}

// TestTheLastNumbersAndOperationsOfASave: one less than it needs, and just as many.
func TestTheLastNumbersAndOperationsOfASave(t *testing.T) {
	for _, two := range failingSaves() {
		l, m := startOf(t, 6, two[0])
		whole, n := mustSave(t, l, m, askSave(two[1]))
		needs := whole.Seq - l.Seq
		for left := range needs + 2 {
			few, late := l, l
			few.Seq, late.D.Ops = impl.MaxNum-left, 100000-left
			if left < needs {
				wantEnd(t, few, m, askSave(two[1]), impl.FsForm, left)
				wantEnd(t, late, m, askSave(two[1]), impl.FsDown, left)
				continue
			}
			for _, k := range []impl.Log{few, late} {
				if e, again := mustSave(t, k, m, askSave(two[1])); !sameImage(again, n) || e.Seq != k.Seq+needs || e.D.Ops != k.D.Ops+needs {
					t.Errorf("%d left, %d needed: %s, %s", left, needs, toldImage(again), toldLog(e))
				}
			}
		}
	}
	// Where the last operation turns a block bad, there is none to try again.
	l, m := startOf(t, 6, system(1))
	l.D.Ops = 99999
	wantEnd(t, withFaults(l, bad(0)), m, askSave(system(2)), impl.FsDown, 0)
	l.D.Ops, l.Seq = 99998, impl.MaxNum
	wantEnd(t, withFaults(l, bad(0)), m, askSave(system(2)), impl.FsForm, 0)
}

// runSaves goes on by operations and saves, with faults that come, and answers how the saves ended.
func runSaves(t *testing.T, r *rand.Rand, l impl.Log, f impl.Fs, met map[string]int) {
	t.Helper()
	m, failed := newImage(), 0
	for range 150 {
		for range r.IntN(4) {
			g, _ := impl.Apply(f, anyOp(r, f))
			if len(g.Vols) < 4 || len(g.Vols) <= len(f.Vols) {
				f = g
			}
		}
		a := askedSave{f, []int{-1, -1, -1, -1, r.IntN(len(l.D.C.Blocks)), len(l.D.C.Blocks), -2}[r.IntN(7)], []int{0, 1, 1, 1, 2, -1}[r.IntN(6)]}
		e, n, code := checkSave(t, l, m, a)
		met[fmt.Sprintf("code %d, avoided %v, all %v", code, a.avoid >= 0, code == impl.FsGood && e.Seq == l.Seq)]++
		l, m = e, n
		if l.D.Down && r.IntN(2) == 0 {
			l = poweredUp(l)
		}
		if code == impl.FsSpace {
			failed++
		}
		if failed > 2 {
			return
		}
	}
}

func TestLongRunsOfSaves(t *testing.T) {
	met := map[string]int{}
	for run := range 40 {
		r := rand.New(rand.NewPCG(16, uint64(run)))
		starts := startsOfRuns()
		n := []int{3, 6, 12, 24, 24}[run%5]
		l := newLog(n, anyFaults(r, r.IntN(30))...)
		if run%2 == 0 {
			l = newLog(n)
		}
		if run%7 == 6 {
			l = logOf(l.D, impl.MaxNum-40)
		}
		runSaves(t, r, l, starts[(run/2)%len(starts)], met)
	}
	t.Log(met)
	for _, s := range []string{"code 0, avoided false, all true", "code 0, avoided false, all false", "code 0, avoided true, all false", "code 1, avoided false, all false", "code 9, avoided false, all false", "code 10, avoided false, all false", "code 10, avoided true, all false"} {
		if met[s] == 0 {
			t.Error("no save with", s)
		}
	}
}

// TestSavesOneBehindTheOther: of each change of a file system, its snapshots and clones among them, with each spare.
func TestSavesOneBehindTheOther(t *testing.T) {
	ops := []impl.Op{
		opOfVol(askNew("main", 900)), opOf(1, askFile("/f")), opOf(1, askWrite("/f", 0, "one")), opOf(1, askDir("/d")), opOf(1, askFile("/d/g")), opOfVol(askSnap(1, "snap")), opOf(1, askWrite("/f", 0, "two")), opOfVol(askClone(1, "work")),
		opOf(3, askUnlink("/f")), opOf(3, askAttr("/d", "k", "v")), opOf(1, askLink("/f", "/d/f")), opOf(1, askMove("/d", "/e")), opOfVol(askNew("other", 100)), opOfVol(askLimit(3, 800)), opOf(4, askDir("/x")), opOfVol(askSnap(3, "snap.2")),
		opOfVol(askDrop(1)), opOf(3, askRmdir("/x")), opOfVol(askClone(2, "back")), opOfVol(askDrop(2)), opOf(6, askCut("/f", 1)), opOfVol(askDrop(3)), opOfVol(askDrop(4)), opOfVol(askDrop(5)), opOfVol(askDrop(6)),
	}
	for spare := range 3 {
		l, m, f, saved := newLog(24), newImage(), impl.FsNew(), []impl.Image{}
		for _, o := range ops {
			f, _ = impl.Apply(f, o)
			l, m = mustSave(t, l, m, askedSave{f, -1, spare})
			saved = append(saved, m)
			mustSave(t, l, m, askedSave{f, -1, spare})
			// Nothing was erased: each that was saved is still there.
			for _, was := range saved {
				if !impl.ImageOk(l, was) {
					t.Fatalf("%s: what was saved is no image any more: %s", toldOp(o), toldImage(was))
				}
			}
		}
		if len(f.Vols) != 0 || f.Next != 7 {
			t.Error("the end is", toldFs(f))
		}
	}
}

// TestFileSystemsAreSaved: each that is right, on as many blocks as there can be, and once more behind it.
func TestFileSystemsAreSaved(t *testing.T) {
	for i, f := range rightFs() {
		if len(f.Vols) < 2 && i%9 > 0 {
			continue
		}
		e, n, code := checkSave(t, newLog(24), newImage(), askedSave{f, -1, 0})
		if code != impl.FsGood {
			t.Errorf("the code %d, of %s", code, toldFs(f))
			continue
		}
		if x, y := mustSave(t, e, n, askSave(f)); !sameLog(x, e) || !sameImage(y, n) {
			t.Errorf("once more, it is written again: %s", toldFs(f))
		}
	}
}

// TestEveryShortRunOfSaves goes through all that few operations and saves make of the new one, with a fault of each kind.
func TestEveryShortRunOfSaves(t *testing.T) {
	type state struct {
		l impl.Log
		m impl.Image
		f impl.Fs
	}
	told := func(s state) string { return toldLog(s.l) + toldImage(s.m) + toldFs(s.f) }
	type step struct {
		o     impl.Op
		avoid int
		spare int
	}
	steps := []step{{avoid: -1, spare: 0}, {avoid: -1, spare: 1}, {avoid: 0, spare: 0}, {avoid: 1, spare: 1}, {avoid: math.MaxInt}}
	for _, o := range []impl.Op{opOfVol(askNew("a", 96)), opOfVol(askSnap(1, "s")), opOf(1, askFile("/f")), opOf(1, askWrite("/f", 0, "x")), opOfVol(askDrop(1))} {
		steps = append(steps, step{o: o})
	}
	for _, faults := range [][]impl.Fault{nil, {bad(1)}, {torn(2, 400)}, {bad(0), torn(3, 2)}, {bad(2), bad(3), bad(4)}} {
		first := state{newLog(3, faults...), newImage(), impl.FsNew()}
		everyState(t, first, told, 4, steps, func(s state, p step) state {
			if p.o.Kind != 0 {
				s.f, _ = impl.Apply(s.f, p.o)
				return s
			}
			s.l, s.m, _ = checkSave(t, s.l, s.m, askedSave{s.f, p.avoid, p.spare})
			return s
		})
	}
}

func TestSavesKeepNothing(t *testing.T) {
	l, m := savedOn(t, 6, failingSaves()[1][0])
	wants := map[string]string{}
	for range 3 {
		for i, two := range failingSaves() {
			for _, avoid := range []int{-1, 0, 1} {
				e, n, code := askedSave{two[1], avoid, 1}.of(l, m)
				s := fmt.Sprint(toldLog(e), toldImage(n), code, impl.ImageOk(e, n), impl.ImageOk(l, n), toldImage(impl.ImageNew()))
				key := fmt.Sprint(i, avoid)
				if want, was := wants[key]; was && s != want {
					t.Errorf("%s hangs on the calls ahead", key)
				}
				wants[key] = s
			}
		}
	}
}

// TestWhatIsHeldByABodyAlone: two inodes that differ in one byte each have a record of their own.
func TestWhatIsHeldByABodyAlone(t *testing.T) {
	x := lookTab()
	f := system(3, vol(1, "a", false, 4000, x), vol(2, "b", false, 4000, x))
	for i := range x.Inodes {
		for _, turn := range []func(y *impl.Inode){
			func(y *impl.Inode) { y.Attrs = []impl.Attr{attr("other", "")} },
			func(y *impl.Inode) { y.Attrs = []impl.Attr{attr("other", "x")} },
			func(y *impl.Inode) { y.Attrs = nil },
			func(y *impl.Inode) {
				if y.Kind == impl.InFile {
					y.Data = append(bytes.Clone(y.Data), 0)
				}
			},
		} {
			g := system(3, slices.Clone(f.Vols)...)
			g.Vols[1].T.Inodes = slices.Clone(x.Inodes)
			turn(&g.Vols[1].T.Inodes[i])
			l, m := savedOn(t, 6, g)
			n := len(x.Inodes)
			want := strings.Repeat("n", n) + "mnmtr"
			if impl.SameInode(x.Inodes[i], g.Vols[1].T.Inodes[i]) {
				want = strings.Repeat("n", n) + "mtr"
			}
			if got := freshKinds(newLog(6), l); got != want {
				t.Errorf("the inode at %d turned: %q is written, not %q: %s", i, got, want, toldImage(m))
			}
		}
	}
}
