package tests

import (
	"fmt"
	"math/rand/v2"
	"strings"
	"testing"

	"loop.example/g00285/impl"
)

// Promise 17: what was saved is mounted; wherever the power went, it is what was saved ahead, or what was being saved.

// checkMounted mounts what a Save of f behind m left, and asks that it is one of the two, by whether the last root is whole.
func checkMounted(t *testing.T, l, e impl.Log, m, n impl.Image, f impl.Fs, code int) (impl.Log, impl.Image) {
	t.Helper()
	x, z := checkMount(t, e)
	whole := strings.HasSuffix(freshKinds(l, e), "r")
	switch {
	case code == impl.FsGood && !sameImage(z, n):
		t.Fatalf("saved is %s, and mounted %s, of %s", toldImage(n), toldImage(z), toldLog(e))
	case whole && !impl.SameFs(z.F, f):
		t.Fatalf("the root is whole, and mounted is %s, not %s, of %s", toldImage(z), toldFs(f), toldLog(e))
	case !whole && !sameImage(z, m):
		t.Fatalf("the code %d, and mounted is %s, not %s, of %s", code, toldImage(z), toldImage(m), toldLog(e))
	}
	if x.Seq > e.Seq || !impl.LogOk(x) && x.Seq < impl.MaxNum {
		t.Fatalf("the code %d, and no log is %s", code, toldLog(x))
	}
	return x, z
}

// checkSaveAndMount is a Save that these faults come to, mounted; the same is saved then, and mounted again. It answers whether the first Save was to be seen.
func checkSaveAndMount(t *testing.T, l impl.Log, m impl.Image, f impl.Fs, spare int, faults ...impl.Fault) bool {
	t.Helper()
	k := withFaults(l, faults...)
	e, n, code := impl.Save(k, m, f, -1, spare)
	x, z := checkMounted(t, l, e, m, n, f, code)
	seen := impl.SameFs(z.F, f)
	again, w, code := impl.Save(x, z, f, -1, spare)
	y, v := checkMounted(t, x, again, z, w, f, code)
	if code == impl.FsGood && (!impl.SameFs(v.F, f) || seen && !sameLog(again, x)) {
		t.Fatalf("saved again, mounted is %s", toldImage(v))
	}
	// Of another number than the first time, it is the newest all the same.
	g := system(98, f.Vols...)
	third, w, code := impl.Save(y, v, g, -1, 0)
	checkMounted(t, y, third, v, w, g, code)
	return seen
}

// lengthsOf are those of the pages that e has and l has not, in the order of their records.
func lengthsOf(l, e impl.Log) []int {
	lengths := []int{}
	for _, addr := range freshInOrder(l, e) {
		lengths = append(lengths, len(e.D.C.Blocks[addr/8].Pages[addr%8].B))
	}
	return lengths
}

// TestWhereverThePowerGoes: in the midst of each operation of a save, with every number of bytes that is kept, each page of it is torn.
func TestWhereverThePowerGoes(t *testing.T) {
	for _, two := range failingSaves() {
		l, m := startOf(t, 6, two[0])
		whole, _ := mustSave(t, l, m, askSave(two[1]))
		lengths := lengthsOf(l, whole)
		for at, length := range lengths {
			for _, keep := range append(fromOneUpTo(length+2), 399, 400) {
				seen := checkSaveAndMount(t, l, m, two[1], 1, torn(at, keep))
				if want := at == len(lengths)-1 && keep >= length; seen != want {
					t.Errorf("torn at %d, %d of %d kept: seen %v", at, keep, length, seen)
				}
			}
		}
		if seen := checkSaveAndMount(t, l, m, two[1], 1); !seen || len(lengths) == 0 {
			t.Error("what was saved is not mounted")
		}
	}
}

// TestWhereverABlockTurnsBad: at each operation of a save, several one behind the other, and with the power that goes behind them.
func TestWhereverABlockTurnsBad(t *testing.T) {
	met := map[bool]int{}
	for _, two := range failingSaves() {
		for _, n := range []int{3, 4, 7} {
			l, m := startOf(t, n, two[0])
			whole, _, _ := impl.Save(l, m, two[1], -1, 0)
			for at := range whole.D.Ops - l.D.Ops {
				for _, faults := range [][]impl.Fault{
					{bad(at)}, {bad(at), bad(at + 1)}, {bad(at), bad(at + 2)}, {bad(at), bad(at + 1), bad(at + 2), bad(at + 3)},
					{bad(at), torn(at+1, 0)}, {bad(at), torn(at+1, 6)}, {bad(at), torn(at+1, 400)}, {bad(at), bad(at + 1), torn(at+3, 400)}, {torn(at, 5), bad(at + 1), torn(at+3, 400)}, {torn(at, 400), torn(at+1, 400), torn(at+2, 400)},
				} {
					met[checkSaveAndMount(t, l, m, two[1], at%2, faults...)]++
				}
			}
		}
	}
	if met[true] == 0 || met[false] == 0 {
		t.Error("seen or not", met)
	}
}

// TestPowerThatGoesAgainAndAgain: at each operation that follows a mount, until all is saved.
func TestPowerThatGoesAgainAndAgain(t *testing.T) {
	for _, two := range failingSaves() {
		for keep := range 8 {
			l, m := startOf(t, 24, two[0])
			f := two[1]
			for at := range 14 {
				k := withFaults(l, torn(at, []int{0, 1, 5, 9, 13, 20, 400, at}[keep]))
				e, n, code := impl.Save(k, m, f, -1, 1)
				x, z := checkMounted(t, l, e, m, n, f, code)
				if code == impl.FsGood {
					l, m = x, z
					break
				}
				l, m = x, z
			}
			if !impl.SameFs(m.F, f) {
				t.Errorf("in the end there is %s, not %s", toldImage(m), toldFs(f))
			}
		}
	}
}

// TestARootThatWasSeenIsGoneOnFrom: a save that was told to have failed, and is there, counts as what was saved ahead of the next one.
func TestARootThatWasSeenIsGoneOnFrom(t *testing.T) {
	for _, two := range failingSaves() {
		l, m := startOf(t, 8, two[0])
		whole, _ := mustSave(t, l, m, askSave(two[1]))
		last := whole.D.Ops - l.D.Ops - 1
		e, n, code := impl.Save(withFaults(l, torn(last, 400)), m, two[1], -1, 1)
		if code != impl.FsDown || !sameImage(n, m) {
			t.Fatalf("the code %d", code)
		}
		x, z := checkMount(t, e)
		if !impl.SameFs(z.F, two[1]) || z.Root == m.Root {
			t.Errorf("mounted is %s", toldImage(z))
		}
		// The next one is torn: now it is this that was saved ahead.
		g := system(97, two[1].Vols...)
		for at := range 2 {
			e, _, code := impl.Save(withFaults(x, torn(at, 3)), z, g, -1, 1)
			if code != impl.FsDown {
				t.Fatalf("the code %d", code)
			}
			wantMount(t, e, z)
		}
	}
}

// liveBlocks are those to which an image leads.
func liveBlocks(m impl.Image) map[int]int {
	live := map[int]int{}
	for _, w := range wantedByWords(m) {
		if w.addr >= 0 {
			live[w.addr/8]++
		}
	}
	return live
}

// anyErase erases a block to which the image does not lead, if there is one that has something.
func anyErase(r *rand.Rand, l impl.Log, m impl.Image) impl.Log {
	live := liveBlocks(m)
	for _, blk := range r.Perm(len(l.D.C.Blocks)) {
		if live[blk] == 0 && impl.NextPage(l.D.C, blk) > 0 && !l.D.C.Blocks[blk].Bad {
			l.D, _ = impl.DevErase(l.D, blk)
			return l
		}
	}
	return l
}

// countMount tells of a mount what these tests are to meet.
func countMount(l impl.Log, z impl.Image, code int, met map[string]int) {
	roots := rootsByWords(l)
	met[fmt.Sprint("code ", code)]++
	for i := range roots {
		if i > 0 && roots[i] > roots[0] {
			met["a newer root at a lower address"]++
			break
		}
	}
	if len(roots) > 0 && z.Root != roots[0] {
		met["the newest root can't be loaded"]++
	}
	for _, addr := range roots {
		if _, ok := impl.LoadAt(l, addr); !ok {
			met["a root that can't be loaded"]++
			break
		}
	}
}

// runMounts goes on by operations, saves, erases and mounts, with faults that come.
func runMounts(t *testing.T, r *rand.Rand, l impl.Log, f impl.Fs, met map[string]int) {
	t.Helper()
	m := newImage()
	for range 120 {
		for range r.IntN(4) {
			f, _ = impl.Apply(f, anyOp(r, f))
		}
		a := askedSave{f, []int{-1, -1, -1, r.IntN(len(l.D.C.Blocks))}[r.IntN(4)], r.IntN(2)}
		e, n, code := a.of(l, m)
		x, z := checkMounted(t, l, e, m, n, f, code)
		countMount(e, z, code, met)
		l, m = e, n
		if e.D.Down || r.IntN(3) == 0 {
			// What was not saved is lost.
			l, m, f = x, z, z.F
		}
		for range r.IntN(3) {
			l = anyErase(r, l, m)
			if l.D.Down {
				l = wantMount(t, l, m)
				f = m.F
			}
		}
		if code == impl.FsSpace && len(f.Vols) > 0 {
			f, _ = impl.DropVol(f, f.Vols[r.IntN(len(f.Vols))].Id)
		}
	}
}

func TestLongRunsOfMounts(t *testing.T) {
	met := map[string]int{}
	for run := range 24 {
		r := rand.New(rand.NewPCG(17, uint64(run)))
		starts := startsOfRuns()
		l := newLog([]int{6, 9, 12, 24}[run%4], anyFaults(r, r.IntN(60))...)
		runMounts(t, r, l, starts[run%2*4*(run/2%2)], met)
	}
	t.Log(met)
	for _, s := range []string{"code 0", "code 9", "code 10", "a newer root at a lower address", "a root that can't be loaded"} {
		if met[s] == 0 {
			t.Error("no mount with", s)
		}
	}
}

// TestEveryShortRunOfMounts goes through all that few operations, saves, erases and mounts make of the new one, with faults of each kind.
func TestEveryShortRunOfMounts(t *testing.T) {
	type state struct {
		l impl.Log
		m impl.Image
		f impl.Fs
	}
	told := func(s state) string { return toldLog(s.l) + toldImage(s.m) + toldFs(s.f) }
	save := func(s state, avoid int) state {
		e, n, code := impl.Save(s.l, s.m, s.f, avoid, 0)
		if s.l.D.Down {
			// Behind the power that went there may be a root that nobody saw: what is held is not what is found.
			checkMount(t, e)
			return state{e, n, s.f}
		}
		checkMounted(t, s.l, e, s.m, n, s.f, code)
		return state{e, n, s.f}
	}
	steps := []func(s state) state{
		func(s state) state { return save(s, -1) },
		func(s state) state { return save(s, 0) },
		func(s state) state {
			e, m := checkMount(t, s.l)
			return state{e, m, m.F}
		},
		func(s state) state {
			if liveBlocks(s.m)[0] == 0 {
				s.l.D, _ = impl.DevErase(s.l.D, 0)
			}
			return s
		},
	}
	for _, o := range []impl.Op{opOfVol(askNew("a", 96)), opOfVol(askSnap(1, "s")), opOf(1, askFile("/f")), opOfVol(askDrop(1))} {
		steps = append(steps, func(s state) state {
			s.f, _ = impl.Apply(s.f, o)
			return s
		})
	}
	for _, faults := range [][]impl.Fault{nil, {bad(1)}, {torn(1, 400), torn(3, 400)}, {torn(2, 3), bad(3)}, {bad(0), torn(4, 7), torn(5, 6)}} {
		everyState(t, state{newLog(3, faults...), newImage(), impl.FsNew()}, told, 5, steps, func(s state, step func(state) state) state { return step(s) })
	}
}

// TestMountedAgainItIsTheSame: what is mounted once is mounted always.
func TestMountedAgainItIsTheSame(t *testing.T) {
	for _, k := range savedImages(t) {
		for _, down := range []bool{false, true} {
			l := logOf(k.l.D, 3)
			l.D.Down = down
			e := wantMount(t, l, k.m)
			for range 3 {
				if again := wantMount(t, e, k.m); !sameLog(again, e) {
					t.Errorf("mounted again it is %s, not %s", toldLog(again), toldLog(e))
				}
			}
		}
	}
}

// TestSaveBehindAMountIsAsBehindASave: nothing that is there already is written again.
func TestSaveBehindAMountIsAsBehindASave(t *testing.T) {
	for _, two := range failingSaves() {
		l, m := startOf(t, 12, two[0])
		want, wantImage := mustSave(t, l, m, askSave(two[1]))
		x, z := checkMount(t, logOf(off(l.D), l.Seq))
		if e, n := mustSave(t, x, z, askSave(two[1])); !sameLog(e, want) || !sameImage(n, wantImage) {
			t.Errorf("behind a mount, saved is %s, not %s", toldImage(n), toldImage(wantImage))
		}
		mustSave(t, x, z, askedSave{z.F, -1, 0})
	}
}

func TestMountsKeepNothing(t *testing.T) {
	wants := map[string]string{}
	for range 3 {
		for i, k := range savedImages(t) {
			for _, l := range []impl.Log{k.l, withPage(k.l, k.m.Root, "torn"), logOf(off(k.l.D), 0), {}, newLog(3)} {
				e, m := impl.Mount(l)
				n, ok := impl.LoadAt(l, k.m.Root)
				s := fmt.Sprint(toldLog(e), toldImage(m), impl.RootsOf(l), toldImage(n), ok)
				key := fmt.Sprint(i, toldLog(l))
				if want, was := wants[key]; was && s != want {
					t.Errorf("%s hangs on the calls ahead", key)
				}
				wants[key] = s
			}
		}
	}
}
