package tests

import (
	"maps"
	"math"
	"math/rand/v2"
	"slices"
	"strings"
	"testing"

	"loop.example/g00285/impl"
)

// Promise 9: what is for reading alone is never changed; no volume uses more than it may.

// anyOp picks an operation, by numbers that hang on a fixed start alone: mostly of a volume that is there, and of what is in its tree;
// what its kind does not name is anything.
func anyOp(r *rand.Rand, f impl.Fs) impl.Op {
	o := opOfVol(anyVolCall(r, f))
	if o.Kind == impl.OpDrop {
		o = opOfVol(anyVolCall(r, f))
	}
	if len(f.Vols) > 0 && r.IntN(14) > 0 {
		v := f.Vols[r.IntN(len(f.Vols))]
		if v.Ro {
			v = f.Vols[r.IntN(len(f.Vols))]
		}
		id := v.Id
		if r.IntN(20) == 0 {
			id = []int{0, -1, 99, f.Next, math.MaxInt}[r.IntN(5)]
		}
		o = opOf(id, anyChange(r, v.T))
	}
	if r.IntN(40) == 0 {
		o.Kind = []int{0, -1, 15, 1000}[r.IntN(4)]
	}
	odd := oddParts()
	return blurred(o, odd[r.IntN(len(odd))])
}

// checkOthers asks that an operation changed no volume but its own, and of that the tree or the limit alone.
func checkOthers(t *testing.T, f, g impl.Fs, o impl.Op) {
	t.Helper()
	for id, v := range shelfOf(f) {
		w, there := shelfOf(g)[id]
		if id != o.Vol || o.Kind == impl.OpVol {
			if !there || toldVol(v) != toldVol(w) {
				t.Fatalf("%s: the volume %d was %s, and is %s", toldOp(o), id, toldVol(v), toldVol(w))
			}
			continue
		}
		if impl.Changes(o) {
			v.T = w.T
		}
		if o.Kind == impl.OpLimit {
			v.Limit = w.Limit
		}
		if o.Kind != impl.OpDrop && toldVol(v) != toldVol(w) {
			t.Fatalf("%s: the volume %d is now %s", toldOp(o), id, toldVol(w))
		}
	}
}

func codesOfOps() map[int][]int {
	l := map[int][]int{10: {0, 1, 4, 5}, 11: {0, 1, 2, 4, 5}, 12: {0, 1, 2, 4, 5}, 13: {0, 2}, 14: {0, 1, 2, 8}}
	grows := []string{"MakeDir", "MakeFile", "WriteAt", "Truncate", "SetAttr"}
	for call, codes := range codesOf() {
		all := append(slices.Clone(codes), impl.FsRead)
		if slices.Contains(grows, call) {
			all = append(all, impl.FsQuota)
		}
		l[kindOf(call)] = all
	}
	return l
}

func startsOfRuns() []impl.Fs {
	x := lookTab()
	return []impl.Fs{
		impl.FsNew(),
		system(5, vol(1, "main", false, usageByWords(x)+100, x), vol(2, "snap", true, 2000, x), vol(4, "work", false, 700, fullTab(5))),
		system(9, vol(1, "main", false, 4000, manyInodes(29)), vol(3, "snap", true, 4000, manyInodes(30)), vol(8, "full", false, 4000, fullTab(10))),
		system(4, vol(1, "full", false, 4000, fullTab(10)), vol(2, "more", false, 3000, fullTab(10)), vol(3, "attrs", false, 2000, rightTrees()[0])),
		system(60, vol(7, "one", false, 64, impl.TabNew()), vol(50, "two", false, 160, impl.TabNew())),
	}
}

func TestLongRunsOfOperations(t *testing.T) {
	met := map[int]map[int]int{}
	for kind := 1; kind <= 14; kind++ {
		met[kind] = map[int]int{}
	}
	for run := range 20 {
		r, kept := rand.New(rand.NewPCG(9, uint64(run))), keptTrees{}
		f := startsOfRuns()[run%5]
		for range 700 {
			o := anyOp(r, f)
			g, code := checkOp(t, f, o)
			if met[o.Kind] != nil {
				met[o.Kind][code]++
			}
			checkOthers(t, f, g, o)
			kept.check(t, g)
			f = g
		}
		if t.Failed() {
			return
		}
	}
	for kind, want := range codesOfOps() {
		got := slices.Sorted(maps.Keys(met[kind]))
		if !slices.Equal(got, slices.Sorted(slices.Values(want))) {
			t.Errorf("%s: the codes %v, not %v", callOf(kind), got, want)
		}
	}
	t.Log(met)
}

// smallOps are operations of few words, of which all file systems are made that few of them make.
func smallOps() []impl.Op {
	l := []impl.Op{opOfVol(askNew("a", 96)), opOfVol(askNew("b", 32)), {Kind: 15}, {}}
	for id := 1; id <= 3; id++ {
		l = append(l, opOfVol(askSnap(id, "s")), opOfVol(askClone(id, "c")), opOfVol(askDrop(id)), opOfVol(askLimit(id, 64)), opOfVol(askLimit(id, 100)))
		for _, a := range []asked{askDir("/d"), askFile("/f"), askFile("/d/f"), askWrite("/f", 0, strings.Repeat("x", 33)), askWrite("/f", 0, strings.Repeat("x", 32)), askCut("/f", 36), askUnlink("/f"), askRmdir("/d"), askLink("/f", "/d/l"), askMove("/f", "/d/f"), askAttr("/", "k", "v"), askAttr("/", "k", "")} {
			l = append(l, opOf(id, a))
		}
	}
	return l
}

func TestEveryShortRunOfOperations(t *testing.T) {
	everySystem(t, 5, smallOps(), func(f impl.Fs, o impl.Op) impl.Fs {
		g, _ := checkOp(t, f, o)
		checkOthers(t, f, g, o)
		return g
	})
}

func wantFile(t *testing.T, f impl.Fs, id int, path, want string) {
	t.Helper()
	if b, code := impl.ReadFile(volOf(t, f, id).T, path, 0, 100); string(b) != want || code != impl.FsGood {
		t.Errorf("%s of the volume %d: %q, %d", path, id, b, code)
	}
}

// TestAClonesWritesAreItsOwn: what is written to a clone is not in the volume that it is of, nor the other way.
func TestAClonesWritesAreItsOwn(t *testing.T) {
	f := system(2, vol(1, "main", false, 1000, lookTab()))
	f = mustOp(t, f, opOfVol(askSnap(1, "snap")), opOfVol(askClone(1, "one")), opOfVol(askClone(2, "two")))
	f = mustOp(t, f, opOf(1, askWrite("/f", 0, "first")), opOf(3, askWrite("/f", 0, "third")), opOf(4, askWrite("/f", 5, " four")))
	for id, want := range map[int]string{1: "first", 2: "hello", 3: "third", 4: "hello four"} {
		wantFile(t, f, id, "/f", want)
		wantFile(t, f, id, "/d/h/f", want)
	}
	f = mustOp(t, f, opOf(1, askFile("/new")), opOf(3, askUnlink("/z")), opOf(4, askMove("/d", "/e/d")), opOf(3, askAttr("/", "of", "three")), opOf(1, askRmdir("/e")))
	for id, want := range map[int][]string{1: {"d", "f", "new", "z"}, 2: {"d", "e", "f", "z"}, 3: {"d", "e", "f"}, 4: {"e", "f", "z"}} {
		if got, code := impl.List(volOf(t, f, id).T, "/"); !slices.Equal(got, want) || code != impl.FsGood {
			t.Errorf("the volume %d has %q, %d", id, got, code)
		}
	}
	for id, want := range map[int]string{1: "the root", 2: "the root", 3: "three", 4: "the root"} {
		if got, _ := impl.GetAttr(volOf(t, f, id).T, "/", "of"); got != want {
			t.Errorf("the volume %d is of %q", id, got)
		}
	}
	if toldTab(volOf(t, f, 2).T) != toldTab(lookTab()) {
		t.Error("the snapshot is now", toldTab(volOf(t, f, 2).T))
	}
	// A snapshot of what went on has what is there now, and keeps it.
	f = mustOp(t, f, opOfVol(askSnap(3, "later")), opOf(3, askWrite("/f", 0, "other")), opOfVol(askDrop(3)))
	wantFile(t, f, 5, "/f", "third")
	refusedOp(t, f, opOf(5, askWrite("/f", 0, "other")), impl.FsRead)
	refusedOp(t, f, opOf(3, askWrite("/f", 0, "other")), impl.FsNone)
}

// TestEachChangeOfATwinIsItsOwn does every change of a tree to a volume, to its snapshot, and to its clone.
func TestEachChangeOfATwinIsItsOwn(t *testing.T) {
	for _, x := range []impl.Tab{lookTab(), fullTab(9), treeOfUsage(3000)} {
		f := mustOp(t, system(2, vol(1, "main", false, 4000, x)), opOfVol(askSnap(1, "snap")), opOfVol(askClone(2, "work")))
		for i, a := range moreCalls(x) {
			if i%11 != 0 && len(x.Inodes) > 9 {
				continue
			}
			for place, v := range f.Vols {
				g, code := impl.Apply(f, opOf(v.Id, a))
				if v.Ro && code != impl.FsRead {
					t.Errorf("%s of a snapshot: the code %d", a, code)
				}
				for other, w := range g.Vols {
					if (other != place || v.Ro) && toldTab(w.T) != toldTab(x) {
						t.Errorf("%s of the volume %d: the tree of %d is now %s", a, v.Id, w.Id, toldTab(w.T))
					}
				}
			}
		}
	}
}

// filling are changes that leave nothing free: two directories, files with all their bytes, and attributes, each a byte longer than the one ahead.
func filling() []asked {
	l := []asked{askAttr("/", "a", "v"), askDir("/d"), askDir("/e")}
	paths := []string{"/"}
	for _, d := range []string{"/", "/d/", "/e/"} {
		for _, e := range entsOf(9) {
			paths = append(paths, d+e.Name)
			l = append(l, askFile(d+e.Name))
			for n := 10; n <= 100; n += 10 {
				l = append(l, askCut(d+e.Name, n))
			}
		}
	}
	for _, path := range paths {
		for _, name := range []string{"a", "b", "c", "d"} {
			for n := 1; n <= 16; n++ {
				l = append(l, askAttr(path, name, strings.Repeat("v", n)))
			}
		}
	}
	return l
}

func TestAVolumeIsFilledToItsLimit(t *testing.T) {
	for _, limit := range []int{34, 35, 64, 65, 97, 333, 1000, 4000} {
		f, met := mustOp(t, impl.FsNew(), opOfVol(askNew("a", limit)), opOfVol(askNew("b", 4000))), map[int]int{}
		for i, a := range filling() {
			g, code := impl.Apply(f, opOf(1, a))
			met[code]++
			used := usageByWords(g.Vols[0].T)
			if used > limit || code != impl.FsGood && toldFs(g) != toldFs(f) || code == impl.FsQuota && usageByWords(f.Vols[0].T)+usedBy(t, f.Vols[0].T, a) <= limit {
				t.Fatalf("change %d, %s: the code %d, and %d are used of %d", i, a, code, used, limit)
			}
			f = g
		}
		// An attribute uses two at least: one may be left.
		if used := usageByWords(f.Vols[0].T); used < limit-1 || met[impl.FsQuota] == 0 {
			t.Errorf("%d are used of %d: %v", used, limit, met)
		}
		if used := usageByWords(f.Vols[1].T); used != 32 || !impl.FsOk(f) {
			t.Errorf("the other volume uses %d, or it is no file system any more", used)
		}
		full := mustOp(t, f, opOfVol(askLimit(1, usageByWords(f.Vols[0].T))))
		for i, a := range filling() {
			x := full.Vols[0].T
			if y, code := a.ofWords(x); i%5 == 0 && code == impl.FsGood && usageByWords(y) > usageByWords(x) {
				refusedOp(t, full, opOf(1, a), impl.FsQuota)
			}
		}
	}
}

// TestALimitIsLoweredAndRaised: what is refused by a limit is taken behind it, and the other way.
func TestALimitIsLoweredAndRaised(t *testing.T) {
	f := mustOp(t, impl.FsNew(), opOfVol(askNew("a", 64)), opOf(1, askFile("/f")))
	refusedOp(t, f, opOf(1, askWrite("/f", 0, "x")), impl.FsQuota)
	refusedOp(t, f, opOf(1, askFile("/g")), impl.FsQuota)
	f = mustOp(t, f, opOfVol(askLimit(1, 65)), opOf(1, askWrite("/f", 0, "x")))
	refusedOp(t, f, opOf(1, askWrite("/f", 1, "x")), impl.FsQuota)
	refusedOp(t, f, opOfVol(askLimit(1, 64)), impl.FsQuota)
	f = mustOp(t, f, opOf(1, askCut("/f", 0)), opOfVol(askLimit(1, 64)))
	refusedOp(t, f, opOf(1, askCut("/f", 1)), impl.FsQuota)
	// What uses no more is taken where nothing is left.
	f = mustOp(t, f, opOf(1, askLink("/f", "/l")), opOf(1, askMove("/l", "/m")), opOf(1, askUnlink("/f")), opOf(1, askCut("/m", 0)), opOf(1, askWrite("/m", 0, "")), opOf(1, askAttr("/m", "k", "")))
	// A clone has the limit of what it is of, and another one when it is told.
	f = mustOp(t, f, opOfVol(askClone(1, "b")))
	refusedOp(t, f, opOf(2, askFile("/g")), impl.FsQuota)
	f = mustOp(t, f, opOfVol(askLimit(2, 96)), opOf(2, askFile("/g")))
	refusedOp(t, f, opOf(1, askFile("/g")), impl.FsQuota)
	mustOp(t, f, opOf(1, askUnlink("/m")), opOfVol(askLimit(1, 32)))
}
