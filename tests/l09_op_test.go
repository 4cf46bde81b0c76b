package tests

import (
	"fmt"
	"math"
	"slices"
	"strings"
	"testing"

	"loop.example/g00285/impl"
)

var (
	_ func(impl.Fs, impl.Op) (impl.Fs, int) = impl.Apply
	_ func(impl.Op) []byte                  = impl.PutOp
	_ func([]byte) (impl.Op, bool)          = impl.GetOp
	_ func(impl.Op) bool                    = impl.Changes
	_ struct {
		Kind int
		Vol  int
		Path string
		To   string
		Off  int
		Data []byte
	} = impl.Op{}
)

func TestOperationConstants(t *testing.T) {
	kinds := []int{impl.OpDir, impl.OpFile, impl.OpWrite, impl.OpCut, impl.OpUnlink, impl.OpRmdir, impl.OpLink, impl.OpMove, impl.OpAttr, impl.OpVol, impl.OpSnap, impl.OpClone, impl.OpDrop, impl.OpLimit}
	for i, kind := range kinds {
		if kind != i+1 {
			t.Errorf("%s is %d", callOf(i+1), kind)
		}
	}
}

// refusedOp asks for this code, and for the file system as it was beside it: the answer, and what was handed in.
func refusedOp(t *testing.T, f impl.Fs, o impl.Op, want int) {
	t.Helper()
	was, wasOp := toldFs(f), toldOp(o)
	g, code := impl.Apply(f, o)
	if code != want || want == impl.FsGood {
		t.Errorf("%s: the code %d, not %d, of %s", wasOp, code, want, was)
	}
	if toldFs(g) != was || !impl.SameFs(f, g) || !impl.SameFs(g, f) {
		t.Errorf("%s is refused, but the answer is %s, of %s", wasOp, toldFs(g), was)
	}
	if toldFs(f) != was || toldOp(o) != wasOp {
		t.Errorf("%s is refused, but its arguments are now %s and %s, of %s", wasOp, toldOp(o), toldFs(f), was)
	}
}

// goodOp asks for FsGood and this file system, that it is right, and that no volume uses more than it may.
func goodOp(t *testing.T, f impl.Fs, o impl.Op, want impl.Fs) {
	t.Helper()
	was, wasOp := toldFs(f), toldOp(o)
	g, code := impl.Apply(f, o)
	if code != impl.FsGood || toldFs(g) != toldFs(want) || !impl.SameFs(g, want) {
		t.Errorf("%s: the code %d, and %s, not %s, of %s", wasOp, code, toldFs(g), toldFs(want), was)
	}
	if !fsByWords(g) || !impl.FsOk(g) {
		t.Errorf("%s: no file system any more: %s", wasOp, toldFs(g))
	}
	for _, v := range g.Vols {
		if usageByWords(v.T) > v.Limit {
			t.Errorf("%s: the volume %d uses %d, and may use %d", wasOp, v.Id, usageByWords(v.T), v.Limit)
		}
	}
	if toldFs(f) != was || toldOp(o) != wasOp {
		t.Errorf("%s: its arguments are now %s and %s, of %s", wasOp, toldOp(o), toldFs(f), was)
	}
}

// checkOp holds an operation against the words, and against the call that it stands for, and answers what the program answers.
func checkOp(t *testing.T, f impl.Fs, o impl.Op) (impl.Fs, int) {
	t.Helper()
	want, code := applyByWords(f, o)
	if called, codeOfCall := applyByCalls(f, o); codeOfCall != code || toldFs(called) != toldFs(want) {
		t.Errorf("%s: the call answers %d, not %d, and %s", toldOp(o), codeOfCall, code, toldFs(called))
	}
	if code == impl.FsGood {
		goodOp(t, f, o, want)
	} else {
		refusedOp(t, f, o, code)
	}
	g, _ := impl.Apply(f, o)
	return g, code
}

// mustOp does what is not refused, one behind the other.
func mustOp(t *testing.T, f impl.Fs, l ...impl.Op) impl.Fs {
	t.Helper()
	for _, o := range l {
		g, code := checkOp(t, f, o)
		if code != impl.FsGood {
			t.Fatalf("%s: the code %d, of %s", toldOp(o), code, toldFs(f))
		}
		f = g
	}
	return f
}

func TestAKnownRunOfOperations(t *testing.T) {
	f := impl.FsNew()
	do := func(o impl.Op, want impl.Fs) {
		t.Helper()
		goodOp(t, f, o, want)
		f, _ = checkOp(t, f, o)
	}
	main := func(next int, l ...impl.Inode) impl.Vol { return vol(1, "main", false, 200, table(next, l...)) }
	do(impl.Op{Kind: 10, Path: "main", Off: 200}, system(2, main(2, dir(1, 0))))
	do(impl.Op{Kind: 1, Vol: 1, Path: "/d"}, system(2, main(3, dir(1, 0, ent("d", 2)), dir(2, 1))))
	do(impl.Op{Kind: 2, Vol: 1, Path: "/d/f"}, system(2, main(4, dir(1, 0, ent("d", 2)), dir(2, 1, ent("f", 3)), file(3, 1, ""))))
	do(impl.Op{Kind: 3, Vol: 1, Path: "/d/f", Off: 2, Data: []byte("xyz")}, system(2, main(4, dir(1, 0, ent("d", 2)), dir(2, 1, ent("f", 3)), file(3, 1, "\x00\x00xyz"))))
	do(impl.Op{Kind: 4, Vol: 1, Path: "/d/f", Off: 4}, system(2, main(4, dir(1, 0, ent("d", 2)), dir(2, 1, ent("f", 3)), file(3, 1, "\x00\x00xy"))))
	do(impl.Op{Kind: 7, Vol: 1, Path: "/d/f", To: "/l"}, system(2, main(4, dir(1, 0, ent("d", 2), ent("l", 3)), dir(2, 1, ent("f", 3)), file(3, 2, "\x00\x00xy"))))
	do(impl.Op{Kind: 5, Vol: 1, Path: "/d/f"}, system(2, main(4, dir(1, 0, ent("d", 2), ent("l", 3)), dir(2, 1), file(3, 1, "\x00\x00xy"))))
	do(impl.Op{Kind: 8, Vol: 1, Path: "/l", To: "/m"}, system(2, main(4, dir(1, 0, ent("d", 2), ent("m", 3)), dir(2, 1), file(3, 1, "\x00\x00xy"))))
	do(impl.Op{Kind: 6, Vol: 1, Path: "/d"}, system(2, main(4, dir(1, 0, ent("m", 3)), file(3, 1, "\x00\x00xy"))))
	do(impl.Op{Kind: 9, Vol: 1, Path: "/m", To: "k", Data: []byte("v")}, system(2, main(4, dir(1, 0, ent("m", 3)), file(3, 1, "\x00\x00xy", attr("k", "v")))))
	held := table(4, dir(1, 0, ent("m", 3)), file(3, 1, "\x00\x00xy", attr("k", "v")))
	snap, work := vol(2, "snap", true, 200, held), vol(3, "work", false, 200, held)
	do(impl.Op{Kind: 11, Vol: 1, Path: "snap"}, system(3, vol(1, "main", false, 200, held), snap))
	do(impl.Op{Kind: 12, Vol: 2, Path: "work"}, system(4, vol(1, "main", false, 200, held), snap, work))
	work.T = table(4, dir(1, 0, ent("m", 3)), file(3, 1, "\x00\x00xy"))
	do(impl.Op{Kind: 9, Vol: 3, Path: "/m", To: "k"}, system(4, vol(1, "main", false, 200, held), snap, work))
	do(impl.Op{Kind: 13, Vol: 1}, system(4, snap, work))
	work.Limit = 68
	do(impl.Op{Kind: 14, Vol: 3, Off: 68}, system(4, snap, work))
	refusedOp(t, f, impl.Op{Kind: 14, Vol: 3, Off: 67}, impl.FsQuota)
	refusedOp(t, f, impl.Op{Kind: 3, Vol: 3, Path: "/m", Off: 4, Data: []byte("z")}, impl.FsQuota)
	refusedOp(t, f, impl.Op{Kind: 3, Vol: 2, Path: "/m", Off: 4, Data: []byte("z")}, impl.FsRead)
	refusedOp(t, f, impl.Op{Kind: 3, Vol: 1, Path: "/m", Off: 4, Data: []byte("z")}, impl.FsNone)
}

// opsOf are the changes of a tree as operations of its volume, and those of chapter 8.
func opsOf(id int, x impl.Tab) []impl.Op {
	l := []impl.Op{}
	for _, a := range moreCalls(x) {
		l = append(l, opOf(id, a))
	}
	return l
}

func TestEachOperationOfATreeIsTheChangeOfItsTree(t *testing.T) {
	done := map[int]int{}
	for _, x := range rightTrees() {
		f := system(9, vol(2, "before", true, 100, impl.TabNew()), vol(5, "of", false, 4000, x), vol(8, "behind", false, 4000, x))
		for i, o := range opsOf(5, x) {
			// The trees of many paths share the many calls of two paths among them.
			if (o.Kind == impl.OpLink || o.Kind == impl.OpMove) && len(x.Inodes) > 8 && i%7 != 0 {
				continue
			}
			g, code := checkOp(t, f, o)
			if code == impl.FsGood {
				done[o.Kind]++
			}
			if toldVol(g.Vols[0]) != toldVol(f.Vols[0]) || toldVol(g.Vols[2]) != toldVol(f.Vols[2]) || g.Next != 9 {
				t.Errorf("%s: another volume is now other: %s", toldOp(o), toldFs(g))
			}
		}
	}
	for kind := impl.OpDir; kind <= impl.OpAttr; kind++ {
		if done[kind] == 0 {
			t.Error(callOf(kind), "was always refused")
		}
	}
}

func TestOperationsOfVolumesAnswerWhatTheirCallsDo(t *testing.T) {
	met := map[int]map[int]int{}
	for i, f := range rightFs() {
		for k, a := range someVolCalls() {
			if i >= 25 && (i+k)%29 != 0 {
				continue
			}
			o := opOfVol(a)
			_, code := checkOp(t, f, o)
			if met[o.Kind] == nil {
				met[o.Kind] = map[int]int{}
			}
			met[o.Kind][code]++
		}
	}
	for kind, codes := range map[int][]int{10: {0, 1, 4, 5}, 11: {0, 1, 2, 4, 5}, 12: {0, 1, 2, 4, 5}, 13: {0, 2}, 14: {0, 1, 2, 8}} {
		for _, code := range codes {
			if met[kind][code] == 0 {
				t.Errorf("%s never had the code %d", callOf(kind), code)
			}
		}
	}
}

// oneOfEach is an operation of each kind that oneOfEachFs takes.
func oneOfEach() []impl.Op {
	return []impl.Op{
		opOf(3, askDir("/n")), opOf(3, askFile("/d/n")), opOf(3, askWrite("/f", 1, "ipp")), opOf(3, askCut("/f", 2)), opOf(3, askUnlink("/z")), opOf(3, askRmdir("/e")), opOf(3, askLink("/f", "/l")),
		opOf(3, askMove("/d", "/e/d")), opOf(3, askAttr("/f", "k", "v")), opOfVol(askNew("new", 100)), opOfVol(askSnap(4, "new")), opOfVol(askClone(4, "new")), opOfVol(askDrop(3)), opOfVol(askLimit(70, 40)),
	}
}

func oneOfEachFs() impl.Fs {
	f := farVols(71)
	f.Vols[0].Limit = 2000
	return f
}

func TestOneOfEachKind(t *testing.T) {
	for i, o := range oneOfEach() {
		if o.Kind != i+1 {
			t.Fatal("the kind", o.Kind, "stands at", i)
		}
		if _, code := checkOp(t, oneOfEachFs(), o); code != impl.FsGood {
			t.Errorf("%s: the code %d", toldOp(o), code)
		}
	}
}

func oddKinds() []int {
	return []int{math.MinInt, -256, -14, -9, -1, 0, 15, 16, 128, 256 + 1, 256 + 9, 1<<32 + 1, 1<<32 + 14, math.MaxInt}
}

func TestKindsThatAreAndThatAreNone(t *testing.T) {
	for _, o := range oneOfEach() {
		was := o.Kind
		for kind := -3; kind <= 20; kind++ {
			o.Kind = kind
			_, code := checkOp(t, oneOfEachFs(), o)
			if kind == was && code != impl.FsGood || (kind < 1 || kind > 14) && code != impl.FsForm {
				t.Errorf("%s: the code %d", toldOp(o), code)
			}
			if got := impl.Changes(o); got != (kind >= 1 && kind <= 9) {
				t.Errorf("%s: Changes is %v", toldOp(o), got)
			}
			if got := len(impl.PutOp(o)) > 0; got != (kind >= 1 && kind <= 14) {
				t.Errorf("%s: something is put: %v", toldOp(o), got)
			}
		}
		for _, kind := range oddKinds() {
			o.Kind = kind
			for _, f := range []impl.Fs{oneOfEachFs(), impl.FsNew(), {}, manyVols(6), manyVols(7)} {
				refusedOp(t, f, o, impl.FsForm)
			}
			if impl.Changes(o) || len(impl.PutOp(o)) != 0 {
				t.Errorf("the kind %d changes a tree, or is put", kind)
			}
		}
	}
}

// TestWhetherItIsOneOfATree: the kind alone tells, be all else right or not.
func TestWhetherItIsOneOfATree(t *testing.T) {
	for kind, want := range map[int]bool{0: false, 1: true, 2: true, 3: true, 4: true, 5: true, 6: true, 7: true, 8: true, 9: true, 10: false, 11: false, 12: false, 13: false, 14: false, 15: false} {
		for _, o := range []impl.Op{{}, {Vol: -1, Off: math.MaxInt}, {Vol: 1, Path: "/f", To: "/g", Off: 3, Data: []byte("x")}, {Path: "A", Data: make([]byte, 5000)}} {
			o.Kind = kind
			if impl.Changes(o) != want {
				t.Errorf("Changes of %s: %v", toldOp(o), !want)
			}
		}
	}
}

func TestVolumesThatAreNotThere(t *testing.T) {
	for _, id := range []int{math.MinInt, -70, -3, -1, 0, 1, 2, 5, 69, 71, 98, 99, 100, 256 + 3, 999999, 1000000, 1000001, 1<<32 + 3, math.MaxInt} {
		for _, o := range oneOfEach() {
			if o.Kind == impl.OpVol {
				continue
			}
			o.Vol = id
			refusedOp(t, oneOfEachFs(), o, impl.FsNone)
			refusedOp(t, farVols(99), o, impl.FsNone)
			refusedOp(t, impl.FsNew(), o, impl.FsNone)
		}
	}
}

// TestNumbersAtTheirEdges: what they may be hangs on the kind, and on nothing that is put.
func TestNumbersAtTheirEdges(t *testing.T) {
	for _, n := range []int{math.MinInt, -1, 0, 1, 31, 32, 99, 100, 101, 3999, 4000, 4001, 999999, 1000000, 1000001, math.MaxInt} {
		for _, o := range oneOfEach() {
			o.Off = n
			checkOp(t, oneOfEachFs(), o)
			o.Vol = n
			checkOp(t, oneOfEachFs(), o)
		}
	}
	for _, n := range []int{0, 99, 100} {
		if _, code := checkOp(t, oneOfEachFs(), opOf(3, askCut("/f", n))); code != impl.FsGood {
			t.Errorf("cut to %d: the code %d", n, code)
		}
		if _, code := checkOp(t, oneOfEachFs(), opOf(3, askWrite("/f", n, ""))); code != impl.FsGood {
			t.Errorf("written at %d: the code %d", n, code)
		}
	}
	for _, n := range []int{-1, 101, 1000000} {
		refusedOp(t, oneOfEachFs(), opOf(3, askCut("/f", n)), impl.FsForm)
		refusedOp(t, oneOfEachFs(), opOf(3, askWrite("/f", n, "")), impl.FsForm)
	}
	for _, n := range []int{-1, 0, 31, 4001, 1000000} {
		refusedOp(t, oneOfEachFs(), opOfVol(askNew("new", n)), impl.FsForm)
		refusedOp(t, oneOfEachFs(), opOfVol(askLimit(70, n)), impl.FsForm)
	}
}

func oddParts() []oddPart {
	return []oddPart{
		{0, ""}, {1, "/f"}, {3, "/d"}, {4, "main"}, {-1, "A"}, {math.MinInt, "/"}, {math.MaxInt, "//"}, {70, "\x00\xff"}, {99, "/d/g"}, {101, strings.Repeat("x", 101)},
		{1000000, strings.Repeat("/a", 40)}, {1000001, "new"}, {71, "k"}, {31, strings.Repeat("v", 17)},
	}
}

func TestWhatIsNotNamedIsNotLookedAt(t *testing.T) {
	full := manyVols(6)
	for _, o := range slices.Concat(oneOfEach(), opsOf(3, impl.TabNew()), opsOf(4, impl.TabNew()), []impl.Op{opOfVol(askDrop(9)), opOfVol(askNew("main", 50)), opOfVol(askLimit(4, 33)), opOfVol(askSnap(3, "main")), opOf(3, askUnlink("/d")), opOf(3, askRmdir("/d"))}) {
		for _, f := range []impl.Fs{oneOfEachFs(), full, impl.FsNew(), {}} {
			want, code := impl.Apply(f, o)
			for _, odd := range oddParts() {
				g, got := impl.Apply(f, blurred(o, odd))
				if got != code || toldFs(g) != toldFs(want) {
					t.Errorf("%s is answered with %d, and as %s with %d", toldOp(o), code, toldOp(blurred(o, odd)), got)
				}
				if impl.Changes(blurred(o, odd)) != impl.Changes(o) {
					t.Errorf("%s: Changes looks at what is not named", toldOp(o))
				}
			}
		}
	}
}

// TestWhatIsNamedIsLookedAt: were a part turned that a kind names, another answer would come.
func TestWhatIsNamedIsLookedAt(t *testing.T) {
	for _, o := range oneOfEach() {
		want, _ := impl.Apply(oneOfEachFs(), o)
		for _, p := range opParts() {
			if !slices.Contains(p.named, o.Kind) {
				continue
			}
			turned := o
			p.turn(&turned, oddPart{50, "other"})
			if g, _ := impl.Apply(oneOfEachFs(), turned); toldFs(g) == toldFs(want) {
				t.Errorf("%s: %s is not looked at", toldOp(o), p.name)
			}
		}
	}
}

func TestNoOperationOfWhatIsNoFileSystem(t *testing.T) {
	some := []impl.Op{}
	for _, a := range someCalls() {
		some = append(some, opOf(1, a), opOf(50, a))
	}
	for i, f := range wrongFs() {
		for k, o := range oneOfEach() {
			if (i+k)%3 == 0 || i < 40 {
				refusedOp(t, f, o, impl.FsForm)
			}
			o.Vol = []int{1, 50, 60, 0}[(i+k)%4]
			if (i+k)%3 == 1 || i < 40 {
				refusedOp(t, f, o, impl.FsForm)
			}
		}
		refusedOp(t, f, some[i%len(some)], impl.FsForm)
	}
}

// TestWhatIsForReadingAlone: each change of its tree is refused, whatever else there is to be refused.
func TestWhatIsForReadingAlone(t *testing.T) {
	for _, x := range []impl.Tab{lookTab(), impl.TabNew(), fullTab(10), treeOfUsage(4000)} {
		f := system(9, vol(1, "main", false, 4000, x), vol(4, "snap", true, usageByWords(x), x), vol(8, "other", true, 4000, x))
		for i, a := range slices.Concat(moreCalls(x), someCalls(), allCalls("", "A"), allCalls("/x/y", "/"), []asked{askAttr("/f", "A", "v"), askWrite("/f", -1, ""), askCut("/f", 101)}) {
			if i%5 == 0 || len(x.Inodes) < 10 {
				refusedOp(t, f, opOf(4, a), impl.FsRead)
				refusedOp(t, f, opOf(8, a), impl.FsRead)
			}
		}
		// What is no change of its tree is taken.
		for _, id := range []int{4, 8} {
			g := mustOp(t, f, opOfVol(askSnap(id, "a")), opOfVol(askClone(id, "b")), opOfVol(askLimit(id, 4000)))
			if v := volOf(t, g, id); toldTab(v.T) != toldTab(x) || !v.Ro {
				t.Errorf("what is for reading alone is now %s", toldVol(v))
			}
			mustOp(t, g, opOfVol(askDrop(id)))
		}
	}
}

// usedBy is how much more a volume uses behind a change.
func usedBy(t *testing.T, x impl.Tab, a asked) int {
	t.Helper()
	y, code := a.ofWords(x)
	if code != impl.FsGood {
		t.Fatalf("%s: the code %d", a, code)
	}
	return usageByWords(y) - usageByWords(x)
}

func TestAVolumeThatUsesJustItsLimit(t *testing.T) {
	x := lookTab()
	for _, k := range []struct {
		a    asked
		more int
	}{
		{askDir("/n"), 32}, {askFile("/d/n"), 32}, {askWrite("/f", 0, "other"), 0}, {askWrite("/f", 0, "others"), 1}, {askWrite("/f", 5, "x"), 1}, {askWrite("/z", 3, ""), 3}, {askWrite("/z", 100, ""), 100}, {askWrite("/z", 90, "ten bytes."), 100},
		{askCut("/f", 4), -1}, {askCut("/f", 5), 0}, {askCut("/f", 6), 1}, {askCut("/z", 100), 100}, {askUnlink("/z"), -32}, {askUnlink("/f"), 0}, {askRmdir("/e"), -32}, {askLink("/f", "/l"), 0}, {askMove("/d", "/e/d"), 0},
		{askAttr("/z", "k", "v"), 2}, {askAttr("/z", "fourteenbytesx", "sixteen bytes .."), 30}, {askAttr("/d", "a", "of ."), 0}, {askAttr("/d", "a", "of dd"), 1}, {askAttr("/d", "a", ""), -5}, {askAttr("/z", "k", ""), 0},
	} {
		if got := usedBy(t, x, k.a); got != k.more {
			t.Fatalf("%s uses %d more, not %d", k.a, got, k.more)
		}
		for limit := usageByWords(x); limit <= usageByWords(x)+k.more+3; limit++ {
			f := system(9, vol(1, "main", false, limit, x), vol(3, "snap", true, limit, x), vol(8, "work", false, 4000, x))
			want := map[bool]int{true: impl.FsGood, false: impl.FsQuota}[usageByWords(x)+k.more <= limit]
			g, code := checkOp(t, f, opOf(1, k.a))
			if code != want {
				t.Errorf("%s, which uses %d more, where %d of %d are used: the code %d", k.a, k.more, usageByWords(x), limit, code)
			}
			if code == impl.FsQuota && limit == usageByWords(x)+k.more {
				t.Errorf("%s: a limit that is met is refused", k.a)
			}
			if used := impl.UsageOf(g.Vols[0].T); used > limit {
				t.Errorf("%s: %d are used of %d", k.a, used, limit)
			}
			refusedOp(t, f, opOf(3, k.a), impl.FsRead)
		}
	}
}

func TestEveryLimitIsKept(t *testing.T) {
	for n := 32; n <= 4000; n += 31 {
		for _, used := range []int{n - 1, n} {
			if used < 32 {
				continue
			}
			x := treeOfUsage(used)
			of(&x, 1).Attrs = nil
			free := n - usageByWords(x)
			f := system(2, vol(1, "a", false, n, x))
			for _, more := range []int{free - 1, free, free + 1} {
				if more < 2 || more > 30 {
					continue
				}
				name := strings.Repeat("k", min(more-1, 14))
				o := opOf(1, askAttr("/", name, strings.Repeat("v", more-len(name))))
				if _, code := checkOp(t, f, o); (code == impl.FsQuota) != (more > free) || (code == impl.FsGood) != (more <= free) {
					t.Errorf("%d more where %d of %d are used: the code %d", more, usageByWords(x), n, code)
				}
			}
			_, code := checkOp(t, f, opOf(1, askFile("/new")))
			if free < 32 && code != impl.FsQuota && len(x.Inodes[0].Ents) < 10 {
				t.Errorf("a file where there are %d left of %d: the code %d", free, n, code)
			}
		}
	}
}

// TestWhichCodeOfOperationsComesFirst: in each of these at least two reasons apply.
func TestWhichCodeOfOperationsComesFirst(t *testing.T) {
	x := lookTab()
	tight := system(9, vol(1, "main", false, usageByWords(x), x), vol(4, "snap", true, usageByWords(x), x), vol(8, "full", false, usageByWords(fullTab(10)), fullTab(10)))
	wrong := system(9, vol(1, "main", false, usageByWords(x)-1, x), vol(4, "snap", true, 4000, x))
	most := strings.Repeat("x", 101)
	for _, k := range []struct {
		f    impl.Fs
		o    impl.Op
		want int
	}{
		{wrong, opOf(1, askDir("/n")), impl.FsForm}, {wrong, opOf(1, askUnlink("/z")), impl.FsForm}, {wrong, opOf(4, askDir("/n")), impl.FsForm}, {wrong, opOf(7, askDir("/n")), impl.FsForm}, {wrong, opOf(1, askDir("/d")), impl.FsForm}, {wrong, opOf(4, askDir("/x/y")), impl.FsForm},
		{wrong, opOfVol(askNew("main", 100)), impl.FsForm}, {wrong, opOfVol(askSnap(7, "new")), impl.FsForm}, {wrong, opOfVol(askClone(1, "main")), impl.FsForm}, {wrong, opOfVol(askDrop(7)), impl.FsForm}, {wrong, opOfVol(askLimit(1, 32)), impl.FsForm}, {wrong, impl.Op{Kind: 15, Vol: 7}, impl.FsForm},
		{tight, opOf(7, askDir("n")), impl.FsNone}, {tight, opOf(7, askWrite("/f", 101, most)), impl.FsNone}, {tight, opOf(0, askAttr("/f", "A", most)), impl.FsNone}, {tight, opOf(9, askMove("/", "/")), impl.FsNone}, {tight, opOf(-4, askUnlink("/x")), impl.FsNone},
		{tight, opOf(4, askDir("n")), impl.FsRead}, {tight, opOf(4, askDir("/")), impl.FsRead}, {tight, opOf(4, askDir("/d")), impl.FsRead}, {tight, opOf(4, askDir("/n")), impl.FsRead}, {tight, opOf(4, askFile("/x/y")), impl.FsRead}, {tight, opOf(4, askWrite("/f", 101, "")), impl.FsRead}, {tight, opOf(4, askWrite("/f", 0, most)), impl.FsRead},
		{tight, opOf(4, askCut("/d", 101)), impl.FsRead}, {tight, opOf(4, askUnlink("/d")), impl.FsRead}, {tight, opOf(4, askRmdir("/d")), impl.FsRead}, {tight, opOf(4, askLink("/d", "/l")), impl.FsRead}, {tight, opOf(4, askMove("/d", "/d/x")), impl.FsRead}, {tight, opOf(4, askAttr("/f", "A", "v")), impl.FsRead}, {tight, opOf(4, askAttr("/f", "k", "v")), impl.FsRead},
		{tight, opOf(1, askDir("n")), impl.FsForm}, {tight, opOf(1, askDir("/")), impl.FsForm}, {tight, opOf(1, askDir("/x/y")), impl.FsNone}, {tight, opOf(1, askDir("/f/y")), impl.FsKind}, {tight, opOf(1, askDir("/d")), impl.FsThere}, {tight, opOf(8, askDir("/d/new")), impl.FsFull}, {tight, opOf(1, askDir("/n")), impl.FsQuota},
		{tight, opOf(1, askFile("//")), impl.FsForm}, {tight, opOf(1, askFile("/e")), impl.FsThere}, {tight, opOf(8, askFile("/d/new")), impl.FsFull}, {tight, opOf(8, askFile("/new")), impl.FsQuota},
		{tight, opOf(1, askWrite("/f", 101, most)), impl.FsForm}, {tight, opOf(1, askWrite("/x", 0, most)), impl.FsNone}, {tight, opOf(1, askWrite("/d", 0, most)), impl.FsKind}, {tight, opOf(1, askWrite("/f", 0, most)), impl.FsFull}, {tight, opOf(1, askWrite("/f", 0, most[:100])), impl.FsQuota},
		{tight, opOf(1, askCut("/f", 101)), impl.FsForm}, {tight, opOf(1, askCut("/x", 100)), impl.FsNone}, {tight, opOf(1, askCut("/d", 100)), impl.FsKind}, {tight, opOf(1, askCut("/f", 100)), impl.FsQuota},
		{tight, opOf(1, askAttr("/z", "A", "v")), impl.FsForm}, {tight, opOf(1, askAttr("/z", "k", "seventeen bytes ..")), impl.FsForm}, {tight, opOf(1, askAttr("/x", "k", "v")), impl.FsNone}, {tight, opOf(1, askAttr("/f/x", "k", "v")), impl.FsKind}, {tight, opOf(1, askAttr("/z", "k", "v")), impl.FsQuota},
	} {
		refusedOp(t, k.f, k.o, k.want)
		checkOp(t, k.f, k.o)
	}
	four := table(3, dir(1, 0, ent("f", 2)), file(2, 1, "", attrsOf(4)...))
	refusedOp(t, system(2, vol(1, "a", false, usageByWords(four), four)), opOf(1, askAttr("/f", "new", "v")), impl.FsFull)
	many := manyInodes(30)
	refusedOp(t, system(2, vol(1, "a", false, usageByWords(many), many)), opOf(1, askDir("/d/new")), impl.FsFull)
	last := table(1000, dir(1, 0))
	refusedOp(t, system(2, vol(1, "a", false, 32, last)), opOf(1, askDir("/d")), impl.FsFull)
}

func TestOperationsWithWrongWords(t *testing.T) {
	f := oneOfEachFs()
	for _, path := range wrongPaths() {
		for _, a := range allCalls(path, "/new") {
			refusedOp(t, f, opOf(3, a), impl.FsForm)
		}
		refusedOp(t, f, opOf(3, askLink("/f", path)), impl.FsForm)
		refusedOp(t, f, opOf(3, askMove("/f", path)), impl.FsForm)
	}
	for _, name := range wrongNames() {
		for _, o := range []impl.Op{opOf(3, askAttr("/f", name, "v")), opOf(3, askAttr("/f", name, "")), opOfVol(askNew(name, 100)), opOfVol(askSnap(3, name)), opOfVol(askClone(99, name))} {
			refusedOp(t, f, o, impl.FsForm)
		}
	}
	for _, name := range rightNames() {
		mustOp(t, f, opOf(3, askDir("/"+name+"x"[:min(1, 14-len(name))])), opOf(3, askAttr("/f", name, "v")), opOfVol(askNew(name, 100)))
	}
	for n := range 120 {
		data := strings.Repeat("x", n)
		if _, code := checkOp(t, f, opOf(3, askAttr("/z", "k", data))); (code == impl.FsForm) != (n > 16) {
			t.Errorf("a value of %d bytes: the code %d", n, code)
		}
		if _, code := checkOp(t, f, opOf(3, askWrite("/z", 0, data))); (code == impl.FsFull) != (n > 100) {
			t.Errorf("%d bytes: the code %d", n, code)
		}
	}
}

// TestAnyBytesAreWritten: what an operation has as bytes is taken as it stands.
func TestAnyBytesAreWritten(t *testing.T) {
	for c := range 256 {
		data := string([]byte{byte(c), 'x', byte(c)})
		g := mustOp(t, oneOfEachFs(), opOf(3, askWrite("/z", 0, data)), opOf(3, askAttr("/z", "k", data)))
		x := volOf(t, g, 3).T
		b, _ := impl.ReadFile(x, "/z", 0, 100)
		if val, _ := impl.GetAttr(x, "/z", "k"); string(b) != data || val != data {
			t.Errorf("%q is written as %q, and as %q", data, b, val)
		}
	}
}

func TestAnEmptyListIsNilInAnOperation(t *testing.T) {
	for _, o := range oneOfEach() {
		bare, full, roomy := o, o, o
		bare.Data, full.Data, roomy.Data = nil, []byte{}, []byte("room")[:0]
		want, code := impl.Apply(oneOfEachFs(), bare)
		for _, other := range []impl.Op{full, roomy} {
			if g, got := impl.Apply(oneOfEachFs(), other); got != code || toldFs(g) != toldFs(want) {
				t.Errorf("%s: an empty list is not nil: %d, and %d", toldOp(o), got, code)
			}
			if string(impl.PutOp(other)) != string(impl.PutOp(bare)) {
				t.Errorf("%s: an empty list is put otherwise than nil", toldOp(o))
			}
		}
	}
	for _, o := range oneOfEach() {
		for _, none := range [][]impl.Vol{nil, {}, manyVols(6).Vols[:0]} {
			checkOp(t, impl.Fs{Vols: none, Next: 1}, o)
		}
	}
}

// rightOps are operations that have a form in bytes, be they of use or not.
func rightOps() []impl.Op {
	l := []impl.Op{}
	for kind := 1; kind <= 14; kind++ {
		for _, n := range []int{0, 1, 99, 100, 127, 128, 16383, 16384, 999999, 1000000} {
			l = append(l, impl.Op{Kind: kind, Vol: n}, impl.Op{Kind: kind, Off: n}, impl.Op{Kind: kind, Vol: 1000000 - n, Path: "/p", To: "/q", Off: n, Data: []byte("data")})
		}
		for _, s := range []string{"/", "/d/f", "A", "\x00", "\xff\x80", strings.Repeat("/name", 30), strings.Repeat("x", 127), strings.Repeat("y", 128), strings.Repeat("z", 20000)} {
			l = append(l, impl.Op{Kind: kind, Path: s}, impl.Op{Kind: kind, To: s}, impl.Op{Kind: kind, Data: []byte(s)}, impl.Op{Kind: kind, Vol: 3, Path: s, To: s + "x", Off: 5, Data: []byte("x" + s)})
		}
	}
	for _, o := range oneOfEach() {
		l = append(l, o)
		for _, odd := range oddParts() {
			if odd.num >= 0 && odd.num <= 1000000 {
				l = append(l, blurred(o, odd))
			}
		}
	}
	return l
}

func TestKnownOperationsAsBytes(t *testing.T) {
	for _, k := range []struct {
		o    impl.Op
		form string
	}{
		{impl.Op{Kind: 1}, "\x01\x00\x00\x00\x00\x00"},
		{impl.Op{Kind: 14, Vol: 99, Off: 4000}, "\x0e\x63\x00\x00\xa0\x1f\x00"},
		{impl.Op{Kind: 9, Vol: 1, Path: "/d", To: "k", Data: []byte("v")}, "\x09\x01\x02/d\x01k\x00\x01v"},
		{impl.Op{Kind: 3, Vol: 128, Path: "/f", Off: 100, Data: []byte("\x00\xff")}, "\x03\x80\x01\x02/f\x00\x64\x02\x00\xff"},
		{impl.Op{Kind: 7, Vol: 2, Path: "/a", To: "/b/c"}, "\x07\x02\x02/a\x04/b/c\x00\x00"},
		{impl.Op{Kind: 10, Path: "main", Off: 32}, "\x0a\x00\x04main\x00\x20\x00"},
		{impl.Op{Kind: 5, Vol: 1000000, Off: 1000000}, "\x05\xc0\x84\x3d\x00\x00\xc0\x84\x3d\x00"},
	} {
		if b := impl.PutOp(k.o); string(b) != k.form {
			t.Errorf("PutOp of %s: %x", toldOp(k.o), b)
		}
		if o, ok := impl.GetOp([]byte(k.form)); !ok || toldOp(o) != toldOp(k.o) {
			t.Errorf("GetOp of %x: %s, %v", k.form, toldOp(o), ok)
		}
	}
}

func sameOp(a, b impl.Op) bool {
	return a.Kind == b.Kind && a.Vol == b.Vol && a.Path == b.Path && a.To == b.To && a.Off == b.Off && string(a.Data) == string(b.Data)
}

func TestOperationsComeBack(t *testing.T) {
	for _, o := range rightOps() {
		b := impl.PutOp(o)
		if string(b) != opForm(o) {
			t.Errorf("PutOp of %s: %x", toldOp(o), b)
		}
		back, ok := impl.GetOp(b)
		if !ok || !sameOp(back, o) {
			t.Errorf("%s comes back as %s, %v", toldOp(o), toldOp(back), ok)
		}
		if string(impl.PutOp(back)) != string(b) {
			t.Errorf("%s is put anew as other bytes", toldOp(o))
		}
	}
}

// TestWhatComesBackIsAppliedAlike: an operation does what it did, when it comes out of its bytes.
func TestWhatComesBackIsAppliedAlike(t *testing.T) {
	for _, o := range rightOps() {
		back, _ := impl.GetOp(impl.PutOp(o))
		want, code := impl.Apply(oneOfEachFs(), o)
		if g, got := impl.Apply(oneOfEachFs(), back); got != code || !impl.SameFs(g, want) {
			t.Errorf("%s is answered with %d, and with %d when it comes back", toldOp(o), code, got)
		}
	}
}

// TestTheLongestTexts: a text of MaxNum bytes is the longest that has a form of its own.
func TestTheLongestTexts(t *testing.T) {
	for _, n := range []int{999999, 1000000} {
		long := strings.Repeat("x", n)
		for _, o := range []impl.Op{{Kind: 1, Path: long}, {Kind: 8, To: long}, {Kind: 3, Data: []byte(long)}, {Kind: 13, Vol: 1000000, Path: long, To: long, Off: 1000000, Data: []byte(long)}} {
			if back, ok := impl.GetOp(impl.PutOp(o)); !ok || !sameOp(back, o) {
				t.Errorf("%s comes back as %s, %v", toldOp(o), toldOp(back), ok)
			}
			refusedOp(t, impl.FsNew(), o, impl.FsNone)
		}
	}
}

func TestWhatIsNotPut(t *testing.T) {
	odd := []int{math.MinInt, -1000000, -2, -1, 1000001, 1000002, 1 << 32, math.MaxInt}
	for _, o := range append(oneOfEach(), rightOps()[:40]...) {
		for _, n := range odd {
			vol, off, both := o, o, o
			vol.Vol, off.Off = n, n
			both.Vol, both.Off = n, n
			for _, wrong := range []impl.Op{vol, off, both} {
				if b := impl.PutOp(wrong); len(b) != 0 {
					t.Errorf("of %s is put %x", toldOp(wrong), b)
				}
			}
		}
		for _, kind := range oddKinds() {
			o.Kind = kind
			if b := impl.PutOp(o); len(b) != 0 {
				t.Errorf("of %s is put %x", toldOp(o), b)
			}
		}
	}
	if len(impl.PutOp(impl.Op{})) != 0 {
		t.Error("of the zero one something is put")
	}
}

func refusedGetOp(t *testing.T, b []byte) {
	t.Helper()
	if o, ok := impl.GetOp(b); ok || !sameOp(o, impl.Op{}) || len(o.Data) != 0 {
		t.Errorf("GetOp of %x: %s, %v", b, toldOp(o), ok)
	}
}

func checkGetOp(t *testing.T, s string) {
	t.Helper()
	want, right := opOfForm(s)
	if o, ok := impl.GetOp([]byte(s)); ok != right || !sameOp(o, want) {
		t.Errorf("GetOp of %x: %s, %v", s, toldOp(o), ok)
	}
}

func TestNoOperationOfWrongBytes(t *testing.T) {
	refusedGetOp(t, nil)
	refusedGetOp(t, []byte{})
	for _, o := range rightOps() {
		b := impl.PutOp(o)
		if len(b) > 200 {
			continue
		}
		for k := range b {
			refusedGetOp(t, b[:k])
			refusedGetOp(t, b[:k:k])
			checkGetOp(t, string(b[k:]))
		}
		for _, more := range []string{"\x00", "\x01", "\x80", "\xff", "\x01a", string(b)} {
			refusedGetOp(t, append(slices.Clone(b), more...))
		}
	}
	for _, kind := range []int{0, 15, 16, 127, 128, 256 + 1, 1000000} {
		for _, o := range oneOfEach() {
			o.Kind = kind
			refusedGetOp(t, []byte(opForm(o)))
		}
	}
}

func TestNoOperationOfOtherForms(t *testing.T) {
	for _, s := range []string{
		// A needless byte in each number, and in each text's count.
		"\x81\x00\x01\x00\x00\x00\x00", "\x01\x81\x00\x00\x00\x00\x00", "\x01\x01\x80\x00\x00\x00\x00", "\x01\x01\x00\x80\x00\x00\x00", "\x01\x01\x00\x00\x80\x00\x00", "\x01\x01\x00\x00\x00\x80\x00",
		"\x81\x80\x00\x01\x00\x00\x00\x00", "\x01\x81\x80\x00\x00\x00\x00\x00", "\x01\x01\x82\x00/a\x00\x00\x00", "\x01\x01\x00\x82\x00/a\x00\x00", "\x01\x01\x00\x00\x85\x00\x00", "\x01\x01\x00\x00\x00\x81\x00x",
		// Numbers above MaxNum, and of four bytes.
		"\x01\xc1\x84\x3d\x00\x00\x00\x00", "\x01\x00\x00\x00\xc1\x84\x3d\x00", "\x01\xff\xff\x7f\x00\x00\x00\x00", "\x01\x80\x80\x80\x01\x00\x00\x00\x00", "\x01\x00\x00\x00\x80\x80\x80\x01\x00", "\xc0\x84\x3d\x00\x00\x00\x00\x00",
		// Counts that go behind the end.
		"\x01\x01\x02/\x00\x00\x00", "\x01\x01\x00\x03/\x00\x00", "\x01\x01\x00\x00\x00\x01", "\x01\x01\xc0\x84\x3d\x00\x00\x00", "\x01\x01\x00\x00\x00\xc0\x84\x3d",
	} {
		refusedGetOp(t, []byte(s))
		checkGetOp(t, s)
	}
	if _, ok := impl.GetOp([]byte("\x01\x01\x00\x00\x00\x00")); !ok {
		t.Error("what the forms above turn is none itself")
	}
}

func TestOperationsOfEveryTurnedByte(t *testing.T) {
	for _, o := range append(oneOfEach(), impl.Op{Kind: 3, Vol: 300, Path: "/d", To: "ab", Off: 20000, Data: []byte("\x00\x80x")}, impl.Op{Kind: 1, Vol: 1000000, Off: 1000000}) {
		s := opForm(o)
		for i := range len(s) {
			for c := range 256 {
				checkGetOp(t, s[:i]+string([]byte{byte(c)})+s[i+1:])
			}
			checkGetOp(t, s[:i]+s[i+1:])
			for _, more := range []string{"\x00", "\x01", "a", "\x80"} {
				checkGetOp(t, s[:i]+more+s[i:])
			}
		}
	}
}

func TestOperationsOfEveryShortBytes(t *testing.T) {
	right := map[string]int{}
	everyText("\x00\x01\x02\x0e\x0f\x80", 7, func(s string) {
		checkGetOp(t, s)
		if o, ok := opOfForm(s); ok {
			right[fmt.Sprint(o.Kind)]++
		}
	})
	for _, kind := range []string{"1", "2", "14"} {
		if right[kind] < 20 {
			t.Error("too few of them are right:", right)
		}
	}
}
