package tests

import (
	"math"
	"slices"
	"strings"
	"testing"

	"loop.example/g00285/impl"
)

var (
	_ func() impl.Fs                                 = impl.FsNew
	_ func(impl.Fs) bool                             = impl.FsOk
	_ func(impl.Fs, int) int                         = impl.VolAt
	_ func(impl.Fs, string) int                      = impl.VolNamed
	_ func(impl.Fs, string, int) (impl.Fs, int, int) = impl.NewVol
	_ func(impl.Fs, int, string) (impl.Fs, int, int) = impl.SnapVol
	_ func(impl.Fs, int, string) (impl.Fs, int, int) = impl.CloneVol
	_ func(impl.Fs, int) (impl.Fs, int)              = impl.DropVol
	_ func(impl.Fs, int, int) (impl.Fs, int)         = impl.SetLimit
	_ func(impl.Fs, impl.Fs) bool                    = impl.SameFs
	_ struct {
		Id    int
		Name  string
		Ro    bool
		Limit int
		T     impl.Tab
	} = impl.Vol{}
	_ struct {
		Vols []impl.Vol
		Next int
	} = impl.Fs{}
)

func TestVolumeConstants(t *testing.T) {
	if impl.MaxVols != 6 {
		t.Error("limit", impl.MaxVols)
	}
}

// volNames are names for as many volumes as there may be, and for two more; they do not ascend.
var volNames = []string{"main", "a", "work.1", "snap-1", "..x", "fourteenbytesx", "other", "m"}

// manyVols is a right file system of n volumes, from the Id 1 on; one in three is for reading alone.
func manyVols(n int) impl.Fs {
	f := impl.Fs{Next: n + 1}
	trees := rightTrees()
	for i := range n {
		f.Vols = append(f.Vols, vol(i+1, volNames[i], i%3 == 1, 3000+i, trees[i%len(trees)]))
	}
	return f
}

// farVols is a right file system of three volumes whose Ids leave out some; the first may use no more than it does.
func farVols(next int) impl.Fs {
	return system(next, vol(3, "main", false, usageByWords(lookTab()), lookTab()), vol(4, "snap", true, 4000, treeOfUsage(1000)), vol(70, "work", false, 32, impl.TabNew()))
}

func rightFs() []impl.Fs {
	l := []impl.Fs{farVols(71), farVols(98), farVols(99)}
	for next := 1; next <= 99; next++ {
		l = append(l, system(next))
	}
	for n := range 7 {
		f := manyVols(n)
		l = append(l, f, system(98, f.Vols...), system(99, f.Vols...))
	}
	for id := 1; id <= 98; id++ {
		l = append(l, system(id+1, vol(id, "a", id%2 == 0, 32, impl.TabNew())), system(99, vol(id, "a", id%2 == 0, 4000, impl.TabNew())))
	}
	for _, name := range rightNames() {
		l = append(l, system(2, vol(1, name, false, 32, impl.TabNew())), system(3, vol(1, name, true, 32, impl.TabNew()), vol(2, "b", false, 32, impl.TabNew())))
	}
	for _, x := range rightTrees() {
		l = append(l, system(2, vol(1, "a", false, usageByWords(x), x)), system(2, vol(1, "a", true, 4000, x)))
	}
	for _, n := range []int{32, 33, 100, 3999, 4000} {
		l = append(l, system(2, vol(1, "a", false, n, treeOfUsage(n))), system(9, vol(7, "a", false, 4000, treeOfUsage(n)), vol(8, "b", true, n, treeOfUsage(n))))
	}
	return l
}

// wrongVols are volumes that no file system has; each has one reason alone, and is otherwise right.
func wrongVols() []impl.Vol {
	l := []impl.Vol{}
	for _, id := range []int{math.MinInt, -1, 0, 99, 100, 1000, math.MaxInt} {
		l = append(l, vol(id, "wrong", false, 100, impl.TabNew()))
	}
	for _, name := range wrongNames() {
		l = append(l, vol(50, name, false, 100, impl.TabNew()))
	}
	for _, limit := range []int{math.MinInt, -32, -1, 0, 1, 31, 4001, 4002, 1 << 32, math.MaxInt} {
		l = append(l, vol(50, "wrong", true, limit, impl.TabNew()))
	}
	for _, x := range slices.Concat(wrongTrees(), oddTabs()) {
		l = append(l, vol(50, "wrong", false, 4000, x))
	}
	for _, n := range []int{33, 34, 64, 100, 1000, 3999, 4000} {
		l = append(l, vol(50, "wrong", false, n-1, treeOfUsage(n)), vol(50, "wrong", true, max(n/2, 32), treeOfUsage(n)))
	}
	return l
}

func wrongFs() []impl.Fs {
	one, six := vol(1, "a", false, 100, impl.TabNew()), manyVols(6).Vols
	l := []impl.Fs{{}, {Vols: []impl.Vol{{}}}, {Vols: []impl.Vol{{}}, Next: 2}, {Vols: make([]impl.Vol, 40), Next: 99}, manyVols(7), manyVols(8), system(99, manyVols(7).Vols...)}
	for _, next := range []int{math.MinInt, -99, -1, 0, 100, 101, 1 << 32, math.MaxInt} {
		l = append(l, system(next), system(next, one), system(next, six...))
	}
	for _, v := range wrongVols() {
		l = append(l, system(99, v), system(99, one, v), system(99, v, vol(60, "b", false, 100, impl.TabNew())), system(99, append(slices.Clone(six[:5]), v)...))
	}
	// Ids that are not below Next.
	for next := 1; next <= 6; next++ {
		l = append(l, system(next, six...), system(next, six[next-1]))
	}
	// Ids that do not ascend, and names that are there twice.
	for i := range six {
		for k := range i {
			turned, alike, named := slices.Clone(six), slices.Clone(six), slices.Clone(six)
			turned[i], turned[k] = turned[k], turned[i]
			alike[i].Id = alike[k].Id
			named[i].Name = named[k].Name
			l = append(l, system(99, turned...), system(99, alike...), system(7, named...))
		}
	}
	backward := slices.Clone(six)
	slices.Reverse(backward)
	return append(l, system(99, backward...), system(99, one, one))
}

func TestFileSystemsThatAreRightAndThatAreNot(t *testing.T) {
	for i, f := range rightFs() {
		if !impl.FsOk(f) || !fsByWords(f) {
			t.Errorf("right file system %d is none: %s", i, toldFs(f))
		}
	}
	for i, f := range wrongFs() {
		if impl.FsOk(f) || fsByWords(f) {
			t.Errorf("wrong file system %d is one: %s", i, toldFs(f))
		}
	}
}

func TestTheNewFileSystem(t *testing.T) {
	f := impl.FsNew()
	if len(f.Vols) != 0 || f.Next != 1 || !impl.FsOk(f) {
		t.Error("the new one is", toldFs(f))
	}
	if !impl.SameFs(f, impl.Fs{Vols: []impl.Vol{}, Next: 1}) || impl.SameFs(f, impl.Fs{}) {
		t.Error("it is not the same as nothing with the next Id 1")
	}
}

func TestAVolumeMayUseAllThatItMay(t *testing.T) {
	for n := 32; n <= 4000; n++ {
		x := treeOfUsage(n)
		if got := impl.UsageOf(x); got != n || n%500 == 0 && !impl.TreeOk(x) {
			t.Fatalf("a tree of the usage %d, not %d: %s", got, n, toldTab(x))
		}
		for _, ro := range []bool{false, true} {
			if !impl.FsOk(system(2, vol(1, "a", ro, n, x))) {
				t.Errorf("a usage of %d is refused where it is the limit", n)
			}
			if impl.FsOk(system(2, vol(1, "a", ro, n-1, x))) {
				t.Errorf("a usage of %d is one more than the limit", n)
			}
		}
	}
}

func TestPlacesOfVolumes(t *testing.T) {
	f := farVols(80)
	for id, want := range map[int]int{3: 0, 4: 1, 70: 2, 0: -1, 1: -1, 2: -1, 5: -1, 69: -1, 71: -1, 80: -1, -3: -1, 99: -1, math.MinInt: -1, math.MaxInt: -1} {
		if got := impl.VolAt(f, id); got != want {
			t.Errorf("VolAt %d: %d, not %d", id, got, want)
		}
	}
	for name, want := range map[string]int{"main": 0, "snap": 1, "work": 2, "": -1, "mai": -1, "main.": -1, "Main": -1, "main ": -1, "MAIN": -1, "wor": -1, "/work": -1, "none": -1, "\x00": -1} {
		if got := impl.VolNamed(f, name); got != want {
			t.Errorf("VolNamed %q: %d, not %d", name, got, want)
		}
	}
	for _, none := range []impl.Fs{{}, impl.FsNew(), system(99)} {
		if impl.VolAt(none, 0) != -1 || impl.VolAt(none, 1) != -1 || impl.VolNamed(none, "") != -1 || impl.VolNamed(none, "a") != -1 {
			t.Error("a place where there are no volumes")
		}
	}
}

// TestPlacesInWhatIsNotRight: every file system is answered, and of several the first one counts.
func TestPlacesInWhatIsNotRight(t *testing.T) {
	for _, f := range slices.Concat(rightFs(), wrongFs()) {
		ids, names := map[int]int{}, map[string]int{}
		for place, v := range slices.Backward(f.Vols) {
			ids[v.Id], names[v.Name] = place, place
		}
		for id, want := range ids {
			if got := impl.VolAt(f, id); got != want {
				t.Errorf("VolAt %d: %d, not %d, of %s", id, got, want, toldFs(f))
			}
		}
		for name, want := range names {
			if got := impl.VolNamed(f, name); got != want {
				t.Errorf("VolNamed %q: %d, not %d, of %s", name, got, want, toldFs(f))
			}
		}
		for _, id := range []int{math.MinInt, -7, 0, 97, 5000, math.MaxInt} {
			if _, there := ids[id]; !there && impl.VolAt(f, id) != -1 {
				t.Errorf("VolAt %d, which is not there, of %s", id, toldFs(f))
			}
		}
		for _, name := range []string{"", "none", "A", "mainx", "ain"} {
			if _, there := names[name]; !there && impl.VolNamed(f, name) != -1 {
				t.Errorf("VolNamed %q, which is not there, of %s", name, toldFs(f))
			}
		}
	}
}

// refusedVol asks for this code, for no Id, and for the file system as it was beside it: the answer, and what was handed in.
func refusedVol(t *testing.T, f impl.Fs, a askedVol, want int) {
	t.Helper()
	was := toldFs(f)
	g, id, code := a.of(f)
	if code != want || id != 0 || want == impl.FsGood {
		t.Errorf("%s: the code %d, not %d, and the Id %d, of %s", a, code, want, id, was)
	}
	if toldFs(g) != was || !impl.SameFs(f, g) || !impl.SameFs(g, f) {
		t.Errorf("%s is refused, but the answer is %s, of %s", a, toldFs(g), was)
	}
	if toldFs(f) != was {
		t.Errorf("%s is refused, but its argument is now %s, of %s", a, toldFs(f), was)
	}
}

// goodVol asks for FsGood, this Id and this file system, and that it is right.
func goodVol(t *testing.T, f impl.Fs, a askedVol, want impl.Fs, wantId int) {
	t.Helper()
	was := toldFs(f)
	g, id, code := a.of(f)
	if code != impl.FsGood || id != wantId || toldFs(g) != toldFs(want) || !impl.SameFs(g, want) {
		t.Errorf("%s: the code %d, the Id %d, and %s, not %s, of %s", a, code, id, toldFs(g), toldFs(want), was)
	}
	if !fsByWords(g) || !impl.FsOk(g) {
		t.Errorf("%s: no file system any more: %s", a, toldFs(g))
	}
	if toldFs(f) != was {
		t.Errorf("%s: its argument is now %s, of %s", a, toldFs(f), was)
	}
}

// checkVol holds a call against the words, and answers what the program answers.
func checkVol(t *testing.T, f impl.Fs, a askedVol) (impl.Fs, int) {
	t.Helper()
	want, id, code := a.ofWords(f)
	if code == impl.FsGood {
		goodVol(t, f, a, want, id)
	} else {
		refusedVol(t, f, a, code)
	}
	g, _, _ := a.of(f)
	return g, code
}

func TestAKnownRunOfVolumes(t *testing.T) {
	tree := lookTab()
	f := impl.FsNew()
	main := vol(1, "main", false, 1000, impl.TabNew())
	goodVol(t, f, askNew("main", 1000), system(2, main), 1)
	f, _, _ = impl.NewVol(f, "main", 1000)
	main.T, f.Vols[0].T = tree, tree
	snap, work := vol(2, "snap", true, 1000, tree), vol(3, "work", false, 1000, tree)
	goodVol(t, f, askSnap(1, "snap"), system(3, main, snap), 2)
	f, _, _ = impl.SnapVol(f, 1, "snap")
	goodVol(t, f, askClone(2, "work"), system(4, main, snap, work), 3)
	f, _, _ = impl.CloneVol(f, 2, "work")
	goodVol(t, f, askSnap(3, "again"), system(5, main, snap, work, vol(4, "again", true, 1000, tree)), 4)
	goodVol(t, f, askDrop(1), system(4, snap, work), 0)
	goodVol(t, f, askDrop(2), system(4, main, work), 0)
	goodVol(t, f, askDrop(3), system(4, main, snap), 0)
	work.Limit = 400
	goodVol(t, f, askLimit(3, 400), system(4, main, snap, work), 0)
	// What is for reading alone is so in its tree: it may have another limit, and be dropped.
	snap.Limit, work.Limit = 4000, 1000
	goodVol(t, f, askLimit(2, 4000), system(4, main, snap, work), 0)
}

func TestTheEdgesOfLimits(t *testing.T) {
	for _, limit := range []int{math.MinInt, -4000, -32, -1, 0, 1, 30, 31, 32, 33, 34, 3998, 3999, 4000, 4001, 4002, 1 << 32, 1<<32 + 100, math.MaxInt} {
		right := limit >= 32 && limit <= 4000
		for _, f := range []impl.Fs{impl.FsNew(), manyVols(1), farVols(71)} {
			if _, code := checkVol(t, f, askNew("new", limit)); (code == impl.FsGood) != right || !right && code != impl.FsForm {
				t.Errorf("NewVol with the limit %d: the code %d", limit, code)
			}
			checkVol(t, f, askLimit(1, limit))
		}
		for _, was := range []int{32, 100, 4000} {
			f := system(2, vol(1, "a", false, was, impl.TabNew()))
			if _, code := checkVol(t, f, askLimit(1, limit)); (code == impl.FsGood) != right || !right && code != impl.FsForm {
				t.Errorf("SetLimit of %d in the place of %d: the code %d", limit, was, code)
			}
		}
	}
}

func TestALimitThatIsJustWhatIsUsed(t *testing.T) {
	trees := []impl.Tab{impl.TabNew(), lookTab()}
	for _, n := range []int{33, 34, 100, 999, 3999, 4000} {
		trees = append(trees, treeOfUsage(n))
	}
	for _, x := range append(trees, rightTrees()...) {
		n := usageByWords(x)
		for _, ro := range []bool{false, true} {
			f := system(9, vol(1, "a", false, 32, impl.TabNew()), vol(5, "b", ro, 4000, x), vol(8, "c", ro, 4000, treeOfUsage(4000)))
			for _, limit := range []int{n, n + 1, 4000} {
				if limit > 4000 {
					continue
				}
				if g, code := checkVol(t, f, askLimit(5, limit)); code != impl.FsGood || g.Vols[1].Limit != limit {
					t.Errorf("the limit %d where %d is used: the code %d", limit, n, code)
				}
			}
			for _, limit := range []int{n - 1, n - 2, 32, 31} {
				switch {
				case limit < 32:
					refusedVol(t, f, askLimit(5, limit), impl.FsForm)
				case limit < n:
					refusedVol(t, f, askLimit(5, limit), impl.FsQuota)
				}
			}
			refusedVol(t, f, askLimit(8, 3999), impl.FsQuota)
		}
	}
}

func TestAsManyVolumesAsThereMayBe(t *testing.T) {
	for n := range 7 {
		f := manyVols(n)
		for _, a := range []askedVol{askNew("new", 100), askSnap(1, "new"), askClone(1, "new"), askSnap(n, "new"), askClone(n, "new")} {
			_, code := checkVol(t, f, a)
			if want := map[bool]int{false: impl.FsGood, true: impl.FsFull}[n == 6]; code != want && n > 0 {
				t.Errorf("%s where there are %d: the code %d", a, n, code)
			}
		}
	}
	// Where one is gone there is room again.
	full := manyVols(6)
	for id := 1; id <= 6; id++ {
		f, _ := impl.DropVol(full, id)
		for _, a := range []askedVol{askNew("new", 100), askSnap(7-id, "new"), askClone(id%6+1, "new")} {
			g, code := checkVol(t, f, a)
			if a.id != id && (code != impl.FsGood || len(g.Vols) != 6 || g.Vols[5].Id != 7 || g.Next != 8) {
				t.Errorf("%s without the Id %d: the code %d, and %s", a, id, code, toldFs(g))
			}
		}
		refusedVol(t, f, askDrop(id), impl.FsNone)
	}
	for _, n := range []int{7, 8} {
		for _, a := range []askedVol{askNew("new", 100), askSnap(1, "new"), askClone(1, "new"), askDrop(1), askLimit(1, 4000)} {
			refusedVol(t, manyVols(n), a, impl.FsForm)
		}
	}
}

func TestTheLastIds(t *testing.T) {
	for _, a := range []askedVol{askNew("new", 100), askSnap(3, "new"), askClone(3, "new")} {
		for _, next := range []int{71, 72, 96, 97, 98} {
			g, code := checkVol(t, farVols(next), a)
			if code != impl.FsGood || g.Next != next+1 || len(g.Vols) != 4 || g.Vols[3].Id != next {
				t.Errorf("%s at the next Id %d: the code %d, and %s", a, next, code, toldFs(g))
			}
		}
		refusedVol(t, farVols(99), a, impl.FsFull)
		last, _ := checkVol(t, farVols(98), a)
		a.name = "newer"
		refusedVol(t, last, a, impl.FsFull)
	}
	for _, next := range []int{98, 99} {
		g, code := checkVol(t, system(next), askNew("new", 100))
		if (code == impl.FsFull) != (next == 99) || g.Next != 99 {
			t.Errorf("without volumes, at the next Id %d: the code %d, and %s", next, code, toldFs(g))
		}
		// What needs no Id goes on.
		for _, a := range []askedVol{askDrop(3), askDrop(70), askLimit(4, 1000), askLimit(70, 33)} {
			if g, code := checkVol(t, farVols(next), a); code != impl.FsGood || g.Next != next {
				t.Errorf("%s at the next Id %d: the code %d, and then %d", a, next, code, g.Next)
			}
		}
	}
}

// TestIdsAreNotGivenTwice: from FsNew on each volume gets one more, whatever is dropped, until there are 98.
func TestIdsAreNotGivenTwice(t *testing.T) {
	f := impl.FsNew()
	for id := 1; id <= 98; id++ {
		a := []askedVol{askNew("n", 32), askSnap(id-1, "s"), askClone(id-1, "c")}[(id-1)%3]
		g, code := checkVol(t, f, a)
		if code != impl.FsGood || g.Next != id+1 || impl.VolAt(g, id) != len(g.Vols)-1 {
			t.Fatalf("%s: the code %d, and %s", a, code, toldFs(g))
		}
		if id > 1 {
			g, _ = checkVol(t, g, askDrop(id-1))
		}
		f = g
	}
	refusedVol(t, f, askNew("new", 100), impl.FsFull)
	refusedVol(t, f, askClone(98, "new"), impl.FsFull)
	f, _ = checkVol(t, f, askDrop(98))
	if len(f.Vols) != 0 || f.Next != 99 {
		t.Error("all are gone, but there is", toldFs(f))
	}
	refusedVol(t, f, askNew("new", 100), impl.FsFull)
	refusedVol(t, f, askSnap(98, "new"), impl.FsNone)
}

func TestNamesOfVolumes(t *testing.T) {
	for _, f := range []impl.Fs{farVols(71), farVols(99), manyVols(6), manyVols(1)} {
		for _, name := range wrongNames() {
			for _, a := range []askedVol{askNew(name, 100), askNew(name, 31), askSnap(3, name), askSnap(99, name), askClone(3, name), askClone(0, name)} {
				refusedVol(t, f, a, impl.FsForm)
			}
		}
	}
	names := rightNames()
	for n := range 40 {
		names = append(names, strings.Repeat("n", n))
	}
	for _, name := range names {
		for _, a := range []askedVol{askNew(name, 100), askSnap(3, name), askClone(3, name)} {
			g, code := checkVol(t, farVols(71), a)
			if (code == impl.FsGood) != nameByForm(name) {
				t.Errorf("%s: the code %d", a, code)
			}
			if code == impl.FsGood && (g.Vols[3].Name != name || impl.VolNamed(g, name) != 3 || impl.VolAt(g, 71) != 3) {
				t.Errorf("%s is not found again in %s", a, toldFs(g))
			}
		}
	}
}

func TestNamesThatAreThere(t *testing.T) {
	for n := 1; n <= 6; n++ {
		f := manyVols(n)
		for _, v := range f.Vols {
			refusedVol(t, f, askNew(v.Name, 100), impl.FsThere)
			for id := 1; id <= n; id++ {
				refusedVol(t, f, askSnap(id, v.Name), impl.FsThere)
				refusedVol(t, f, askClone(id, v.Name), impl.FsThere)
			}
			// The name of what is gone may be given again.
			g, _ := impl.DropVol(f, v.Id)
			if h, code := checkVol(t, g, askNew(v.Name, 100)); code != impl.FsGood || impl.VolNamed(h, v.Name) != n-1 {
				t.Errorf("%q is gone, but has the code %d", v.Name, code)
			}
		}
	}
	// A name that begins another one, or goes on, is another name.
	for _, name := range []string{"mai", "main.", "mainmain", "ain", "m", "wor", "work0", "sna"} {
		for _, a := range []askedVol{askNew(name, 100), askSnap(4, name), askClone(70, name)} {
			if _, code := checkVol(t, farVols(71), a); code != impl.FsGood {
				t.Errorf("%s: the code %d", a, code)
			}
		}
	}
}

func TestIdsThatAreNotThere(t *testing.T) {
	for _, id := range []int{math.MinInt, -70, -3, -1, 0, 1, 2, 5, 69, 71, 72, 98, 99, 100, 1<<32 + 3, 1<<8 + 3, math.MaxInt} {
		for _, a := range []askedVol{askSnap(id, "new"), askClone(id, "new"), askDrop(id), askLimit(id, 100), askLimit(id, 32), askSnap(id, "main"), askClone(id, "main")} {
			refusedVol(t, farVols(80), a, impl.FsNone)
			refusedVol(t, impl.FsNew(), a, impl.FsNone)
		}
	}
}

// TestWhichCodeOfVolumesComesFirst: in each of these at least two reasons apply.
func TestWhichCodeOfVolumesComesFirst(t *testing.T) {
	full, last, wrong := manyVols(6), farVols(99), manyVols(7)
	for _, k := range []struct {
		f    impl.Fs
		a    askedVol
		want int
	}{
		{wrong, askNew("main", 31), impl.FsForm}, {wrong, askNew("A", 100), impl.FsForm}, {wrong, askNew("main", 100), impl.FsForm}, {wrong, askSnap(9, "main"), impl.FsForm}, {wrong, askClone(9, "A"), impl.FsForm}, {wrong, askDrop(9), impl.FsForm}, {wrong, askLimit(9, 31), impl.FsForm}, {wrong, askLimit(1, 32), impl.FsForm},
		{full, askNew("A", 31), impl.FsForm}, {full, askNew("", 100), impl.FsForm}, {full, askNew("main", 31), impl.FsForm}, {full, askNew("new", 31), impl.FsForm}, {full, askNew("new", 4001), impl.FsForm}, {last, askNew("new", 4001), impl.FsForm}, {last, askNew("main", -1), impl.FsForm},
		{full, askNew("main", 32), impl.FsThere}, {last, askNew("main", 4000), impl.FsThere}, {full, askNew("new", 32), impl.FsFull}, {last, askNew("new", 4000), impl.FsFull},
		{full, askSnap(9, "A"), impl.FsForm}, {full, askClone(9, ".."), impl.FsForm}, {full, askSnap(1, "fifteenbytesxxx"), impl.FsForm}, {last, askClone(3, "A"), impl.FsForm}, {last, askSnap(0, ""), impl.FsForm},
		{full, askSnap(9, "main"), impl.FsNone}, {full, askClone(9, "main"), impl.FsNone}, {full, askSnap(9, "new"), impl.FsNone}, {last, askClone(9, "new"), impl.FsNone}, {last, askSnap(-1, "work"), impl.FsNone},
		{full, askSnap(1, "main"), impl.FsThere}, {full, askClone(2, "main"), impl.FsThere}, {last, askSnap(3, "work"), impl.FsThere}, {last, askClone(4, "snap"), impl.FsThere},
		{full, askSnap(1, "new"), impl.FsFull}, {full, askClone(6, "new"), impl.FsFull}, {last, askSnap(3, "new"), impl.FsFull}, {last, askClone(70, "new"), impl.FsFull},
		{last, askLimit(9, 31), impl.FsForm}, {last, askLimit(9, 4001), impl.FsForm}, {last, askLimit(3, 31), impl.FsForm}, {last, askLimit(4, -5), impl.FsForm}, {last, askLimit(9, 32), impl.FsNone}, {last, askLimit(3, 32), impl.FsQuota}, {last, askLimit(4, 999), impl.FsQuota},
	} {
		refusedVol(t, k.f, k.a, k.want)
		checkVol(t, k.f, k.a)
	}
}

// someVolCalls are calls of which each right file system takes some and refuses others.
func someVolCalls() []askedVol {
	l := []askedVol{}
	ids := []int{math.MinInt, -1, 0, 1, 2, 3, 4, 6, 70, 98, 99, math.MaxInt}
	limits := []int{math.MinInt, 31, 32, 400, 4000, 4001, math.MaxInt}
	for _, name := range []string{"main", "a", "new", "fourteenbytesy", "fifteenbytesxxx", "", "A"} {
		for _, limit := range limits {
			l = append(l, askNew(name, limit))
		}
		for _, id := range ids {
			l = append(l, askSnap(id, name), askClone(id, name))
		}
	}
	for _, id := range ids {
		l = append(l, askDrop(id))
		for _, limit := range limits {
			l = append(l, askLimit(id, limit))
		}
	}
	return l
}

func TestEachCallOfEachRightFileSystem(t *testing.T) {
	met := map[string]map[int]int{}
	for i, f := range rightFs() {
		for k, a := range someVolCalls() {
			// The many that differ by an Id or a name alone share the calls among them.
			if i >= 25 && (i+k)%7 != 0 {
				continue
			}
			_, code := checkVol(t, f, a)
			if met[a.call] == nil {
				met[a.call] = map[int]int{}
			}
			met[a.call][code]++
		}
	}
	for call, codes := range map[string][]int{"NewVol": {0, 1, 4, 5}, "SnapVol": {0, 1, 2, 4, 5}, "CloneVol": {0, 1, 2, 4, 5}, "DropVol": {0, 2}, "SetLimit": {0, 1, 2, 8}} {
		for _, code := range codes {
			if met[call][code] == 0 {
				t.Errorf("%s never had the code %d", call, code)
			}
		}
	}
}

func TestNoChangeOfWhatIsNoFileSystem(t *testing.T) {
	calls := someVolCalls()
	for i, f := range wrongFs() {
		for k, a := range calls {
			if (i+k)%97 == 0 {
				refusedVol(t, f, a, impl.FsForm)
			}
		}
		for _, a := range []askedVol{askNew("new", 100), askSnap(1, "new"), askClone(1, "new"), askDrop(1), askLimit(1, 4000), askDrop(50), askLimit(50, 100)} {
			refusedVol(t, f, a, impl.FsForm)
		}
	}
}

// fullInodesTab is a table whose inodes have two or more of all that there is, so that each part may be turned.
func fullInodesTab() impl.Tab {
	x := table(9)
	for _, ino := range []int{1, 3, 5} {
		x.Inodes = append(x.Inodes, impl.Inode{Ino: ino, Kind: impl.InFile, Links: 2, Data: []byte("data"), Ents: entsOf(2), Attrs: attrsOf(2)})
	}
	return x
}

// treeTurns are what changes make of a tree, and that tree with another next number, less an inode, or with one more.
func treeTurns(x impl.Tab) []impl.Tab {
	l := []impl.Tab{{}, {Inodes: x.Inodes}, {Next: x.Next}, {Inodes: x.Inodes, Next: x.Next + 1}}
	for _, y := range x.Inodes {
		l = append(l, dropByWords(x, y.Ino), table(x.Next, append(slices.Clone(x.Inodes), y)...))
	}
	for _, a := range moreCalls(x) {
		if y, code := a.of(x); code == impl.FsGood && toldTab(y) != toldTab(x) {
			l = append(l, y)
		}
	}
	return l
}

// fsTurns are file systems that each have one part other than f.
func fsTurns(f impl.Fs, turns func(x impl.Tab) []impl.Tab) []impl.Fs {
	l := []impl.Fs{{Vols: f.Vols, Next: f.Next + 1}, {Vols: f.Vols, Next: -f.Next}, {Vols: f.Vols}, {Next: f.Next}}
	for i, old := range f.Vols {
		turned := []impl.Vol{
			vol(old.Id+1, old.Name, old.Ro, old.Limit, old.T), vol(-old.Id, old.Name, old.Ro, old.Limit, old.T), vol(old.Id, old.Name+"x", old.Ro, old.Limit, old.T), vol(old.Id, "", old.Ro, old.Limit, old.T),
			vol(old.Id, strings.ToUpper(old.Name), old.Ro, old.Limit, old.T), vol(old.Id, old.Name, !old.Ro, old.Limit, old.T), vol(old.Id, old.Name, old.Ro, old.Limit-1, old.T), vol(old.Id, old.Name, old.Ro, 0, old.T), {},
		}
		for _, x := range turns(old.T) {
			turned = append(turned, vol(old.Id, old.Name, old.Ro, old.Limit, x))
		}
		for _, v := range turned {
			g := system(f.Next, slices.Clone(f.Vols)...)
			g.Vols[i] = v
			l = append(l, g)
		}
		l = append(l, system(f.Next, slices.Delete(slices.Clone(f.Vols), i, i+1)...), system(f.Next, slices.Insert(slices.Clone(f.Vols), i, old)...), system(f.Next, append(slices.Clone(f.Vols), old)...))
	}
	backward := slices.Clone(f.Vols)
	slices.Reverse(backward)
	return append(l, system(f.Next, backward...))
}

func TestSameFsTurnsWithEachPart(t *testing.T) {
	odd := system(-5, vol(-1, "odd", true, -7, fullInodesTab()), vol(7, "c", false, 9, fullInodesTab()))
	for _, k := range []struct {
		f     impl.Fs
		turns func(x impl.Tab) []impl.Tab
	}{{farVols(80), treeTurns}, {manyVols(4), treeTurns}, {odd, tabTurns}} {
		f := k.f
		if !impl.SameFs(f, f) || impl.SameFs(f, impl.Fs{}) || impl.SameFs(impl.Fs{}, f) || impl.SameFs(f, impl.FsNew()) {
			t.Error("of itself, or of another one")
		}
		for i, g := range fsTurns(f, k.turns) {
			if impl.SameFs(f, g) || impl.SameFs(g, f) {
				t.Errorf("turn %d: %s is the same as %s", i, toldFs(f), toldFs(g))
			}
		}
	}
}

func TestSameFsOfEachTwo(t *testing.T) {
	l := slices.Concat(rightFs()[90:150], wrongFs()[:60], []impl.Fs{{}, impl.FsNew(), farVols(71)})
	texts := []string{}
	for _, f := range l {
		texts = append(texts, toldFs(f))
	}
	for i, f := range l {
		for k, g := range l {
			if impl.SameFs(f, g) != (texts[i] == texts[k]) {
				t.Errorf("the file systems %d and %d: %s, %s", i, k, texts[i], texts[k])
			}
		}
	}
}

func TestAnEmptyListOfVolumesIsNil(t *testing.T) {
	l := []impl.Fs{{Next: 1}, {Vols: []impl.Vol{}, Next: 1}, {Vols: manyVols(6).Vols[:0], Next: 1}}
	bare := func(none []impl.Inode) impl.Fs {
		return system(2, vol(1, "a", false, 32, impl.Tab{Inodes: none, Next: 2}))
	}
	for _, f := range l {
		for _, g := range l {
			if !impl.SameFs(f, g) || !impl.FsOk(g) {
				t.Error("two empty lists of volumes are not the same")
			}
		}
		checkVol(t, f, askNew("main", 32))
		checkVol(t, f, askDrop(1))
	}
	if !impl.SameFs(bare(nil), bare([]impl.Inode{})) {
		t.Error("two empty lists of inodes are not the same")
	}
}
