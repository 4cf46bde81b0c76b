package tests

import (
	"math/rand/v2"
	"slices"
	"strings"
	"testing"

	"loop.example/g00285/impl"
)

// Promise 8: snapshots and clones have the tree of what they are of; file systems stay right.

// mustVol asks for what is not refused, holds it against the words, and answers the file system behind it.
func mustVol(t *testing.T, f impl.Fs, l ...askedVol) impl.Fs {
	t.Helper()
	for _, a := range l {
		g, code := checkVol(t, f, a)
		if code != impl.FsGood {
			t.Fatalf("%s: the code %d, of %s", a, code, toldFs(f))
		}
		f = g
	}
	return f
}

// volOf is the volume of this Id, which must be there.
func volOf(t *testing.T, f impl.Fs, id int) impl.Vol {
	t.Helper()
	place := impl.VolAt(f, id)
	if place < 0 || place >= len(f.Vols) || f.Vols[place].Id != id {
		t.Fatalf("the place of the Id %d is %d, of %s", id, place, toldFs(f))
	}
	return f.Vols[place]
}

// wantTwin asks whether one volume has the tree and the limit of another one.
func wantTwin(t *testing.T, f impl.Fs, id, twin int, ro bool) {
	t.Helper()
	v, w := volOf(t, f, id), volOf(t, f, twin)
	if !impl.SameTab(v.T, w.T) || toldTab(v.T) != toldTab(w.T) || v.Limit != w.Limit {
		t.Errorf("the tree of %d is %s, of the limit %d, and that of %d is %s, of the limit %d", twin, toldTab(w.T), w.Limit, id, toldTab(v.T), v.Limit)
	}
	if w.Ro != ro {
		t.Errorf("the volume %d: for reading alone: %v", twin, w.Ro)
	}
	if !slices.Equal(impl.PathsOf(v.T), impl.PathsOf(w.T)) || impl.UsageOf(v.T) != impl.UsageOf(w.T) {
		t.Errorf("the paths of %d are %q, and those of %d %q", twin, impl.PathsOf(w.T), id, impl.PathsOf(v.T))
	}
}

func TestSnapshotsAndClonesHaveTheTree(t *testing.T) {
	trees := append(rightTrees(), treeOfUsage(4000), treeOfUsage(3999), treeOfUsage(33))
	for _, x := range trees {
		for _, limit := range []int{usageByWords(x), 4000} {
			for _, ro := range []bool{false, true} {
				f := system(10, vol(2, "before", false, 32, impl.TabNew()), vol(9, "of", ro, limit, x))
				f = mustVol(t, f, askSnap(9, "snap"), askClone(9, "clone"), askClone(10, "from.snap"), askSnap(11, "of.clone"))
				wantTwin(t, f, 9, 10, true)
				wantTwin(t, f, 9, 11, false)
				wantTwin(t, f, 10, 12, false)
				wantTwin(t, f, 11, 13, true)
				if v := volOf(t, f, 9); v.Ro != ro || v.Name != "of" || len(f.Vols) != 6 || f.Next != 14 {
					t.Errorf("what they are of is now %s", toldVol(v))
				}
				f = mustVol(t, f, askDrop(9), askDrop(10), askSnap(12, "snap"), askClone(14, "of"))
				wantTwin(t, f, 12, 14, true)
				wantTwin(t, f, 12, 15, false)
			}
		}
	}
}

// TestALongLineOfTwins: each is made of the one ahead, which goes then.
func TestALongLineOfTwins(t *testing.T) {
	f := system(2, vol(1, "a", false, 500, lookTab()))
	for id := 2; id <= 98; id++ {
		a := askSnap(id-1, "b")
		if id%2 == 0 {
			a = askClone(id-1, "b")
		}
		if id%4 > 1 {
			a.name = "c"
		}
		if impl.VolNamed(f, a.name) >= 0 {
			a.name = "d"
		}
		f = mustVol(t, f, a)
		wantTwin(t, f, id-1, id, id%2 == 1)
		f = mustVol(t, f, askDrop(id-1))
	}
	if len(f.Vols) != 1 || toldTab(f.Vols[0].T) != toldTab(lookTab()) || f.Vols[0].Limit != 500 {
		t.Error("the last one is", toldFs(f))
	}
}

// changeIn does a change to the tree of one volume, where that leaves the file system right.
func changeIn(f impl.Fs, place int, a asked) impl.Fs {
	x, code := a.of(f.Vols[place].T)
	if code != impl.FsGood || usageByWords(x) > f.Vols[place].Limit {
		return f
	}
	l := slices.Clone(f.Vols)
	l[place].T = x
	return system(f.Next, l...)
}

// TestTwinsGoTheirOwnWays: what is done to the tree of one is not done to that of another.
func TestTwinsGoTheirOwnWays(t *testing.T) {
	f := system(2, vol(1, "main", false, 1000, lookTab()))
	f = mustVol(t, f, askSnap(1, "snap"), askClone(1, "one"), askClone(2, "two"))
	for _, a := range moreCalls(lookTab()) {
		for place := range f.Vols {
			g := changeIn(f, place, a)
			for other, v := range g.Vols {
				if other != place && toldVol(v) != toldVol(f.Vols[other]) {
					t.Fatalf("%s of %d: the volume %d is now %s", a, place, other, toldVol(v))
				}
			}
			if !impl.FsOk(g) {
				t.Errorf("%s of %d: no file system any more", a, place)
			}
		}
	}
	f = changeIn(f, 0, askWrite("/f", 0, "other"))
	f = changeIn(f, 2, askUnlink("/z"))
	f = changeIn(f, 3, askDir("/new"))
	f = mustVol(t, f, askSnap(1, "snap.1"), askSnap(3, "snap.2"))
	wantTwin(t, f, 1, 5, true)
	wantTwin(t, f, 3, 6, true)
	for id, data := range map[int]string{1: "other", 2: "hello", 3: "hello", 4: "hello", 5: "other", 6: "hello"} {
		if b, code := impl.ReadFile(volOf(t, f, id).T, "/f", 0, 100); string(b) != data || code != impl.FsGood {
			t.Errorf("/f of the volume %d: %q, %d", id, b, code)
		}
		if _, code := impl.Stat(volOf(t, f, id).T, "/z"); (code == impl.FsNone) != (id == 3 || id == 6) {
			t.Errorf("/z of the volume %d: %d", id, code)
		}
	}
}

func TestWhatIsDroppedIsGone(t *testing.T) {
	for n := 1; n <= 6; n++ {
		f := manyVols(n)
		for place, v := range f.Vols {
			g := mustVol(t, f, askDrop(v.Id))
			if impl.VolAt(g, v.Id) != -1 || impl.VolNamed(g, v.Name) != -1 || len(g.Vols) != n-1 || g.Next != f.Next {
				t.Errorf("%d is not gone: %s", v.Id, toldFs(g))
			}
			for i, w := range slices.Delete(slices.Clone(f.Vols), place, place+1) {
				if toldVol(g.Vols[i]) != toldVol(w) || impl.VolAt(g, w.Id) != i || impl.VolNamed(g, w.Name) != i {
					t.Errorf("%d is gone, and %d is now %s", v.Id, w.Id, toldVol(g.Vols[i]))
				}
			}
		}
	}
}

func TestALimitTurnsNothingElse(t *testing.T) {
	for _, limit := range []int{32, 400, 1000, 4000} {
		f := manyVols(6)
		for place, v := range f.Vols {
			g, code := checkVol(t, f, askLimit(v.Id, limit))
			if want := usageByWords(v.T) > limit; want != (code == impl.FsQuota) || !want && g.Vols[place].Limit != limit {
				t.Errorf("the limit %d of %d: the code %d, and %s", limit, v.Id, code, toldFs(g))
			}
			g.Vols[place].Limit = v.Limit
			if !impl.SameFs(f, g) {
				t.Errorf("the limit of %d turned something else: %s", v.Id, toldFs(g))
			}
		}
	}
}

// everyState goes through all that at most so many calls less one make of the first one, and does each of them to each.
func everyState[S, T any](t *testing.T, first S, told func(S) string, rounds int, calls []T, do func(x S, call T) S) {
	t.Helper()
	seen, now := map[string]int{told(first): 1}, []S{first}
	for range rounds {
		next := []S{}
		for _, x := range now {
			for _, call := range calls {
				y := do(x, call)
				if key := told(y); seen[key] == 0 {
					seen[key] = 1
					next = append(next, y)
				}
			}
		}
		if t.Failed() {
			return
		}
		now = next
	}
	t.Logf("%d of them", len(seen))
}

func everySystem[T any](t *testing.T, rounds int, calls []T, do func(f impl.Fs, call T) impl.Fs) {
	t.Helper()
	everyState(t, impl.FsNew(), toldFs, rounds, calls, do)
}

// TestEverySmallFileSystem goes through all that few calls make of the new one, and does each of them to each.
func TestEverySmallFileSystem(t *testing.T) {
	calls := []askedVol{}
	for _, name := range []string{"a", "b", "c", "B"} {
		for _, limit := range []int{31, 32, 4000} {
			calls = append(calls, askNew(name, limit))
		}
		for id := range 4 {
			calls = append(calls, askSnap(id, name), askClone(id, name))
		}
	}
	for id := range 5 {
		calls = append(calls, askDrop(id), askLimit(id, 4000), askLimit(id, 33), askLimit(id, 4001))
	}
	everySystem(t, 5, calls, func(f impl.Fs, a askedVol) impl.Fs {
		g, _ := checkVol(t, f, a)
		return g
	})
}

// anyVolCall picks a call, by numbers that hang on a fixed start alone: mostly of an Id that is there, or of a new name.
func anyVolCall(r *rand.Rand, f impl.Fs) askedVol {
	names, ids := []string{"A", "", "fifteenbytesxxx"}, []int{0, -1, f.Next, 1000}
	for _, v := range f.Vols {
		names, ids = append(names, v.Name), append(ids, v.Id, v.Id, v.Id)
	}
	for range 9 {
		names = append(names, strings.Repeat(string(rune('a'+r.IntN(26))), 1+r.IntN(14)))
	}
	limits := []int{32, 4000, 31, 4001, 33, 100 + r.IntN(300), 500 + r.IntN(3000)}
	a := askedVol{id: ids[r.IntN(len(ids))], name: names[r.IntN(len(names))], limit: limits[r.IntN(len(limits))]}
	a.call = []string{"NewVol", "SnapVol", "SnapVol", "CloneVol", "CloneVol", "DropVol", "DropVol", "SetLimit"}[r.IntN(8)]
	switch a.call {
	case "NewVol":
		a.id = 0
	case "SnapVol", "CloneVol":
		a.limit = 0
	case "DropVol":
		a.name, a.limit = "", 0
	case "SetLimit":
		a.name = ""
	}
	return a
}

// keptTrees are the trees of all volumes that are for reading alone, by their Ids: they must stay as they are.
type keptTrees map[int]string

func (k keptTrees) check(t *testing.T, f impl.Fs) {
	t.Helper()
	for _, v := range f.Vols {
		if was, kept := k[v.Id]; kept && v.Ro && was != toldTab(v.T) {
			t.Fatalf("the snapshot %d was %s, and is %s", v.Id, was, toldTab(v.T))
		}
		if v.Ro {
			k[v.Id] = toldTab(v.T)
		}
	}
}

func TestLongRunsOfVolumes(t *testing.T) {
	met := map[string]map[int]int{"NewVol": {}, "SnapVol": {}, "CloneVol": {}, "DropVol": {}, "SetLimit": {}}
	for run := range 12 {
		r := rand.New(rand.NewPCG(8, uint64(run)))
		f, kept := []impl.Fs{impl.FsNew(), system(2, vol(1, "main", false, 700, lookTab())), farVols(71), manyVols(6)}[run%4], keptTrees{}
		for range 400 {
			if len(f.Vols) > 0 && r.IntN(2) == 0 {
				place := r.IntN(len(f.Vols))
				if !f.Vols[place].Ro {
					f = changeIn(f, place, anyChange(r, f.Vols[place].T))
				}
			}
			a := anyVolCall(r, f)
			g, code := checkVol(t, f, a)
			met[a.call][code]++
			if code == impl.FsGood && a.id != 0 && a.makes() {
				wantTwin(t, g, a.id, f.Next, a.call == "SnapVol")
			}
			kept.check(t, g)
			f = g
		}
		if t.Failed() {
			return
		}
	}
	for call, codes := range map[string][]int{"NewVol": {0, 1, 4, 5}, "SnapVol": {0, 1, 2, 4, 5}, "CloneVol": {0, 1, 2, 4, 5}, "DropVol": {0, 2}, "SetLimit": {0, 1, 2, 8}} {
		for _, code := range codes {
			if met[call][code] == 0 {
				t.Errorf("%s never had the code %d", call, code)
			}
		}
	}
	t.Log(met)
}
