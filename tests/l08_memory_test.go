package tests

import (
	"fmt"
	"slices"
	"strings"
	"testing"

	"loop.example/g00285/impl"
)

// roomyFs is a file system all of whose lists lie within longer ones, and all of that memory.
type roomyFs struct {
	in   impl.Fs
	vols []impl.Vol
	all  [][]impl.Inode
	held [][]impl.Inode
}

func roomy(f impl.Fs) roomyFs {
	r := roomyFs{}
	for _, v := range f.Vols {
		x, all, held := roomyTab(v.T)
		v.T = x
		r.vols, r.all, r.held = append(r.vols, v), append(r.all, all), append(r.held, held)
	}
	for i := range 5 {
		r.vols = append(r.vols, vol(i+1, "room", true, 100, impl.TabNew()))
	}
	r.in = impl.Fs{Vols: r.vols[:len(f.Vols)], Next: f.Next}
	return r
}

func (r roomyFs) told() string {
	s := fmt.Sprint(r.in.Next, len(r.in.Vols)) + toldFs(impl.Fs{Vols: r.vols})
	for i := range r.all {
		s += "\n" + toldAll(r.all[i], r.held[i])
	}
	return s
}

func (r roomyFs) overwrite() {
	for i := range r.all {
		for _, x := range r.held[i] {
			overwrite(x)
		}
		clear(r.all[i])
	}
	clear(r.vols)
}

func overwriteFs(f impl.Fs) {
	for _, v := range f.Vols {
		overwriteTab(v.T)
	}
	clear(f.Vols[:cap(f.Vols)])
}

// fsMemory are file systems whose trees hold lists of each kind, and some that are not right.
func fsMemory() []impl.Fs {
	odd := system(9, vol(1, "odd", false, 100, lookMemoryTab()), vol(1, "odd", true, -1, fullInodesTab()), vol(4, "", false, 0, impl.Tab{}))
	l := []impl.Fs{impl.FsNew(), farVols(71), farVols(99), manyVols(1), manyVols(3), manyVols(6), manyVols(7), odd, {}}
	for i, f := range wrongFs() {
		if i%100 == 0 {
			l = append(l, f)
		}
	}
	return l
}

func TestVolumeCallsReadAndWriteNoSpareRoom(t *testing.T) {
	for i, f := range fsMemory() {
		r := roomy(f)
		kept := r.told()
		if impl.FsOk(r.in) != impl.FsOk(f) || !impl.SameFs(r.in, f) || !impl.SameFs(f, r.in) {
			t.Errorf("file system %d: what lies behind its lists counts", i)
		}
		for id := -1; id < 7; id++ {
			if impl.VolAt(r.in, id) != impl.VolAt(f, id) {
				t.Errorf("file system %d: VolAt %d reads what lies behind", i, id)
			}
		}
		if impl.VolNamed(r.in, "room") != -1 || impl.VolNamed(r.in, "main") != impl.VolNamed(f, "main") {
			t.Errorf("file system %d: VolNamed reads what lies behind", i)
		}
		if r.told() != kept {
			t.Fatalf("file system %d: an argument, or what lies behind it, was written by a call that asks", i)
		}
		for _, a := range append(someVolCalls(), askNew("room", 100), askSnap(1, "room"), askClone(3, "room")) {
			got, id, code := a.of(r.in)
			want, wantId, wantCode := a.of(f)
			if toldFs(got) != toldFs(want) || id != wantId || code != wantCode {
				t.Errorf("file system %d: %s reads what lies behind: %d, %s", i, a, code, toldFs(got))
			}
		}
		if r.told() != kept {
			t.Fatalf("file system %d: an argument, or what lies behind it, was written", i)
		}
	}
}

// fewVolCalls are calls that some right file systems take, and some that none takes.
func fewVolCalls() []askedVol {
	return []askedVol{
		askNew("new", 100), askSnap(1, "new"), askSnap(3, "new"), askClone(1, "new"), askClone(3, "new"), askDrop(1), askDrop(3), askDrop(70), askLimit(1, 4000), askLimit(3, 3500),
		askNew("main", 100), askNew("A", 100), askNew("new", 31), askSnap(9, "new"), askClone(1, "main"), askDrop(0), askLimit(1, 31), askLimit(3, 32), askLimit(9, 100),
	}
}

func TestVolumeCallsAnswerNewMemory(t *testing.T) {
	for i, f := range fsMemory() {
		for _, a := range fewVolCalls() {
			r := roomy(f)
			kept := r.told()
			first, _, _ := a.of(r.in)
			second, _, _ := a.of(r.in)
			want := toldFs(second)
			overwriteFs(first)
			if r.told() != kept {
				t.Errorf("file system %d: %s: the answer shares memory with the argument", i, a)
			}
			if third, _, _ := a.of(r.in); toldFs(second) != want || toldFs(third) != want {
				t.Errorf("file system %d: %s: two answers share memory", i, a)
			}
			r.overwrite()
			if toldFs(second) != want {
				t.Errorf("file system %d: %s: the answer turns with the argument", i, a)
			}
		}
	}
}

// sharingFs is a right file system all of whose trees are the same memory.
func sharingFs() impl.Fs {
	x := sharingTab()
	return system(5, vol(1, "main", false, 1000, x), vol(3, "snap", true, 1000, x), vol(4, "work", false, 1000, x))
}

// checkTreesShareNone writes over each tree of an answer, and over each list of it: all else must stay.
func checkTreesShareNone(t *testing.T, name string, answer func() impl.Fs) {
	t.Helper()
	for place := range answer().Vols {
		got := answer()
		others := slices.Delete(slices.Clone(got.Vols), place, place+1)
		want := toldFs(impl.Fs{Vols: others})
		overwriteTab(got.Vols[place].T)
		if toldFs(impl.Fs{Vols: others}) != want {
			t.Errorf("%s: the tree at %d shares memory with another one", name, place)
		}
		for at := range answer().Vols[place].T.Inodes {
			for _, l := range listsOf {
				got := answer()
				x := got.Vols[place].T
				kept := x.Inodes[at]
				l.leave(&x.Inodes[at])
				want := toldFs(got)
				l.wipe(kept)
				if toldFs(got) != want {
					t.Errorf("%s: the %s of the inode at %d of the tree at %d share memory with another list", name, l.name, at, place)
				}
			}
		}
	}
}

// TestTreesOfOneFileSystemShareNone: what is written over in the tree of one volume is not to be seen in that of another.
func TestTreesOfOneFileSystemShareNone(t *testing.T) {
	if !impl.FsOk(sharingFs()) {
		t.Fatal("the file system is not right")
	}
	for _, a := range fewVolCalls() {
		checkTreesShareNone(t, a.String(), func() impl.Fs {
			g, _, _ := a.of(sharingFs())
			return g
		})
	}
}

// TestATwinsTreeIsItsOwn: what a snapshot or a clone is of may be written over, and they stay, and the other way.
func TestATwinsTreeIsItsOwn(t *testing.T) {
	for _, twin := range []func(int, string) askedVol{askSnap, askClone} {
		for _, x := range []impl.Tab{lookTab(), sharingTab(), fullTab(10), impl.TabNew(), treeOfUsage(4000)} {
			f := system(2, vol(1, "main", false, 4000, x))
			for _, two := range [][2]int{{0, 1}, {1, 0}} {
				g := mustVol(t, f, twin(1, "twin"))
				overwriteTab(g.Vols[two[0]].T)
				if toldTab(g.Vols[two[1]].T) != toldTab(x) || toldTab(f.Vols[0].T) != toldTab(x) {
					t.Errorf("the trees share memory: %s", toldFs(g))
				}
			}
		}
	}
}

// TestWhatIsDroppedIsNotHandedOut: the spare room behind the volumes that are left has none that is gone.
func TestWhatIsDroppedIsNotHandedOut(t *testing.T) {
	for n := 1; n <= 6; n++ {
		for id := 1; id <= n; id++ {
			g, _ := impl.DropVol(manyVols(n), id)
			for _, v := range g.Vols[len(g.Vols):cap(g.Vols)] {
				if toldVol(v) != toldVol(impl.Vol{}) {
					t.Errorf("%d of %d is gone, and behind the others lies %s", id, n, toldVol(v))
				}
			}
		}
	}
}

func TestTextsOfVolumesAreNewMemory(t *testing.T) {
	kept := strings.Clone("name.of-one_ae value of one")
	x := table(9, withAttrs(dir(1, 0, ent(kept[:4], 2), ent(kept[:7], 3)), attr(kept[:4], kept[15:])), dir(2, 1), file(3, 1, "x", attr(kept[8:11], kept[15:20])))
	f := system(5, vol(1, kept[:4], false, 300, x), vol(3, kept[:14], true, 300, x))
	if !impl.FsOk(f) {
		t.Fatal("the file system is not right")
	}
	for _, f := range []impl.Fs{f, system(3, f.Vols...)} {
		for _, name := range []string{kept[5:7], kept[:4], kept[8:14], kept[14:], ""} {
			for _, a := range []askedVol{askNew(name, 100), askNew(name, 1), askSnap(1, name), askSnap(2, name), askClone(3, name), askClone(0, name), askDrop(1), askDrop(2), askLimit(3, 200), askLimit(3, 1)} {
				g, _, _ := a.of(f)
				for _, v := range g.Vols {
					for _, s := range append(textsOf(v.T.Inodes), v.Name) {
						if share(s, kept) {
							t.Errorf("%s: the text %q shares memory with an argument", a, s)
						}
					}
				}
			}
		}
	}
}

func TestTheNewFileSystemIsNewMemory(t *testing.T) {
	first, _, _ := impl.NewVol(impl.FsNew(), "a", 32)
	want := toldFs(system(2, vol(1, "a", false, 32, table(2, dir(1, 0)))))
	second, _, _ := impl.NewVol(impl.FsNew(), "a", 32)
	overwriteFs(first)
	third, _, _ := impl.NewVol(impl.FsNew(), "a", 32)
	if toldFs(second) != want || toldFs(third) != want || toldFs(impl.FsNew()) != "next Id 1" {
		t.Error("two new file systems share memory")
	}
}

func TestVolumesKeepNothing(t *testing.T) {
	f, other := farVols(71), manyVols(6)
	wants := map[askedVol]string{}
	for range 3 {
		for _, a := range someVolCalls() {
			g, id, code := a.of(f)
			s := fmt.Sprint(toldFs(g), " ", id, " ", code)
			if want, was := wants[a]; was && s != want {
				t.Errorf("%s hangs on the calls ahead: %s, not %s", a, s, want)
			}
			wants[a] = s
			a.of(other)
			a.of(impl.Fs{})
		}
		if !impl.FsOk(f) || impl.FsOk(impl.Fs{}) || impl.VolAt(f, 70) != 2 || impl.VolNamed(f, "snap") != 1 || !impl.SameFs(f, farVols(71)) || impl.SameFs(f, other) {
			t.Error("an answer hangs on the calls ahead")
		}
	}
}

// TestVeryManyVolumes: however many there are, they are answered, and refused.
func TestVeryManyVolumes(t *testing.T) {
	f := impl.Fs{Next: 50}
	for i := range 20000 {
		f.Vols = append(f.Vols, vol(i, "a", false, 32, impl.TabNew()))
	}
	if impl.FsOk(f) || impl.VolAt(f, 19999) != 19999 || impl.VolNamed(f, "a") != 0 || impl.VolNamed(f, "b") != -1 || !impl.SameFs(f, f) {
		t.Error("so many volumes are a file system, or are not found")
	}
	for _, a := range []askedVol{askNew("new", 100), askSnap(1, "new"), askClone(1, "new"), askDrop(1), askLimit(1, 100)} {
		if g, id, code := a.of(f); code != impl.FsForm || id != 0 || !impl.SameFs(f, g) {
			t.Errorf("%s: the code %d, and the Id %d", a, code, id)
		}
	}
}

// TestATreeThatLeadsOnFar: a volume's tree that is none may have any length, and the calls need no stack that is as deep.
func TestATreeThatLeadsOnFar(t *testing.T) {
	f := system(2, vol(1, "a", false, 4000, longChain(20000)))
	if impl.FsOk(f) || !impl.SameFs(f, f) {
		t.Error("a tree of too many inodes is right")
	}
	for _, a := range []askedVol{askNew("new", 100), askSnap(1, "new"), askClone(1, "new"), askDrop(1), askLimit(1, 100)} {
		if g, id, code := a.of(f); code != impl.FsForm || id != 0 || !impl.SameFs(f, g) {
			t.Errorf("%s: the code %d, and the Id %d", a, code, id)
		}
	}
}
