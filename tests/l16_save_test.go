package tests

import (
	"math"
	"slices"
	"strings"
	"testing"

	"loop.example/g00285/impl"
)

// wantWritten saves g behind f, and asks which records that needs.
func wantWritten(t *testing.T, f, g impl.Fs, want string) (impl.Log, impl.Image) {
	t.Helper()
	l, m := savedOn(t, 24, f)
	e, n := mustSave(t, l, m, askSave(g))
	if got := freshKinds(l, e); got != want || e.Seq != l.Seq+len(want) {
		t.Errorf("%q is written, not %q: %s, behind %s", got, want, toldImage(n), toldImage(m))
	}
	return e, n
}

// behindOps is a file system behind these operations.
func behindOps(t *testing.T, f impl.Fs, l ...impl.Op) impl.Fs {
	t.Helper()
	for _, o := range l {
		g, code := impl.Apply(f, o)
		if code != impl.FsGood {
			t.Fatalf("%s: the code %d, of %s", toldOp(o), code, toldFs(f))
		}
		f = g
	}
	return f
}

func mainAndSnap() impl.Fs {
	return system(4, vol(1, "main", false, 1000, lookTab()), vol(3, "snap", true, 1000, lookTab()))
}

// TestWhatAnOperationCosts: what is as it was is not written again.
func TestWhatAnOperationCosts(t *testing.T) {
	f := mainAndSnap()
	for _, k := range []struct {
		want string
		l    []impl.Op
	}{
		{"", nil},
		{"", []impl.Op{opOf(1, askCut("/f", 5)), opOf(1, askWrite("/f", 0, "h"))}},
		{"nmtr", []impl.Op{opOf(1, askWrite("/f", 0, "x"))}},
		{"nmtr", []impl.Op{opOf(1, askAttr("/", "k", "v"))}},
		{"nmtr", []impl.Op{opOf(1, askLink("/d/h/f", "/d/h/g")), opOf(1, askUnlink("/d/h/f"))}},
		{"nmtr", []impl.Op{opOf(1, askUnlink("/z"))}},
		{"nnmtr", []impl.Op{opOf(1, askUnlink("/f"))}},
		{"nnmtr", []impl.Op{opOf(1, askFile("/new"))}},
		{"nnmtr", []impl.Op{opOf(1, askMove("/z", "/d/z"))}},
		{"mtr", []impl.Op{opOf(1, askFile("/new")), opOf(1, askUnlink("/new"))}},
		{"tr", []impl.Op{opOfVol(askSnap(1, "more"))}},
		{"tr", []impl.Op{opOfVol(askClone(3, "more")), opOfVol(askClone(3, "more.2")), opOfVol(askSnap(5, "more.3"))}},
		{"tr", []impl.Op{opOfVol(askLimit(1, 999))}},
		{"tr", []impl.Op{opOfVol(askDrop(1))}},
		{"tr", []impl.Op{opOfVol(askDrop(3))}},
		{"tr", []impl.Op{opOfVol(askDrop(1)), opOfVol(askDrop(3))}},
		{"tr", []impl.Op{opOfVol(askSnap(1, "a")), opOfVol(askDrop(4))}},
		{"tr", []impl.Op{opOfVol(askSnap(1, "a")), opOfVol(askDrop(3)), opOfVol(askDrop(1)), opOfVol(askClone(4, "main"))}},
		{"nmtr", []impl.Op{opOfVol(askNew("new", 100))}},
		{"nmtr", []impl.Op{opOfVol(askNew("new", 100)), opOfVol(askNew("new.2", 101))}},
		{"nnmtr", []impl.Op{opOfVol(askNew("new", 100)), opOf(4, askFile("/f")), opOfVol(askSnap(4, "new.2"))}},
		{"nmtr", []impl.Op{opOf(1, askWrite("/f", 0, "x")), opOfVol(askSnap(1, "a")), opOfVol(askClone(4, "b"))}},
		{"nmnmtr", []impl.Op{opOfVol(askSnap(1, "a")), opOf(1, askWrite("/f", 0, "x")), opOfVol(askClone(1, "b")), opOf(5, askWrite("/f", 0, "y"))}},
		{"nmmtr", []impl.Op{opOfVol(askClone(1, "b")), opOf(1, askWrite("/f", 0, "x")), opOf(4, askWrite("/f", 0, "x")), opOf(4, askFile("/d/n")), opOf(4, askUnlink("/d/n"))}},
	} {
		wantWritten(t, f, behindOps(t, f, k.l...), k.want)
	}
}

// TestTheSameIsSavedOnceMore: with nothing avoided the log and the image are as they were, whatever is spared.
func TestTheSameIsSavedOnceMore(t *testing.T) {
	for _, k := range append(savedImages(t), imageCase{newLog(3), newImage()}) {
		for _, spare := range []int{-1, 0, 1, 2, 24, math.MinInt, math.MaxInt} {
			e, n, code := checkSave(t, k.l, k.m, askedSave{k.m.F, -1, spare})
			if code != impl.FsGood || !sameLog(e, k.l) || !sameImage(n, k.m) {
				t.Errorf("spare %d: the code %d, and %s, %s", spare, code, toldImage(n), toldLog(e))
			}
		}
	}
}

// TestWhatAnotherVolumeHas: an inode, or a map, is not written where any volume has it, be it saved or done.
func TestWhatAnotherVolumeHas(t *testing.T) {
	one := table(3, dir(1, 0, ent("f", 2)), file(2, 1, "one"))
	two := table(3, dir(1, 0, ent("f", 2)), file(2, 1, "two"))
	three := table(3, dir(1, 0, ent("f", 2)), file(2, 1, "three"))
	a := func(x impl.Tab) impl.Vol { return vol(1, "a", false, 500, x) }
	b := func(x impl.Tab) impl.Vol { return vol(2, "b", false, 600, x) }
	c := func(x impl.Tab) impl.Vol { return vol(3, "c", true, 700, x) }
	later := one
	later.Next = 9
	for _, k := range []struct {
		from, to []impl.Vol
		want     string
	}{
		// In another volume of m, ahead and behind.
		{[]impl.Vol{a(one), b(two)}, []impl.Vol{a(two), b(one)}, "tr"},
		{[]impl.Vol{a(one), b(two)}, []impl.Vol{a(two), b(two)}, "tr"},
		{[]impl.Vol{a(one), b(two)}, []impl.Vol{c(two)}, "tr"},
		{[]impl.Vol{c(one)}, []impl.Vol{a(one), b(one)}, "tr"},
		{[]impl.Vol{c(one)}, []impl.Vol{a(two), b(one)}, "nmtr"},
		// In an earlier volume of f, and in a later one.
		{[]impl.Vol{a(one)}, []impl.Vol{a(two), b(two)}, "nmtr"},
		{[]impl.Vol{b(one)}, []impl.Vol{a(two), b(two)}, "nmtr"},
		{[]impl.Vol{b(one)}, []impl.Vol{a(two), b(one), c(two)}, "nmtr"},
		{[]impl.Vol{b(one)}, []impl.Vol{a(two), b(three), c(two)}, "nmnmtr"},
		{nil, []impl.Vol{a(one), b(two), c(one)}, "nnmnmtr"},
		{nil, []impl.Vol{a(one), b(one), c(one)}, "nnmtr"},
		{nil, []impl.Vol{b(impl.TabNew()), c(impl.TabNew())}, "nmtr"},
		// The same map but for its Next is another one.
		{[]impl.Vol{a(one)}, []impl.Vol{a(later)}, "mtr"},
		{[]impl.Vol{a(one)}, []impl.Vol{a(later), b(one), c(later)}, "mtr"},
		{nil, []impl.Vol{a(later), b(one)}, "nnmmtr"},
	} {
		e, n := wantWritten(t, system(4, k.from...), system(4, k.to...), k.want)
		for i, v := range k.to {
			for w, other := range k.to {
				if toldTab(v.T) == toldTab(other.T) && (n.T.Rows[i].Map != n.T.Rows[w].Map || !sameMap(n.Maps[i], n.Maps[w])) {
					t.Errorf("two of one tree have two maps: %s, %s", toldImage(n), toldLog(e))
				}
			}
		}
	}
}

// TestTheSameInodeOfAnotherNumber is another one, and so is the same map of other addresses.
func TestTheSameInodeOfAnotherNumber(t *testing.T) {
	x := table(9, dir(1, 0, ent("f", 2)), file(2, 1, "bytes", attr("k", "v")))
	for ino := 3; ino <= 8; ino++ {
		y := table(9, dir(1, 0, ent("f", ino)), file(ino, 1, "bytes", attr("k", "v")))
		_, n := wantWritten(t, system(2, vol(1, "a", false, 500, x)), system(2, vol(1, "a", false, 500, y)), "nnmtr")
		if n.Maps[0].Places[1] != place(ino, 6) {
			t.Errorf("the inode %d is saved as %s", ino, toldImage(n))
		}
		z := table(9, dir(1, 0, ent("f", 2), ent("g", ino)), file(2, 1, "bytes", attr("k", "v")), file(ino, 1, "bytes", attr("k", "v")))
		wantWritten(t, system(2, vol(1, "a", false, 500, x)), system(2, vol(1, "a", false, 500, z)), "nnmtr")
		wantWritten(t, system(1), system(3, vol(1, "a", false, 500, x), vol(2, "b", false, 500, y)), "nnmnnmtr")
	}
	// An inode of one number may be a file in one volume, and a directory in another.
	f := system(3, vol(1, "a", false, 500, table(3, dir(1, 0, ent("f", 2)), file(2, 1, ""))), vol(2, "b", false, 500, table(3, dir(1, 0, ent("f", 2)), dir(2, 1))))
	wantWritten(t, system(1), f, "nnmnmtr")
}

// layout is a log that is written by hand: each volume's records at the addresses that are told, whatever else has the same.
type layout struct {
	n     int
	pages map[int]wantedRec
	vols  []savedVol
}

// put has the records of a tree at these addresses, the last of which is its map's.
func (y *layout) put(x impl.Tab, addrs ...int) {
	now := savedVol{m: mapOf(x.Next), at: addrs[len(addrs)-1]}
	for i, z := range x.Inodes {
		now.m.Places = append(now.m.Places, place(z.Ino, addrs[i]))
		y.pages[addrs[i]] = wantedRec{addrs[i], impl.RecNode, formOf(z)}
	}
	y.pages[now.at] = wantedRec{now.at, impl.RecMap, mapForm(now.m)}
	y.vols = append(y.vols, now)
}

// image is of the volumes that were put; its table and its root are at the end of the last block that has something.
func (y *layout) image(t *testing.T, f impl.Fs, at int) (impl.Log, impl.Image) {
	t.Helper()
	m := imageOf(f, tableOf(f.Next), at, at+1)
	for i, v := range f.Vols {
		m.T.Rows, m.Maps = append(m.T.Rows, row(v.Id, v.Name, v.Ro, v.Limit, y.vols[i].at)), append(m.Maps, y.vols[i].m)
	}
	y.pages[at], y.pages[at+1] = wantedRec{at, impl.RecTable, tableForm(m.T)}, wantedRec{at + 1, impl.RecRoot, numForm(at)}
	l := newLog(y.n)
	for addr := range 8 * y.n {
		w, there := y.pages[addr]
		if !there && addr/8 <= at/8 {
			// What lies between has another inode, which nothing leads to.
			w = wantedRec{addr, impl.RecNode, formOf(file(999, 1, "dead"))}
		}
		if addr/8 <= at/8 {
			l = withPage(l, addr, recForm(rec(w.kind, addr, w.body)))
		}
	}
	l.Seq = 8 * y.n
	if !impl.LogOk(l) || !impl.ImageOk(l, m) || !imageByWords(l, m) {
		t.Fatalf("the layout is not right: %s", toldImage(m))
	}
	return l, m
}

// TestWhichAddressIsTaken: where several have it, that of the first volume, of those that are not in the block that is avoided.
func TestWhichAddressIsTaken(t *testing.T) {
	x := table(3, dir(1, 0, ent("f", 2)), file(2, 1, "one"))
	f := system(5, vol(1, "a", false, 500, x), vol(2, "b", false, 500, x), vol(3, "c", true, 500, x))
	y := &layout{n: 8, pages: map[int]wantedRec{}}
	// The volume a has its inodes in the blocks 0 and 1, b in 1 and 0, and c in 2 and 3; their maps are in 2, 1 and 3.
	y.put(x, 1, 9, 17)
	y.put(x, 10, 2, 11)
	y.put(x, 18, 26, 27)
	l, m := y.image(t, f, 38)
	g := system(5, append(f.Vols, vol(4, "d", false, 700, x))...)
	for _, k := range []struct {
		avoid    int
		dir, one int
		at       int
		want     string
	}{
		{-1, 1, 9, 17, "tr"},
		{0, 10, 9, 40, "mtr"},
		{1, 1, 2, 40, "mtr"},
		{2, 1, 9, 40, "mtr"},
		{3, 1, 9, 17, "tr"},
		{4, 1, 9, 17, "tr"},
		{5, 1, 9, 17, "tr"},
		{99, 1, 9, 17, "tr"},
	} {
		for _, h := range []impl.Fs{f, g, system(5, f.Vols[2]), system(5, g.Vols[3])} {
			if k.avoid == -1 && toldFs(h) == toldFs(f) {
				continue
			}
			e, n := mustSave(t, l, m, askedSave{h, k.avoid, 1})
			if got := freshKinds(l, e); got != k.want {
				t.Errorf("%d avoided: %q is written, not %q", k.avoid, got, k.want)
			}
			for i := range h.Vols {
				if n.T.Rows[i].Map != k.at || !sameMap(n.Maps[i], mapOf(3, place(1, k.dir), place(2, k.one))) {
					t.Errorf("%d avoided: the volume at %d is %s", k.avoid, i, toldImage(n))
				}
			}
		}
	}
}

// TestWhichMapIsTaken: of several that are the same the first, and one that has the same inodes at other addresses is another.
func TestWhichMapIsTaken(t *testing.T) {
	x := table(3, dir(1, 0, ent("f", 2)), file(2, 1, "one"))
	f := system(5, vol(1, "a", false, 500, x), vol(2, "b", false, 500, x), vol(3, "c", true, 500, x))
	y := &layout{n: 8, pages: map[int]wantedRec{}}
	// All have the same inodes; the maps of a and c are other records than that of b.
	y.put(x, 1, 2, 9)
	y.put(x, 1, 2, 17)
	y.put(x, 1, 2, 25)
	l, m := y.image(t, f, 38)
	for avoid, want := range map[int]int{1: 17, 2: 9, 3: 9, 4: 9, 5: 9, -1: 9, -2: 9, math.MaxInt: 9} {
		e, n := mustSave(t, l, m, askedSave{system(6, f.Vols...), avoid, 1})
		if freshKinds(l, e) != "tr" || n.T.Rows[0].Map != want || n.T.Rows[1].Map != want || n.T.Rows[2].Map != want {
			t.Errorf("%d avoided: %s", avoid, toldImage(n))
		}
	}
	// Without the inodes that it has, none of them is the same.
	e, n := mustSave(t, l, m, askedSave{f, 0, 1})
	if freshKinds(l, e) != "nnmtr" || !sameMap(n.Maps[0], mapOf(3, place(1, 40), place(2, 41))) || n.T.Rows[2].Map != 42 {
		t.Errorf("the inodes avoided: %s", toldImage(n))
	}
}

// TestWhatIsSavedCountsAheadOfWhatIsDone: of a volume of f that is done, and one of m.
func TestWhatIsSavedCountsAheadOfWhatIsDone(t *testing.T) {
	x, z := table(3, dir(1, 0, ent("f", 2)), file(2, 1, "one")), table(3, dir(1, 0, ent("f", 2)), file(2, 1, "two"))
	f := system(4, vol(1, "a", false, 500, z), vol(2, "b", false, 500, x))
	y := &layout{n: 8, pages: map[int]wantedRec{}}
	y.put(z, 1, 2, 9)
	y.put(x, 17, 18, 25)
	l, m := y.image(t, f, 38)
	// What a has now b had: its place is that of b, but for the directory, which a has first.
	g := system(4, vol(1, "a", false, 500, x), vol(2, "b", false, 500, x), vol(3, "c", false, 500, z))
	e, n := mustSave(t, l, m, askSave(g))
	if freshKinds(l, e) != "mtr" || !sameMap(n.Maps[0], mapOf(3, place(1, 1), place(2, 18))) || !sameMap(n.Maps[2], mapOf(3, place(1, 1), place(2, 2))) || n.T.Rows[0].Map != 40 || n.T.Rows[1].Map != 40 || n.T.Rows[2].Map != 9 {
		t.Errorf("nothing avoided: %s", toldImage(n))
	}
	// With the block of b's inodes avoided, they are written for a, and b has them of that.
	e, n = mustSave(t, l, m, askedSave{g, 2, 1})
	if freshKinds(l, e) != "nmtr" || !sameMap(n.Maps[1], mapOf(3, place(1, 1), place(2, 40))) || n.T.Rows[0].Map != 41 || n.T.Rows[1].Map != 41 || n.T.Rows[2].Map != 9 {
		t.Errorf("the block 2 avoided: %s", toldImage(n))
	}
}

// TestAvoidedBlocks: of a block that is full nothing is left to which the image leads.
func TestAvoidedBlocks(t *testing.T) {
	for _, k := range savedImages(t) {
		full := k.l
		for impl.OpenBlock(full, 24) >= 0 {
			full, _, _ = impl.Write(full, impl.RecNode, []byte("fill"), 0)
		}
		for _, l := range []impl.Log{k.l, full} {
			for avoid := -3; avoid < 30; avoid++ {
				for _, spare := range []int{0, 1} {
					e, n, code := checkSave(t, l, k.m, askedSave{k.m.F, avoid, spare})
					if code == impl.FsSpace && len(l.D.C.Blocks) == 3 {
						continue
					}
					if code != impl.FsGood {
						t.Fatalf("%d avoided: the code %d", avoid, code)
					}
					for _, w := range wantedByWords(n) {
						// What has pages left may be written to, avoided or not.
						if w.addr/8 == avoid && impl.NextPage(l.D.C, avoid) == 8 {
							t.Errorf("%d avoided, and %d is led to: %s", avoid, w.addr, toldImage(n))
						}
					}
					if avoid == -1 != (freshKinds(l, e) == "") {
						t.Errorf("%d avoided: %q is written", avoid, freshKinds(l, e))
					}
				}
			}
		}
	}
}

// TestAvoidedBlocksWithoutAnything: a table and a root are written, and all else is where it was.
func TestAvoidedBlocksWithoutAnything(t *testing.T) {
	for _, k := range savedImages(t) {
		blocks := len(k.l.D.C.Blocks)
		avoided := append(farNumbers(), blocks, blocks+1, 24, 25, 191)
		if last := blocks - 1; k.l.Seq < 8*last {
			avoided = append(avoided, last)
		}
		for _, avoid := range avoided {
			e, n := mustSave(t, k.l, k.m, askedSave{system(80, k.m.F.Vols...), avoid, 1})
			want := clonedImage(k.m)
			want.F.Next, want.T.Next, want.At, want.Root = 80, 80, n.At, n.Root
			if freshKinds(k.l, e) != "tr" || !sameImage(n, want) {
				t.Errorf("%d avoided: %q is written: %s", avoid, freshKinds(k.l, e), toldImage(n))
			}
			e, _ = mustSave(t, k.l, k.m, askedSave{k.m.F, avoid, 1})
			if got := freshKinds(k.l, e); got != "tr" && avoid != -1 {
				t.Errorf("%d avoided, and the same: %q is written", avoid, got)
			}
		}
	}
}

// TestTheOpenBlockAvoided: what is written lands there all the same, and no volume takes it of another.
func TestTheOpenBlockAvoided(t *testing.T) {
	x := table(3, dir(1, 0, ent("f", 2)), file(2, 1, "one"))
	f := system(5, vol(1, "a", false, 500, x), vol(2, "b", false, 500, x), vol(3, "c", true, 500, x))
	e, n := mustSave(t, newLog(4), newImage(), askedSave{f, 0, 1})
	if got := freshKinds(newLog(4), e); got != "nnmnnmnnmtr" || n.T.Rows[0].Map != 2 || n.T.Rows[1].Map != 5 || n.T.Rows[2].Map != 8 || !sameMap(n.Maps[2], mapOf(3, place(1, 6), place(2, 7))) {
		t.Errorf("%q is written: %s", got, toldImage(n))
	}
	// Of the volume c the map is in the next block, and its inodes are not.
	e, n = mustSave(t, e, n, askedSave{f, 1, 1})
	if got := n.T.Rows; got[0].Map != 2 || got[1].Map != 2 || got[2].Map != 2 || e.Seq != 13 {
		t.Errorf("the block 1 avoided: %s", toldImage(n))
	}
	again, n := mustSave(t, e, n, askedSave{f, 0, 1})
	if got := freshKinds(e, again); got != "nnmtr" || !sameMap(n.Maps[2], mapOf(3, place(1, 13), place(2, 14))) {
		t.Errorf("the block 0 avoided: %q is written: %s", got, toldImage(n))
	}
}

// TestTheLargestFileSystemsAreSaved: as many inodes as volumes may have fit the largest chip, if nothing is spared.
func TestTheLargestFileSystemsAreSaved(t *testing.T) {
	full := manyInodes(30)
	shared, own := impl.Fs{Next: 99}, impl.Fs{Next: 99}
	for id := 93; id <= 98; id++ {
		name := strings.Repeat(string(rune('a'+id-93)), 14)
		shared.Vols = append(shared.Vols, vol(id, name, true, 4000, full))
		x := table(full.Next, slices.Clone(full.Inodes)...)
		for i := range x.Inodes {
			x.Inodes[i].Attrs = []impl.Attr{attr("of", name)}
		}
		own.Vols = append(own.Vols, vol(id, name, false, 4000, x))
	}
	e, n := savedOn(t, 24, shared)
	if e.Seq != 33 || n.T.Rows[5].Map != 30 {
		t.Errorf("shared: %s", toldImage(n))
	}
	if e, n := savedOn(t, 24, own); e.Seq != 6*31+2 || n.Root != 187 {
		t.Errorf("of their own: %s", toldImage(n))
	}
	wantEnd(t, newLog(24), newImage(), askedSave{own, -1, 1}, impl.FsSpace, 184)
	wantEnd(t, newLog(23), newImage(), askedSave{own, -1, 0}, impl.FsSpace, 184)
}
