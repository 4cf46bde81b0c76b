package tests

import (
	"math"
	"slices"
	"strings"
	"testing"

	"loop.example/g00285/impl"
)

var (
	_ func() impl.Image                                                         = impl.ImageNew
	_ func(impl.Log, impl.Image) bool                                           = impl.ImageOk
	_ func(impl.Log, impl.Image, impl.Fs, int, int) (impl.Log, impl.Image, int) = impl.Save
	_ struct {
		F    impl.Fs
		T    impl.Table
		Maps []impl.Map
		At   int
		Root int
	} = impl.Image{}
)

// clonedImage is of other memory, but for the trees.
func clonedImage(m impl.Image) impl.Image {
	m.F.Vols, m.T.Rows, m.Maps = slices.Clone(m.F.Vols), slices.Clone(m.T.Rows), slices.Clone(m.Maps)
	for i, v := range m.F.Vols {
		m.F.Vols[i].T.Inodes = slices.Clone(v.T.Inodes)
	}
	for i, x := range m.Maps {
		m.Maps[i].Places = slices.Clone(x.Places)
	}
	return m
}

// imageCase is an image and the log that it is of.
type imageCase struct {
	l impl.Log
	m impl.Image
}

// savedImages are of file systems of no volume, one, and several, some of whose records two volumes lead to.
func savedImages(t *testing.T) []imageCase {
	t.Helper()
	l := []imageCase{}
	add := func(e impl.Log, n impl.Image) { l = append(l, imageCase{e, n}) }
	add(savedOn(t, 3, system(5)))
	add(savedOn(t, 3, system(2, vol(1, "main", true, 32, impl.TabNew()))))
	for _, two := range failingSaves()[1:5] {
		e, n := savedOn(t, 6, two[0])
		add(mustSave(t, e, n, askSave(two[1])))
	}
	f := farVols(71)
	f.Vols[1] = vol(4, "snap", true, 4000, lookTab())
	add(savedOn(t, 6, f))
	return l
}

// checkImage holds ImageOk against the words.
func checkImage(t *testing.T, l impl.Log, m impl.Image) bool {
	t.Helper()
	got, want := impl.ImageOk(l, m), imageByWords(l, m)
	if got != want {
		t.Fatalf("ImageOk is %v, of %s and %s", got, toldImage(m), toldLog(l))
	}
	return got
}

func TestTheNewImage(t *testing.T) {
	m := impl.ImageNew()
	if !sameImage(m, newImage()) || m.F.Next != 1 || m.T.Next != 1 || len(m.F.Vols)+len(m.T.Rows)+len(m.Maps) != 0 || m.At != -1 || m.Root != -1 {
		t.Error("the new image is", toldImage(m))
	}
	// It needs nothing of a log, be that right or not.
	logs := []impl.Log{{}, newLog(3), newLog(24), logOf(off(dev(recordChip(), 7)), 20)}
	for _, d := range wrongDevs() {
		logs = append(logs, logOf(d, 5))
	}
	for _, l := range logs {
		if !checkImage(t, l, m) || !checkImage(t, l, imageOf(impl.Fs{Vols: []impl.Vol{}, Next: 1}, impl.Table{Next: 1, Rows: []impl.Row{}}, -1, -1, []impl.Map{}...)) {
			t.Errorf("the new image is none of %s", toldLog(l))
		}
	}
}

func TestTheNewImageTurned(t *testing.T) {
	l := logOf(dev(recordChip(), 0), 20)
	for _, m := range []impl.Image{
		{}, imageOf(system(1), tableOf(1), 0, 0), imageOf(system(1), tableOf(1), -1, 0), imageOf(system(1), tableOf(1), 0, -1), imageOf(system(1), tableOf(1), -2, -1), imageOf(system(1), tableOf(1), -1, -2), imageOf(system(1), tableOf(1), -1, math.MaxInt),
		imageOf(system(2), tableOf(1), -1, -1), imageOf(system(1), tableOf(2), -1, -1), imageOf(system(2), tableOf(2), -1, -1), imageOf(system(0), tableOf(0), -1, -1), imageOf(system(1), tableOf(0), -1, -1), imageOf(system(100), tableOf(100), -1, -1),
		imageOf(system(1), tableOf(1, row(1, "a", false, 32, 0)), -1, -1), imageOf(system(1), tableOf(1), -1, -1, mapOf(2)), imageOf(system(1), tableOf(1), -1, -1, impl.Map{}),
		imageOf(system(2, vol(1, "a", false, 32, impl.TabNew())), tableOf(1), -1, -1), imageOf(system(2, vol(1, "a", false, 32, impl.TabNew())), tableOf(2, row(1, "a", false, 32, -1)), -1, -1, mapOf(2, place(1, -1))),
	} {
		if checkImage(t, l, m) || checkImage(t, newLog(3), m) {
			t.Errorf("right is %s", toldImage(m))
		}
	}
}

// TestAKnownRunOfSaves holds each byte of the pages against those that the document's words give.
func TestAKnownRunOfSaves(t *testing.T) {
	x := table(3, dir(1, 0, ent("f", 2)), file(2, 1, "one"))
	f := system(2, vol(1, "main", false, 500, x))
	l, m := mustSave(t, newLog(4), impl.ImageNew(), askSave(f))
	pages := []string{
		recForm(rec(1, 0, "\x01\x02\x00\x00\x01\x01f\x02\x00")), recForm(rec(1, 1, "\x02\x01\x01\x03one\x00\x00")), recForm(rec(2, 2, "\x03\x02\x01\x00\x02\x01")),
		recForm(rec(3, 3, "\x02\x01\x01\x04main\x00\xf4\x03\x02")), recForm(rec(4, 4, "\x03")),
	}
	want := func(m, want impl.Image, l impl.Log, seq int, blocks ...impl.Block) {
		t.Helper()
		if toldImage(m) != toldImage(want) || l.Seq != seq || toldChip(l.D.C) != toldChip(chip(blocks...)) {
			t.Errorf("%s, not %s, and %s", toldImage(m), toldImage(want), toldLog(l))
		}
	}
	none := block(0, false)
	want(m, imageOf(f, tableOf(2, row(1, "main", false, 500, 2)), 3, 4, mapOf(3, place(1, 0), place(2, 1))), l, 5, block(0, false, pages...), none, none, none)
	// A snapshot is a table and a root.
	g := system(3, vol(1, "main", false, 500, x), vol(2, "snap", true, 500, x))
	l, m = mustSave(t, l, m, askSave(g))
	pages = append(pages, recForm(rec(3, 5, "\x03\x02\x01\x04main\x00\xf4\x03\x02\x02\x04snap\x01\xf4\x03\x02")), recForm(rec(4, 6, "\x05")))
	same := mapOf(3, place(1, 0), place(2, 1))
	want(m, imageOf(g, tableOf(3, row(1, "main", false, 500, 2), row(2, "snap", true, 500, 2)), 5, 6, same, same), l, 7, block(0, false, pages...), none, none, none)
	// What is written in one of them is the inode, its map, the table and the root.
	y := table(3, dir(1, 0, ent("f", 2)), file(2, 1, "two"))
	h := system(3, vol(1, "main", false, 500, y), vol(2, "snap", true, 500, x))
	l, m = mustSave(t, l, m, askSave(h))
	first := block(0, false, append(pages, recForm(rec(1, 7, "\x02\x01\x01\x03two\x00\x00")))...)
	next := []string{recForm(rec(2, 8, "\x03\x02\x01\x00\x02\x07")), recForm(rec(3, 9, "\x03\x02\x01\x04main\x00\xf4\x03\x08\x02\x04snap\x01\xf4\x03\x02")), recForm(rec(4, 10, "\x09"))}
	want(m, imageOf(h, tableOf(3, row(1, "main", false, 500, 8), row(2, "snap", true, 500, 2)), 9, 10, mapOf(3, place(1, 0), place(2, 7)), same), l, 11, first, block(0, false, next...), none, none)
	// All that is in the block 0 is written again, once.
	next = append(next, recForm(rec(1, 11, "\x01\x02\x00\x00\x01\x01f\x02\x00")), recForm(rec(1, 12, "\x02\x01\x01\x03two\x00\x00")), recForm(rec(2, 13, "\x03\x02\x01\x0b\x02\x0c")), recForm(rec(1, 14, "\x02\x01\x01\x03one\x00\x00")), recForm(rec(2, 15, "\x03\x02\x01\x0b\x02\x0e")))
	third := block(0, false, recForm(rec(3, 16, "\x03\x02\x01\x04main\x00\xf4\x03\x0d\x02\x04snap\x01\xf4\x03\x0f")), recForm(rec(4, 17, "\x10")))
	l, m = mustSave(t, l, m, askedSave{h, 0, 0})
	want(m, imageOf(h, tableOf(3, row(1, "main", false, 500, 13), row(2, "snap", true, 500, 15)), 16, 17, mapOf(3, place(1, 11), place(2, 12)), mapOf(3, place(1, 11), place(2, 14))), l, 18, first, block(0, false, next...), third, none)
}

// TestAFileSystemWithNothingIsSaved: the new one is saved already, and needs no record; another Next, or a block that is avoided, is a table and a root.
func TestAFileSystemWithNothingIsSaved(t *testing.T) {
	for _, l := range []impl.Log{newLog(3), logOf(off(dev(recordChip(), 7)), 20), logOf(dev(impl.ChipNew(3), 100000), impl.MaxNum)} {
		if e, n := mustSave(t, l, newImage(), askedSave{impl.FsNew(), -1, 9}); !sameLog(e, l) || !sameImage(n, newImage()) {
			t.Errorf("the new one is saved as %s, %s", toldImage(n), toldLog(e))
		}
	}
	for _, avoid := range []int{0, 1, 2, 3, -2, math.MinInt, math.MaxInt} {
		e, n := mustSave(t, newLog(3), newImage(), askedSave{impl.FsNew(), avoid, 1})
		if !sameImage(n, imageOf(system(1), tableOf(1), 0, 1)) || freshKinds(newLog(3), e) != "tr" {
			t.Errorf("%d avoided: saved as %s", avoid, toldImage(n))
		}
		if !impl.ImageOk(e, newImage()) {
			t.Error("the new image is none any more")
		}
	}
	for next := 2; next <= 99; next++ {
		if _, n := mustSave(t, newLog(3), newImage(), askSave(system(next))); !sameImage(n, imageOf(system(next), tableOf(next), 0, 1)) {
			t.Errorf("the next Id %d: saved as %s", next, toldImage(n))
		}
	}
}

// TestImagesAreOfTheirLog: what one log holds another does not.
func TestImagesAreOfTheirLog(t *testing.T) {
	l := savedImages(t)
	for i, a := range l {
		if !checkImage(t, a.l, a.m) || !checkImage(t, poweredUp(a.l), a.m) || !checkImage(t, logOf(off(a.l.D), a.l.Seq), a.m) {
			t.Errorf("not right is %s", toldImage(a.m))
		}
		// Of a log it asks for the records alone.
		if !checkImage(t, logOf(a.l.D, 0), a.m) || !checkImage(t, logOf(dev(a.l.D.C, -1, bad(5), bad(5)), -1), a.m) {
			t.Errorf("not right, of a log that is not, is %s", toldImage(a.m))
		}
		if checkImage(t, impl.Log{}, a.m) || checkImage(t, newLog(24), a.m) {
			t.Errorf("right without a record is %s", toldImage(a.m))
		}
		for k, b := range l {
			if checkImage(t, b.l, a.m) && k != i {
				t.Errorf("the log %d has the image %d", k, i)
			}
		}
	}
}

// TestImagesWithAnotherFileSystem: each part of it is asked for.
func TestImagesWithAnotherFileSystem(t *testing.T) {
	for _, k := range savedImages(t) {
		turned := fsTurns(k.m.F, treeTurns)
		for i, f := range append(wrongFs(), rightFs()...) {
			if i%17 == 0 {
				turned = append(turned, f)
			}
		}
		for _, f := range turned {
			m := clonedImage(k.m)
			m.F = f
			if checkImage(t, k.l, m) != (toldFs(f) == toldFs(k.m.F)) {
				t.Errorf("right is %s, with %s", toldImage(k.m), toldFs(f))
			}
		}
	}
}

// imageTurns are images that have another table, another map, or more or fewer of them.
func imageTurns(m impl.Image) []impl.Image {
	l := []impl.Image{}
	turn := func(do func(n *impl.Image)) {
		n := clonedImage(m)
		do(&n)
		l = append(l, n)
	}
	for _, next := range []int{0, -1, 1, m.T.Next + 1, m.T.Next + 128, 98, 99, 100, math.MaxInt} {
		turn(func(n *impl.Image) { n.T.Next = next })
		for i := range m.Maps {
			turn(func(n *impl.Image) { n.Maps[i].Next = next })
		}
	}
	turn(func(n *impl.Image) { n.T.Rows = append(n.T.Rows, row(n.T.Next-1, "more", false, 32, 0)) })
	turn(func(n *impl.Image) { n.F.Vols = append(n.F.Vols, vol(n.F.Next-1, "more", false, 32, impl.TabNew())) })
	turn(func(n *impl.Image) { n.Maps = append(n.Maps, mapOf(2)) })
	turn(func(n *impl.Image) { n.Maps = append(n.Maps, mapOf(2, place(1, 0))) })
	for i := range m.Maps {
		turn(func(n *impl.Image) { n.T.Rows = slices.Delete(n.T.Rows, i, i+1) })
		turn(func(n *impl.Image) { n.Maps = slices.Delete(n.Maps, i, i+1) })
		turn(func(n *impl.Image) {
			n.T.Rows, n.Maps, n.F.Vols = slices.Delete(n.T.Rows, i, i+1), slices.Delete(n.Maps, i, i+1), slices.Delete(n.F.Vols, i, i+1)
		})
		for _, r := range []impl.Row{{}, row(99, "a", false, 32, 0)} {
			turn(func(n *impl.Image) { n.T.Rows[i] = r })
		}
		turn(func(n *impl.Image) { n.T.Rows[i].Id++ })
		turn(func(n *impl.Image) { n.T.Rows[i].Name += "x" })
		turn(func(n *impl.Image) { n.T.Rows[i].Ro = !n.T.Rows[i].Ro })
		turn(func(n *impl.Image) { n.T.Rows[i].Limit++ })
		turn(func(n *impl.Image) { n.Maps[i] = impl.Map{} })
		turn(func(n *impl.Image) { n.Maps[i].Places = append(n.Maps[i].Places, place(n.Maps[i].Next-1, 0)) })
		for k := range m.Maps[i].Places {
			turn(func(n *impl.Image) { n.Maps[i].Places = slices.Delete(n.Maps[i].Places, k, k+1) })
			turn(func(n *impl.Image) { n.Maps[i].Places[k].Ino++ })
			turn(func(n *impl.Image) { n.Maps[i].Places[k].Ino = 0 })
		}
	}
	return l
}

func TestImagesWithAnotherTableOrMap(t *testing.T) {
	for _, k := range savedImages(t) {
		for _, m := range imageTurns(k.m) {
			if checkImage(t, k.l, m) && !sameImage(m, k.m) {
				t.Errorf("right is %s, of %s", toldImage(m), toldImage(k.m))
			}
		}
	}
}

// TestImagesWithAnotherAddress: of each address all others, of which the log has some, and some it does not have.
func TestImagesWithAnotherAddress(t *testing.T) {
	for _, k := range savedImages(t) {
		for _, addr := range append(farNumbers(), upTo(200)...) {
			turn := func(do func(n *impl.Image) *int) {
				t.Helper()
				n := clonedImage(k.m)
				at := do(&n)
				was := *at
				*at = addr
				// Where no record is written twice, one address alone is right.
				if checkImage(t, k.l, n) != (addr == was) {
					t.Errorf("%d in the place of %d: %s", addr, was, toldImage(n))
				}
			}
			turn(func(n *impl.Image) *int { return &n.At })
			turn(func(n *impl.Image) *int { return &n.Root })
			for i, x := range k.m.Maps {
				turn(func(n *impl.Image) *int { return &n.T.Rows[i].Map })
				for p := range x.Places {
					turn(func(n *impl.Image) *int { return &n.Maps[i].Places[p].Addr })
				}
			}
		}
	}
}

// withPage is the log with another page at an address.
func withPage(l impl.Log, addr int, s string) impl.Log {
	own := clonedLog(l)
	own.D.C.Blocks[addr/8].Pages[addr%8] = impl.Page{Used: true, B: []byte(s)}
	return own
}

// TestImagesWithAnotherRecord: of another kind, of another body, and torn; a record of another number is as good.
func TestImagesWithAnotherRecord(t *testing.T) {
	for _, k := range savedImages(t) {
		for _, w := range wantedByWords(k.m) {
			r, _ := impl.ReadAt(k.l, w.addr, w.kind)
			for _, seq := range []int{0, r.Seq + 1, 999999} {
				if !checkImage(t, withPage(k.l, w.addr, recForm(rec(w.kind, seq, w.body))), k.m) {
					t.Errorf("the number %d at %d: not right is %s", seq, w.addr, toldImage(k.m))
				}
			}
			wrong := []string{"", "\x01"}
			for kind := range 6 {
				if kind != w.kind {
					wrong = append(wrong, recForm(rec(kind, r.Seq, w.body)))
				}
			}
			last := w.body[len(w.body)-1:]
			for _, body := range []string{"", w.body + "\x00", w.body[1:], w.body[:len(w.body)-1], "\x00" + w.body, w.body[:len(w.body)-1] + string(last[0]^1), strings.Repeat("x", 380)} {
				wrong = append(wrong, recForm(rec(w.kind, r.Seq, body)))
			}
			whole := recForm(rec(w.kind, r.Seq, w.body))
			for n := range len(whole) {
				wrong = append(wrong, whole[:n])
			}
			for _, s := range append(wrong, whole+"\x00") {
				if checkImage(t, withPage(k.l, w.addr, s), k.m) {
					t.Errorf("the page %q at %d: right is %s", s, w.addr, toldImage(k.m))
				}
			}
			own := clonedLog(k.l)
			own.D.C.Blocks[w.addr/8].Pages[w.addr%8] = impl.Page{}
			if checkImage(t, own, k.m) {
				t.Errorf("the page at %d is not written: right is %s", w.addr, toldImage(k.m))
			}
		}
	}
}

// rewritten is the log with the records of an image where that leads to, be its parts right, and of each other, or not.
func rewritten(l impl.Log, m impl.Image) impl.Log {
	put := func(addr, kind int, body string) {
		if fromNoughtTo(addr, 8*len(l.D.C.Blocks)-1) {
			l = withPage(l, addr, recForm(rec(kind, 0, body)))
		}
	}
	for i, x := range m.Maps {
		for k, p := range x.Places {
			if i < len(m.F.Vols) && k < len(m.F.Vols[i].T.Inodes) {
				put(p.Addr, impl.RecNode, formOf(m.F.Vols[i].T.Inodes[k]))
			}
		}
		if i < len(m.T.Rows) {
			put(m.T.Rows[i].Map, impl.RecMap, mapForm(x))
		}
	}
	put(m.At, impl.RecTable, tableForm(m.T))
	put(m.Root, impl.RecRoot, numForm(m.At))
	return l
}

// TestRecordsOfWhatIsNotOfEachOther: all records are those of the table and of the maps, but these are not of the file system.
func TestRecordsOfWhatIsNotOfEachOther(t *testing.T) {
	for _, k := range savedImages(t) {
		if !checkImage(t, rewritten(k.l, k.m), k.m) {
			t.Errorf("not right is %s", toldImage(k.m))
		}
		for _, m := range imageTurns(k.m) {
			if checkImage(t, rewritten(k.l, m), m) && len(m.F.Vols) >= len(k.m.F.Vols) && !sameImage(m, k.m) {
				t.Errorf("right is %s, of %s", toldImage(m), toldImage(k.m))
			}
		}
		for _, f := range fsTurns(k.m.F, treeTurns) {
			m := clonedImage(k.m)
			m.F = f
			checkImage(t, rewritten(k.l, m), m)
		}
	}
}

// imageFor is an image whose parts are all of this file system, be that right or not, and the log with its records.
func imageFor(f impl.Fs) (impl.Log, impl.Image) {
	l, m, next := newLog(24), imageOf(f, tableOf(f.Next), 0, 1), 2
	for _, v := range f.Vols {
		x := mapOf(v.T.Next)
		for _, y := range v.T.Inodes {
			x.Places = append(x.Places, place(y.Ino, next))
			next++
		}
		m.T.Rows, m.Maps = append(m.T.Rows, row(v.Id, v.Name, v.Ro, v.Limit, next)), append(m.Maps, x)
		next++
	}
	return rewritten(l, m), m
}

// TestImagesOfWhatIsNoFileSystem: though each part is of the others, and each record is there.
func TestImagesOfWhatIsNoFileSystem(t *testing.T) {
	for _, f := range rightFs()[:120] {
		if l, m := imageFor(f); !checkImage(t, l, m) {
			t.Errorf("not right is %s", toldImage(m))
		}
	}
	for _, f := range wrongFs() {
		// A record is of bytes: what has no form in them is asked for elsewhere.
		if len(f.Vols) > 8 || slices.ContainsFunc(f.Vols, func(v impl.Vol) bool { return v.Id < 0 || len(v.T.Inodes) > 40 }) {
			continue
		}
		if l, m := imageFor(f); checkImage(t, l, m) {
			t.Errorf("right is %s", toldImage(m))
		}
	}
}

// TestImagesInBadBlocks: what was written is read.
func TestImagesInBadBlocks(t *testing.T) {
	for _, k := range savedImages(t) {
		own := clonedLog(k.l)
		for blk := range own.D.C.Blocks {
			own.D.C.Blocks[blk].Bad = true
		}
		if !checkImage(t, own, k.m) {
			t.Errorf("of bad blocks, not right is %s", toldImage(k.m))
		}
		wantEnd(t, own, k.m, askSave(system(98)), impl.FsSpace, 0)
		wantEnd(t, own, k.m, askSave(k.m.F), impl.FsGood, 0)
	}
}

// TestImagesOfChipsThatAreNot: of a log with too many blocks, of which the record is beyond all addresses, there is none.
func TestImagesOfChipsThatAreNot(t *testing.T) {
	x := impl.TabNew()
	f := system(2, vol(1, "a", false, 32, x))
	for _, shift := range []int{0, 22, 23, 24, 30} {
		base := 8 * shift
		m := imageOf(f, tableOf(2, row(1, "a", false, 32, base+1)), base+2, base+3, mapOf(2, place(1, base)))
		records := []string{recForm(rec(1, 0, formOf(x.Inodes[0]))), recForm(rec(2, 1, mapForm(m.Maps[0]))), recForm(rec(3, 2, tableForm(m.T))), recForm(rec(4, 3, numForm(m.At)))}
		blocks := append(slices.Repeat([]impl.Block{block(0, false)}, shift), block(0, false, records...))
		l := logOf(dev(chip(blocks...), 0), 9)
		if impl.ImageOk(l, m) != (shift < 24) {
			t.Errorf("the address %d: right %v", base, impl.ImageOk(l, m))
		}
		// Nor where what is not right is put as nothing, and a record has just that.
		records[1], records[2] = recForm(rec(2, 1, "")), recForm(rec(3, 2, ""))
		if impl.ImageOk(logOf(dev(chip(append(blocks[:shift], block(0, false, records...))...), 0), 9), m) {
			t.Errorf("the address %d: right with nothing", base)
		}
	}
}

// refusedSave asks for FsForm, and for the log and the image as they were.
func refusedSave(t *testing.T, l impl.Log, m impl.Image, a askedSave) {
	t.Helper()
	e, n, code := a.of(l, m)
	if code != impl.FsForm || !sameLog(e, l) || !sameImage(n, m) {
		t.Errorf("%s: the code %d, and %s, not %s, and %s", a, code, toldImage(n), toldImage(m), toldLog(e))
	}
}

// saves are calls that each have a reason of their own to end as they do, were it not for what is not right.
func saves(k imageCase) []askedSave {
	full := system(7, manyVols(6).Vols...)
	return []askedSave{askSave(k.m.F), {k.m.F, 0, 0}, askSave(system(9)), {full, -1, 0}, {full, -1, 24}, {k.m.F, math.MaxInt, math.MinInt}}
}

// wrongLogsOf are logs that are not right, but have all records of an image.
func wrongLogsOf(l impl.Log) []impl.Log {
	wrong := []impl.Log{logOf(l.D, 0), logOf(l.D, l.Seq-1), logOf(l.D, -1), logOf(l.D, impl.MaxNum+1), logOf(l.D, math.MinInt), logOf(l.D, math.MaxInt)}
	for _, faults := range wrongFaults() {
		wrong = append(wrong, logOf(dev(l.D.C, 5, faults...), l.Seq))
	}
	for _, ops := range wrongOps() {
		wrong = append(wrong, logOf(dev(l.D.C, ops), l.Seq))
	}
	for _, b := range wrongBlocks() {
		own := clonedLog(l)
		own.D.C.Blocks[len(own.D.C.Blocks)-1] = b
		wrong = append(wrong, own, logOf(off(own.D), own.Seq))
	}
	own := clonedLog(l)
	own.D.C.Blocks = append(own.D.C.Blocks, slices.Repeat([]impl.Block{block(0, false)}, 25)...)
	return append(wrong, own)
}

func TestNothingIsSavedToWhatIsNoLog(t *testing.T) {
	cases := append(savedImages(t), imageCase{newLog(3), newImage()})
	for i, k := range cases {
		for n, l := range wrongLogsOf(k.l) {
			for _, a := range saves(k)[(n+i)%3:] {
				// A log that nothing was written to may begin at any number.
				if logByWords(l) {
					continue
				}
				refusedSave(t, l, k.m, a)
			}
		}
		for n, d := range wrongDevs() {
			if (n+i)%5 == 0 {
				refusedSave(t, logOf(d, 5), newImage(), saves(k)[n%6])
				refusedSave(t, logOf(d, 5), k.m, saves(k)[n%6])
			}
		}
	}
	refusedSave(t, impl.Log{}, impl.Image{}, askedSave{})
	refusedSave(t, impl.Log{}, newImage(), askSave(impl.FsNew()))
}

func TestNothingIsSavedBehindWhatIsNoImage(t *testing.T) {
	for i, k := range savedImages(t) {
		wrong := []impl.Image{{}, imageOf(system(1), tableOf(1), 0, 0), imageOf(k.m.F, k.m.T, -1, -1, k.m.Maps...), imageOf(k.m.F, k.m.T, -1, k.m.Root, k.m.Maps...), imageOf(k.m.F, k.m.T, k.m.At, -1, k.m.Maps...), imageOf(k.m.F, k.m.T, 8*len(k.l.D.C.Blocks), k.m.Root, k.m.Maps...), imageOf(k.m.F, k.m.T, k.m.At, 8*len(k.l.D.C.Blocks), k.m.Maps...)}
		for _, m := range append(wrong, imageTurns(k.m)...) {
			if imageByWords(k.l, m) {
				continue
			}
			for _, a := range saves(k)[i%3:] {
				refusedSave(t, k.l, m, a)
			}
			refusedSave(t, logOf(off(k.l.D), k.l.Seq), m, askSave(m.F))
		}
		for n, f := range wrongFs() {
			if (n+i)%11 == 0 {
				m := clonedImage(k.m)
				m.F = f
				refusedSave(t, k.l, m, askSave(f))
				refusedSave(t, k.l, m, askSave(k.m.F))
			}
		}
		for _, w := range wantedByWords(k.m) {
			r, _ := impl.ReadAt(k.l, w.addr, w.kind)
			refusedSave(t, withPage(k.l, w.addr, recForm(rec(1+w.kind%4, r.Seq, w.body))), k.m, askSave(k.m.F))
			refusedSave(t, withPage(k.l, w.addr, recForm(rec(w.kind, r.Seq, w.body+"\x00"))), k.m, askSave(k.m.F))
			refusedSave(t, withPage(k.l, w.addr, "torn"), k.m, askedSave{k.m.F, w.addr / 8, 0})
		}
	}
}

func TestWhatIsNoFileSystemIsNotSaved(t *testing.T) {
	cases := append(savedImages(t), imageCase{newLog(24), newImage()})
	for i, f := range wrongFs() {
		k := cases[i%len(cases)]
		refusedSave(t, k.l, k.m, askedSave{f, []int{-1, 0, 1}[i%3], i % 4})
		refusedSave(t, logOf(off(k.l.D), k.l.Seq), k.m, askSave(f))
		refusedSave(t, logOf(k.l.D, impl.MaxNum), k.m, askSave(f))
	}
	for _, k := range cases {
		refusedSave(t, k.l, k.m, askedSave{impl.Fs{}, -1, 0})
		for _, f := range fsTurns(k.m.F, func(x impl.Tab) []impl.Tab { return []impl.Tab{{}, {Inodes: x.Inodes}, {Next: x.Next}} }) {
			if !fsByWords(f) {
				refusedSave(t, k.l, k.m, askSave(f))
			}
		}
	}
}

// TestVeryLargeImages: however much is handed in, it is answered.
func TestVeryLargeImages(t *testing.T) {
	l, m := savedOn(t, 3, system(2, vol(1, "a", false, 4000, lookTab())))
	long := clonedImage(m)
	long.F.Vols[0].T = longChain(20000)
	places := clonedImage(m)
	places.Maps[0].Places = slices.Repeat(places.Maps[0].Places, 20000)
	many := clonedImage(m)
	many.T.Rows, many.Maps, many.F.Vols = slices.Repeat(many.T.Rows, 20000), slices.Repeat(many.Maps, 20000), slices.Repeat(many.F.Vols, 200)
	named := clonedImage(m)
	named.T.Rows[0].Name = strings.Repeat("a", 1<<20)
	for _, n := range []impl.Image{long, places, many, named} {
		if impl.ImageOk(l, n) {
			t.Error("so much is an image")
		}
		if e, back, code := impl.Save(l, n, m.F, -1, 0); code != impl.FsForm || !sameLog(e, l) || len(back.Maps) != len(n.Maps) || len(back.T.Rows) != len(n.T.Rows) || len(back.F.Vols) != len(n.F.Vols) || len(back.Maps[0].Places) != len(n.Maps[0].Places) {
			t.Error("the code", code)
		}
	}
	if _, _, code := impl.Save(l, m, long.F, -1, 0); code != impl.FsForm {
		t.Error("the code", code)
	}
}
