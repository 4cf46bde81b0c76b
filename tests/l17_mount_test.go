package tests

import (
	"fmt"
	"math"
	"slices"
	"strings"
	"testing"

	"loop.example/g00285/impl"
)

var (
	_ func(impl.Log) []int                   = impl.RootsOf
	_ func(impl.Log, int) (impl.Image, bool) = impl.LoadAt
	_ func(impl.Log) (impl.Log, impl.Image)  = impl.Mount
)

// logOfPages is one of n blocks with these pages, one behind the other.
func logOfPages(n int, l ...string) impl.Log {
	own := newLog(n)
	for addr, s := range l {
		own = withPage(own, addr, s)
	}
	own.Seq = 500000
	return own
}

// noImageAt asks that nothing is loaded there.
func noImageAt(t *testing.T, l impl.Log, addr int) {
	t.Helper()
	if m, ok := checkLoad(t, l, addr); ok || !sameImage(m, newImage()) {
		t.Errorf("at %d is %s, %v, of %s", addr, toldImage(m), ok, toldLog(l))
	}
}

// imageAt asks that this is loaded there.
func imageAt(t *testing.T, l impl.Log, addr int, want impl.Image) {
	t.Helper()
	if m, ok := checkLoad(t, l, addr); !ok || !sameImage(m, want) {
		t.Errorf("at %d is %s, %v, not %s", addr, toldImage(m), ok, toldImage(want))
	}
}

// TestAKnownMount holds what is answered against pages that are written out byte by byte.
func TestAKnownMount(t *testing.T) {
	pages := []string{
		withItsSum("\x01\x00\x09\x01\x02\x00\x00\x01\x01f\x02\x00"), withItsSum("\x01\x01\x09\x02\x01\x01\x03one\x00\x00"), withItsSum("\x02\x02\x06\x03\x02\x01\x00\x02\x01"),
		withItsSum("\x03\x03\x0c\x02\x01\x01\x04main\x00\xf4\x03\x02"), withItsSum("\x04\x04\x01\x03"),
		withItsSum("\x03\x05\x16\x03\x02\x01\x04main\x00\xf4\x03\x02\x02\x04snap\x01\xf4\x03\x02"), withItsSum("\x04\x06\x01\x05"),
	}
	x := table(3, dir(1, 0, ent("f", 2)), file(2, 1, "one"))
	places := mapOf(3, place(1, 0), place(2, 1))
	one := imageOf(system(2, vol(1, "main", false, 500, x)), tableOf(2, row(1, "main", false, 500, 2)), 3, 4, places)
	two := imageOf(system(3, vol(1, "main", false, 500, x), vol(2, "snap", true, 500, x)), tableOf(3, row(1, "main", false, 500, 2), row(2, "snap", true, 500, 2)), 5, 6, places, places)
	for n := range 8 {
		l := logOfPages(3, pages[:n]...)
		want := newImage()
		switch {
		case n == 7:
			want = two
		case n >= 5:
			want = one
		}
		if e := wantMount(t, l, want); e.Seq != n {
			t.Errorf("%d pages: the number %d", n, e.Seq)
		}
	}
	l := logOfPages(3, pages...)
	imageAt(t, l, 4, one)
	imageAt(t, l, 6, two)
	if got := checkRoots(t, l); !slices.Equal(got, []int{6, 4}) {
		t.Error("the roots", got)
	}
	for addr := range 30 {
		if addr != 4 && addr != 6 {
			noImageAt(t, l, addr)
		}
	}
	// Without its last byte the newest root is none.
	l = withPage(l, 6, pages[6][:len(pages[6])-1])
	if e := wantMount(t, l, one); e.Seq != 6 {
		t.Error("the number", e.Seq)
	}
}

// TestNothingIsMountedOfALogWithoutARecord: the next number is 0, whatever was asked for ahead.
func TestNothingIsMountedOfALogWithoutARecord(t *testing.T) {
	logs := []impl.Log{{}, newLog(4, manyFaults(20)...), logOf(off(dev(impl.ChipNew(5), 100000)), impl.MaxNum), logOf(off(dev(impl.ChipNew(3), 7, bad(7), torn(9, 3))), 12)}
	for n := 3; n <= 24; n++ {
		logs = append(logs, newLog(n), logOf(dev(startOfChipRun(n), 0), 5))
	}
	for _, s := range noRecords() {
		logs = append(logs, logOfPages(3, s), logOfPages(3, s, s, s, s, s, s, s, s, s))
	}
	for _, l := range logs {
		if e := wantMount(t, l, newImage()); e.Seq != 0 {
			t.Errorf("the number %d, of %s", e.Seq, toldLog(l))
		}
		if got := checkRoots(t, l); len(got) != 0 {
			t.Errorf("the roots %v, of %s", got, toldLog(l))
		}
		noImageAt(t, l, 0)
		noImageAt(t, l, -1)
	}
}

// TestNothingIsMountedWithoutARoot: a table is none, and what a save wrote ahead of its root is not seen.
func TestNothingIsMountedWithoutARoot(t *testing.T) {
	for _, k := range savedImages(t) {
		l := withPage(k.l, k.m.Root, "")
		for _, r := range checkRoots(t, l) {
			l = withPage(l, r, "")
		}
		if e := wantMount(t, l, newImage()); e.Seq == 0 || len(checkRoots(t, l)) != 0 {
			t.Errorf("the number %d, of %s", e.Seq, toldLog(l))
		}
	}
	for kind := 1; kind <= 3; kind++ {
		l := logOfPages(3, record(kind, 8), record(kind, 7))
		if e := wantMount(t, l, newImage()); e.Seq != 9 {
			t.Error("the number", e.Seq)
		}
	}
}

// rootsOf is a log of n tables, each with its root behind it, which have these numbers; the table of the i-th root has the Next i + 1.
func rootsOf(seqs ...int) impl.Log {
	l := []string{}
	for i, seq := range seqs {
		l = append(l, recForm(rec(3, 0, tableForm(tableOf(i+1)))), recForm(rec(4, seq, numForm(2*i))))
	}
	return logOfPages(3, l...)
}

// rootImage is what the i-th root of rootsOf leads to.
func rootImage(i int) impl.Image { return imageOf(system(i+1), tableOf(i+1), 2*i, 2*i+1) }

// TestTheNewestRootIsMounted: the one with the greatest number, and of those the first.
func TestTheNewestRootIsMounted(t *testing.T) {
	for _, k := range []struct {
		seqs, want []int
	}{
		{[]int{5}, []int{1}},
		{[]int{5, 6}, []int{3, 1}},
		{[]int{6, 5}, []int{1, 3}},
		{[]int{5, 5}, []int{1, 3}},
		{[]int{9, 10, 8}, []int{3, 1, 5}},
		{[]int{9, 10, 100, 11}, []int{5, 7, 3, 1}},
		{[]int{7, 3, 7, 3, 7}, []int{1, 5, 9, 3, 7}},
		{[]int{3, 7, 3, 7, 3}, []int{3, 7, 1, 5, 9}},
		{[]int{0, 0, 0, 0, 0, 0}, []int{1, 3, 5, 7, 9, 11}},
		{[]int{1, 2, 3, 4, 5, 6}, []int{11, 9, 7, 5, 3, 1}},
		{[]int{255, 256, 127, 128, 1, 0}, []int{3, 1, 7, 5, 9, 11}},
		{[]int{2097152 / 4, 16384, 999999, 1000000, 16383, 1000000}, []int{7, 11, 5, 1, 3, 9}},
		{[]int{1000000, 0, 1000000, 999999}, []int{1, 5, 7, 3}},
	} {
		l := rootsOf(k.seqs...)
		if got := checkRoots(t, l); !slices.Equal(got, k.want) {
			t.Errorf("of the numbers %v the roots are %v, not %v", k.seqs, got, k.want)
		}
		wantMount(t, l, rootImage(k.want[0]/2))
		for i := range k.seqs {
			imageAt(t, l, 2*i+1, rootImage(i))
		}
	}
}

// TestEveryOrderOfRoots: of each number of roots with each of a few numbers, of which some can't be loaded.
func TestEveryOrderOfRoots(t *testing.T) {
	for n := 1; n <= 4; n++ {
		for order := range 1 << (2 * n) {
			seqs := []int{}
			for i := range n {
				seqs = append(seqs, 3+order>>(2*i)%4)
			}
			l := rootsOf(seqs...)
			order := checkRoots(t, l)
			for broken := range 1 << n {
				k := clonedLog(l)
				for i := range n {
					if broken>>i%2 == 1 {
						// By its own, or by what it leads to, there is no image.
						k = withPage(k, 2*i+broken%2, []string{recForm(rec(3, 0, "none")), recForm(rec(4, seqs[i], "\x7f"))}[broken%2])
					}
				}
				want := newImage()
				for _, addr := range slices.Backward(order) {
					if broken>>(addr/2)%2 == 0 {
						want = rootImage(addr / 2)
					}
				}
				wantMount(t, k, want)
			}
		}
	}
}

// TestRootsAmongOtherRecords: of any number, which counts only for what Mount leaves.
func TestRootsAmongOtherRecords(t *testing.T) {
	for kind := 1; kind <= 3; kind++ {
		for _, seq := range []int{0, 6, 7, 8, 500, 1000000} {
			l := withPage(withPage(withPage(rootsOf(7, 6), 4, record(kind, seq)), 9, record(kind, seq)), 23, record(kind, seq))
			if got := checkRoots(t, l); !slices.Equal(got, []int{1, 3}) {
				t.Errorf("the roots %v, beside the kind %d, the number %d", got, kind, seq)
			}
			if e := wantMount(t, l, rootImage(0)); e.Seq != min(max(8, seq+1), 1000000) {
				t.Errorf("the number %d, beside the kind %d, the number %d", e.Seq, kind, seq)
			}
		}
	}
}

// TestRootsInBadBlocks: they are read as others, and so is what they lead to.
func TestRootsInBadBlocks(t *testing.T) {
	for bads := range 8 {
		l := withPage(withPage(rootsOf(7, 9, 8), 8, recForm(rec(4, 12, "\x00"))), 16, recForm(rec(4, 11, "\x02")))
		for blk := range 3 {
			l.D.C.Blocks[blk].Bad = bads>>blk%2 == 1
		}
		if got := checkRoots(t, l); !slices.Equal(got, []int{8, 16, 3, 5, 1}) {
			t.Errorf("bad are %b, and the roots %v", bads, got)
		}
		e := wantMount(t, l, imageOf(system(1), tableOf(1), 0, 8))
		for blk := range 3 {
			if e.D.C.Blocks[blk].Bad != (bads>>blk%2 == 1) {
				t.Errorf("bad are %b, and behind it %s", bads, toldLog(e))
			}
		}
	}
	for _, k := range savedImages(t) {
		own := clonedLog(k.l)
		for blk := range own.D.C.Blocks {
			own.D.C.Blocks[blk].Bad = true
		}
		wantMount(t, own, k.m)
	}
}

// TestRootsThatAreTorn: a page that is a beginning of a root is none, be it where it may.
func TestRootsThatAreTorn(t *testing.T) {
	for _, seq := range []int{9, 300, 70000, 1000000} {
		whole := recForm(rec(4, seq, "\x02"))
		for keep := range len(whole) + 1 {
			for _, at := range []int{4, 8, 23} {
				l := withPage(rootsOf(7, 6), at, whole[:keep])
				if keep < len(whole) {
					if e := wantMount(t, l, rootImage(0)); e.Seq != 8 || !slices.Equal(checkRoots(t, l), []int{1, 3}) {
						t.Errorf("%d of %q at %d: the number %d", keep, whole, at, e.Seq)
					}
					noImageAt(t, l, at)
					continue
				}
				if e := wantMount(t, l, imageOf(system(2), tableOf(2), 2, at)); e.Seq != min(seq+1, 1000000) || !slices.Equal(checkRoots(t, l), []int{at, 1, 3}) {
					t.Errorf("%q at %d: the number %d", whole, at, e.Seq)
				}
			}
		}
		for _, s := range []string{whole + "\x00", whole + whole, whole[1:], strings.Replace(whole, "\x02", "\x03", 1)} {
			wantMount(t, withPage(rootsOf(7, 6), 4, s), rootImage(0))
		}
	}
}

// TestWhatARootLeadsTo: of one number alone, and of what is at that address.
func TestWhatARootLeadsTo(t *testing.T) {
	l := withPage(withPage(rootsOf(7, 6), 8, recForm(rec(1, 1, formOf(dir(1, 0))))), 9, recForm(rec(2, 2, mapForm(mapOf(2, place(1, 8))))))
	l = withPage(withPage(l, 16, tableForm(tableOf(1))), 17, recForm(rec(3, 3, "")))
	imageAt(t, withPage(l, 4, recForm(rec(4, 10, "\x00"))), 4, imageOf(system(1), tableOf(1), 0, 4))
	imageAt(t, withPage(l, 4, recForm(rec(4, 10, "\x02"))), 4, imageOf(system(2), tableOf(2), 2, 4))
	for _, body := range []string{
		"", "\x00\x00", "\x02\x00", "\x02\x02", "\x00\x02", "\x80", "\x80\x00", "\x82\x00", "\x82\x80\x00", "\x80\x80\x80", "\xff\xff\xff", "\x00x", "\x02main",
		"\x01", "\x03", "\x04", "\x05", "\x07", "\x08", "\x09", "\x10", "\x11", "\x12", "\x17", "\x18", "\x19", "\x7f", numForm(191), numForm(192), numForm(1000), numForm(1000000), numForm(256 * 1024), numForm(2 + 1<<16), "\xc1\x84\x3d",
	} {
		k := withPage(l, 4, recForm(rec(4, 10, body)))
		noImageAt(t, k, 4)
		if e := wantMount(t, k, rootImage(0)); e.Seq != 11 || !slices.Equal(checkRoots(t, k), []int{4, 1, 3}) {
			t.Errorf("a root with %q: the number %d", body, e.Seq)
		}
	}
}

// aheadAndBehind is a log on which something is saved ahead of k's file system, of which that needs no record.
func aheadAndBehind(t *testing.T, f impl.Fs) (l impl.Log, ahead, m impl.Image) {
	t.Helper()
	x := table(900, dir(1, 0, ent("only", 899)), file(899, 1, "ahead", attr("only", "ahead")))
	l, ahead = savedOn(t, 24, system(90, vol(88, "ahead", false, 500, x)))
	l, m = mustSave(t, l, ahead, askSave(f))
	return l, ahead, m
}

// TestWhatCannotBeLoaded: where any record of an image is another one, or none, what was saved ahead is mounted, and the new image where that is lost, too.
func TestWhatCannotBeLoaded(t *testing.T) {
	for _, saved := range savedImages(t) {
		l, ahead, m := aheadAndBehind(t, saved.m.F)
		wantMount(t, l, m)
		for _, w := range wantedByWords(m) {
			r, _ := impl.ReadAt(l, w.addr, w.kind)
			wrong := []string{"", "\x01", "some bytes", recForm(r)[:1], recForm(r)[:len(recForm(r))-1], recForm(r) + "\x00"}
			for kind := range 6 {
				if kind != w.kind {
					wrong = append(wrong, recForm(rec(kind, r.Seq, w.body)))
				}
			}
			for _, body := range []string{"", w.body + "\x00", w.body[:len(w.body)-1], w.body[1:], "\x00" + w.body, strings.Repeat("x", 380)} {
				wrong = append(wrong, recForm(rec(w.kind, r.Seq, body)))
			}
			for i, s := range wrong {
				k := withPage(l, w.addr, s)
				noImageAt(t, k, m.Root)
				wantMount(t, k, ahead)
				if i%5 == 0 {
					wantMount(t, withPage(k, ahead.At, s), newImage())
				}
			}
			k := clonedLog(l)
			k.D.C.Blocks[w.addr/8].Pages[w.addr%8] = impl.Page{}
			noImageAt(t, k, m.Root)
			wantMount(t, k, ahead)
		}
	}
}

// TestRecordsOfAnotherNumberAreLoaded: an image asks for no number.
func TestRecordsOfAnotherNumberAreLoaded(t *testing.T) {
	for _, saved := range savedImages(t) {
		l, _, m := aheadAndBehind(t, saved.m.F)
		for _, w := range wantedByWords(m) {
			for _, seq := range []int{0, 200, 1000000} {
				k := withPage(l, w.addr, recForm(rec(w.kind, seq, w.body)))
				imageAt(t, k, m.Root, m)
				if w.kind != impl.RecRoot || seq > 0 {
					if e := wantMount(t, k, m); seq > 0 && e.Seq != min(seq+1, 1000000) {
						t.Error("the number", e.Seq)
					}
				}
			}
		}
	}
}

// ledAnew is the log with the maps, the table and the root of an image where that has them, of two maps the first one; the inodes are as they were.
func ledAnew(l impl.Log, m impl.Image) impl.Log {
	for i, x := range slices.Backward(m.Maps) {
		if at := m.T.Rows[i].Map; at < 8*len(l.D.C.Blocks) {
			l = withPage(l, at, recForm(rec(impl.RecMap, 0, mapForm(x))))
		}
	}
	return withPage(withPage(l, m.At, recForm(rec(impl.RecTable, 0, tableForm(m.T)))), m.Root, recForm(rec(impl.RecRoot, 900, numForm(m.At))))
}

// TestWhatDoesNotGoTogether: each record is one, but its inodes are of other numbers, or no tree, or more than the volume may have.
func TestWhatDoesNotGoTogether(t *testing.T) {
	x := table(4, dir(1, 0, ent("d", 2), ent("f", 3)), dir(2, 1), file(3, 1, "hello"))
	l, ahead, m := aheadAndBehind(t, system(3, vol(1, "main", false, 101, x), vol(2, "more", true, 600, x)))
	lost := func(n impl.Image) {
		t.Helper()
		k := ledAnew(l, n)
		noImageAt(t, k, m.Root)
		wantMount(t, k, ahead)
	}
	turned := func(turn func(n *impl.Image)) {
		t.Helper()
		n := clonedImage(m)
		turn(&n)
		lost(n)
	}
	places := m.Maps[0].Places
	for _, l := range [][]impl.Place{
		// An inode in the place of another one, missing, and twice.
		{place(1, places[0].Addr), place(2, places[2].Addr), place(3, places[1].Addr)}, {place(1, places[1].Addr), place(2, places[0].Addr), place(3, places[2].Addr)}, {place(1, places[0].Addr), place(2, places[1].Addr), place(3, places[1].Addr)},
		{place(1, places[0].Addr), place(2, places[1].Addr)}, {place(1, places[0].Addr), place(3, places[2].Addr)}, {place(2, places[1].Addr), place(3, places[2].Addr)}, {place(1, places[0].Addr)}, {},
	} {
		turned(func(n *impl.Image) { n.Maps[0].Places, n.Maps[1].Places = l, l })
	}
	// Of another number than its place, of which alone a tree would be.
	other := withPage(l, 23, recForm(rec(1, 0, formOf(dir(1, 0, ent("f", 2))))))
	other = withPage(other, 22, recForm(rec(1, 0, formOf(file(2, 1, "of another number")))))
	n := clonedImage(m)
	n.Maps[0], n.Maps[1] = mapOf(4, place(1, 23), place(3, 22)), mapOf(4, place(1, 23), place(3, 22))
	noImageAt(t, ledAnew(other, n), m.Root)
	wantMount(t, ledAnew(other, n), ahead)
	n.Maps[0], n.Maps[1] = mapOf(4, place(1, 23), place(2, 22)), mapOf(4, place(1, 23), place(2, 22))
	if _, ok := checkLoad(t, ledAnew(other, n), m.Root); !ok {
		t.Error("of its own number it is not loaded")
	}
	// One more that no entry leads to.
	more := withPage(l, 23, recForm(rec(1, 0, formOf(file(4, 1, "more")))))
	n = clonedImage(m)
	n.Maps[0] = mapOf(5, append(slices.Clone(places), place(4, 23))...)
	noImageAt(t, ledAnew(more, n), m.Root)
	// A limit that is passed by one.
	turned(func(n *impl.Image) { n.T.Rows[0].Limit = 100 })
	turned(func(n *impl.Image) { n.T.Rows[0].Limit = 31 })
	turned(func(n *impl.Image) { n.T.Rows[1].Limit = 4001 })
	// What is no table, and what is no map, is put all the same here.
	turned(func(n *impl.Image) { n.T.Next = 2 })
	turned(func(n *impl.Image) { n.T.Next = 100 })
	turned(func(n *impl.Image) { n.T.Rows[1].Name = "main" })
	turned(func(n *impl.Image) { n.T.Rows[1].Name = "/" })
	turned(func(n *impl.Image) { n.T.Rows[1].Id = 1 })
	turned(func(n *impl.Image) { n.T.Rows[0].Id = 0 })
	turned(func(n *impl.Image) { n.T.Rows[0].Map = 192 })
	turned(func(n *impl.Image) { n.Maps[0].Next, n.Maps[1].Next = 3, 3 })
	turned(func(n *impl.Image) { n.Maps[0].Next, n.Maps[1].Next = 1001, 1001 })
	turned(func(n *impl.Image) { n.Maps[0].Places[0].Addr = 192 })
	turned(func(n *impl.Image) { n.Maps[0].Places[2].Ino = 4 })
	// What it leads to may be other than what was saved, and be right.
	for _, turn := range []func(n *impl.Image){
		func(n *impl.Image) { n.T.Rows[0].Limit, n.F.Vols[0].Limit = 102, 102 },
		func(n *impl.Image) { n.T.Rows[1].Name, n.F.Vols[1].Name = "other", "other" },
		func(n *impl.Image) { n.T.Next, n.F.Next = 9, 9 },
		func(n *impl.Image) {
			n.Maps[0].Next, n.Maps[1].Next, n.F.Vols[0].T.Next, n.F.Vols[1].T.Next = 7, 7, 7, 7
		},
	} {
		n := clonedImage(m)
		turn(&n)
		imageAt(t, ledAnew(l, n), m.Root, n)
		wantMount(t, ledAnew(l, n), n)
	}
}

// TestWhatIsMountedIsAFileSystem: what is put of one that is right, and of one that is not, though each record is there.
func TestWhatIsMountedIsAFileSystem(t *testing.T) {
	for i, f := range rightFs() {
		if i%3 > 0 && len(f.Vols) < 2 {
			continue
		}
		l, m := imageFor(f)
		imageAt(t, l, 1, m)
	}
	for _, f := range wrongFs() {
		// A record is of bytes: what has no form in them is asked for elsewhere.
		if len(f.Vols) > 8 || slices.ContainsFunc(f.Vols, func(v impl.Vol) bool { return v.Id < 0 || len(v.T.Inodes) > 40 }) {
			continue
		}
		l, m := imageFor(f)
		if checkLoad(t, l, 1); imageByWords(l, m) {
			t.Errorf("right is %s", toldImage(m))
		}
		if _, m := checkMount(t, l); !fsByWords(m.F) {
			t.Errorf("mounted is %s", toldImage(m))
		}
	}
}

// TestLoadingWithAnotherAddress: of each address of an image others, with all records of it rewritten: some lead to other trees, and some to none.
func TestLoadingWithAnotherAddress(t *testing.T) {
	met := map[bool]int{}
	for _, k := range savedImages(t) {
		end := 8 * len(k.l.D.C.Blocks)
		for _, addr := range append([]int{191, 192, 193, 255, 256, 1000, 1000000}, fromOneUpTo(end+2)...) {
			turn := func(do func(n *impl.Image) *int) {
				t.Helper()
				n := clonedImage(k.m)
				*do(&n) = addr
				_, ok := checkLoad(t, rewritten(k.l, n), n.Root)
				met[ok]++
			}
			turn(func(n *impl.Image) *int { return &n.At })
			turn(func(n *impl.Image) *int { return &n.Root })
			for i, x := range k.m.Maps {
				turn(func(n *impl.Image) *int { return &n.T.Rows[i].Map })
				turn(func(n *impl.Image) *int { return &n.Maps[i].Places[len(x.Places)-1].Addr })
				turn(func(n *impl.Image) *int { return &n.Maps[i].Places[addr%len(x.Places)].Addr })
			}
		}
	}
	if met[true] == 0 || met[false] == 0 {
		t.Error("loaded or not", met)
	}
}

// fromOneUpTo are the numbers 0, 1 .. n - 1.
func fromOneUpTo(n int) []int {
	l := []int{}
	for i := range n {
		l = append(l, i)
	}
	return l
}

// TestLoadingAtEachAddress: where there is no root there is no image.
func TestLoadingAtEachAddress(t *testing.T) {
	logs := []impl.Log{{}, newLog(3), logOf(dev(recordChip(), 7), 20), rootsOf(3, 9, 4)}
	for _, k := range savedImages(t) {
		logs = append(logs, k.l)
	}
	for _, l := range logs {
		end, roots := 8*len(l.D.C.Blocks), rootsByWords(l)
		for _, addr := range append(farNumbers(), fromOneUpTo(end+9)...) {
			if _, ok := checkLoad(t, l, addr); ok && !slices.Contains(roots, addr) {
				t.Errorf("at %d there is an image, and no root, of %s", addr, toldLog(l))
			}
		}
	}
}

// TestTheNumberThatMountLeaves: one more than that of all records, of each kind, wherever they are; that of the log does not count.
func TestTheNumberThatMountLeaves(t *testing.T) {
	for _, seq := range recSeqs() {
		for kind := 1; kind <= 4; kind++ {
			for _, at := range []int{0, 1, 7, 8, 22, 23} {
				l := withPage(newLog(3), at, record(kind, seq))
				l.D.C.Blocks[at/8].Bad = at%2 == 1
				for _, now := range []int{0, -1, seq, 1000000, 1000001, math.MinInt, math.MaxInt} {
					l.Seq = now
					if e := wantMount(t, l, newImage()); e.Seq != min(seq+1, 1000000) {
						t.Errorf("the number %d behind %d", e.Seq, seq)
					}
				}
				if seq > 0 {
					k := withPage(withPage(l, (at+9)%24, record(1+kind%4, seq-1)), (at+17)%24, record(kind, seq)[:5])
					if e := wantMount(t, k, newImage()); e.Seq != min(seq+1, 1000000) {
						t.Errorf("the number %d behind %d and one less", e.Seq, seq)
					}
				}
			}
		}
	}
	// All of one number.
	full := slices.Repeat([]string{record(2, 41)}, 24)
	if e := wantMount(t, logOfPages(3, full...), newImage()); e.Seq != 42 {
		t.Error("the number", e.Seq)
	}
}

// TestAMountedDevice: the power is on, and all else of it is as it was.
func TestAMountedDevice(t *testing.T) {
	for _, k := range savedImages(t) {
		for _, faults := range [][]impl.Fault{nil, {bad(0)}, {torn(k.l.D.Ops, 400)}, {bad(1), torn(99999, 3), bad(100000)}, manyFaults(20)} {
			for _, ops := range []int{0, 1, k.l.D.Ops, 99999, 100000} {
				for _, down := range []bool{false, true} {
					d := dev(k.l.D.C, ops, faults...)
					d.Down = down
					e := wantMount(t, logOf(d, 0), k.m)
					if e.D.Down || e.D.Ops != ops || !slices.Equal(e.D.Faults, faults) || toldChip(e.D.C) != toldChip(k.l.D.C) || e.Seq != k.l.Seq {
						t.Errorf("mounted is %s", toldLog(e))
					}
				}
			}
		}
	}
}

// TestMountingWhatIsNoLog: what its chip has is found all the same.
func TestMountingWhatIsNoLog(t *testing.T) {
	for _, k := range savedImages(t) {
		for i, l := range wrongLogsOf(k.l) {
			checkRoots(t, l)
			if _, m := checkMount(t, l); !sameImage(m, k.m) && !sameImage(m, newImage()) {
				t.Errorf("the wrong log %d: mounted is %s", i, toldImage(m))
			}
		}
		for _, l := range wrongLogsOf(k.l)[:6] {
			wantMount(t, l, k.m)
			imageAt(t, l, k.m.Root, k.m)
		}
	}
	for _, d := range wrongDevs() {
		wantMount(t, logOf(d, 5), newImage())
		checkRoots(t, logOf(d, -5))
		noImageAt(t, logOf(d, 5), 0)
	}
}

// TestMountingChipsWithTooManyBlocks: a root is found wherever it is, but no map and no inode beyond all addresses.
func TestMountingChipsWithTooManyBlocks(t *testing.T) {
	f := system(2, vol(1, "a", false, 32, impl.TabNew()))
	for _, shift := range []int{0, 22, 23, 24, 30, 200} {
		base := 8 * shift
		pages := func(node int, table int) []string {
			x := tableOf(2, row(1, "a", false, 32, node+1))
			return []string{recForm(rec(1, 0, formOf(dir(1, 0)))), recForm(rec(2, 1, mapForm(mapOf(2, place(1, node))))), recForm(rec(3, 2, tableForm(x))), recForm(rec(4, 3, numForm(table)))}
		}
		of := func(l ...impl.Block) impl.Log { return logOf(dev(chip(l...), 0), 0) }
		ahead := slices.Repeat([]impl.Block{block(0, false)}, shift)
		l := of(append(ahead, block(0, false, pages(base, base+2)...))...)
		if got := checkRoots(t, l); !slices.Equal(got, []int{base + 3}) {
			t.Errorf("the roots %v, not %d", got, base+3)
		}
		if _, ok := checkLoad(t, l, base+3); ok != (shift < 24) {
			t.Errorf("the address %d: loaded %v", base, ok)
		}
		checkMount(t, l)
		// The table alone is far away, or it and the root.
		if shift > 0 {
			low := pages(0, base)
			m := imageOf(f, tableOf(2, row(1, "a", false, 32, 1)), base, 3, mapOf(2, place(1, 0)))
			l = of(append(append([]impl.Block{block(0, false, low[0], low[1], "", low[3])}, ahead[1:]...), block(0, false, low[2], low[3]))...)
			imageAt(t, l, 3, m)
			m.Root = base + 1
			imageAt(t, l, base+1, m)
			m.Root = 3
			wantMount(t, l, m)
		}
	}
}

// TestWhatIsMountedIsWhatWasSavedLast: of file systems one behind the other, and once more behind each mount.
func TestWhatIsMountedIsWhatWasSavedLast(t *testing.T) {
	for _, two := range failingSaves() {
		l, m := startOf(t, 12, two[0])
		for i := range 6 {
			l = wantMount(t, l, m)
			f := system(10+i, two[1-i%2].Vols...)
			l, m = mustSave(t, l, m, askSave(f))
			if !impl.SameFs(m.F, f) || len(checkRoots(t, l)) < i+1 {
				t.Errorf("saved is %s", toldImage(m))
			}
		}
		wantMount(t, l, m)
		for i, addr := range checkRoots(t, l) {
			if n, ok := checkLoad(t, l, addr); !ok || i < 6 && n.F.Next != 15-i {
				t.Errorf("at %d is %s, %v", addr, toldImage(n), ok)
			}
		}
	}
}

// TestFileSystemsAreMounted: each that is right, as it was saved on as many blocks as there can be.
func TestFileSystemsAreMounted(t *testing.T) {
	for i, f := range rightFs() {
		if len(f.Vols) < 2 && i%29 > 0 {
			continue
		}
		l, m, code := impl.Save(newLog(24), impl.ImageNew(), f, -1, 0)
		if code != impl.FsGood {
			t.Fatalf("the code %d, of %s", code, toldFs(f))
		}
		if e := wantMount(t, l, m); !sameLog(e, l) || toldFs(m.F) != toldFs(f) && !impl.SameFs(m.F, f) {
			t.Errorf("mounted is %s, not %s", toldImage(m), toldFs(f))
		}
	}
}

// TestVeryLargeLogsAreMounted: however much is handed in, it is answered.
func TestVeryLargeLogsAreMounted(t *testing.T) {
	full := block(1, false, slices.Repeat([]string{recForm(rec(4, 9, "\x00"))}, 8)...)
	many := logOf(dev(chip(append(slices.Repeat([]impl.Block{full}, 3000), block(0, false, recForm(rec(4, 10, numForm(24001))), recForm(rec(3, 9, tableForm(tableOf(7))))))...), 0), 10)
	e, m := impl.Mount(many)
	if !sameImage(m, imageOf(system(7), tableOf(7), 24001, 24000)) || e.Seq != 11 || len(e.D.C.Blocks) != 3001 || len(impl.RootsOf(many)) != 24001 {
		t.Error("of many blocks is mounted", toldImage(m), e.Seq)
	}
	long := logOf(dev(chip(block(0, false), block(0, false, slices.Repeat([]string{record(4, 1)}, 5000)...), block(0, false, strings.Repeat("x", 1<<20))), 0), 10)
	if e, m := impl.Mount(long); !sameImage(m, newImage()) || e.Seq != 2 || len(e.D.C.Blocks[1].Pages) != 5000 || len(e.D.C.Blocks[2].Pages[0].B) != 1<<20 {
		t.Error("of long blocks is mounted", toldImage(m), e.Seq)
	}
	if got := fmt.Sprint(impl.RootsOf(long)); got != "[8 9 10 11 12 13 14 15]" {
		t.Error("the roots", got)
	}
}
