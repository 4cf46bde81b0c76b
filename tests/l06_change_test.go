package tests

import (
	"maps"
	"math"
	"math/rand/v2"
	"slices"
	"strconv"
	"strings"
	"testing"

	"loop.example/g00285/impl"
)

var (
	_ func(impl.Tab, string) (impl.Tab, int)                 = impl.MakeDir
	_ func(impl.Tab, string) (impl.Tab, int)                 = impl.MakeFile
	_ func(impl.Tab, string, int, []byte) (impl.Tab, int)    = impl.WriteAt
	_ func(impl.Tab, string, int) (impl.Tab, int)            = impl.Truncate
	_ func(impl.Tab, string) (impl.Tab, int)                 = impl.Unlink
	_ func(impl.Tab, string) (impl.Tab, int)                 = impl.RemoveDir
	_ func(impl.Tab, string, string) (impl.Tab, int)         = impl.HardLink
	_ func(impl.Tab, string, string) (impl.Tab, int)         = impl.Rename
	_ func(impl.Tab, string, string, string) (impl.Tab, int) = impl.SetAttr
)

// refusedChange asks for this code, and for the table as it was beside it: the answer, and what was handed in.
func refusedChange(t *testing.T, x impl.Tab, a asked, want int) {
	t.Helper()
	was := toldTab(x)
	y, code := a.of(x)
	if code != want || want == impl.FsGood {
		t.Errorf("%s: the code %d, not %d, of %s", a, code, want, was)
	}
	if toldTab(y) != was {
		t.Errorf("%s is refused, but the answer is %s, of %s", a, toldTab(y), was)
	}
	if toldTab(x) != was {
		t.Errorf("%s is refused, but its argument is now %s, of %s", a, toldTab(x), was)
	}
}

// goodChange asks for FsGood and this table, and that it is a tree.
func goodChange(t *testing.T, x impl.Tab, a asked, want impl.Tab) {
	t.Helper()
	was := toldTab(x)
	y, code := a.of(x)
	if code != impl.FsGood || toldTab(y) != toldTab(want) {
		t.Errorf("%s: the code %d, and %s, not %s, of %s", a, code, toldTab(y), toldTab(want), was)
	}
	if !treeByWords(y) || !impl.TreeOk(y) {
		t.Errorf("%s: no tree any more: %s", a, toldTab(y))
	}
	if toldTab(x) != was {
		t.Errorf("%s: its argument is now %s, of %s", a, toldTab(x), was)
	}
}

// checkChange holds a change against the words, and answers what they do.
func checkChange(t *testing.T, x impl.Tab, a asked) (impl.Tab, int) {
	t.Helper()
	want, code := a.ofWords(x)
	if code == impl.FsGood {
		goodChange(t, x, a, want)
	} else {
		refusedChange(t, x, a, code)
	}
	return want, code
}

// lookTabBut is lookTab with something done to it.
func lookTabBut(turn func(x *impl.Tab)) impl.Tab {
	x := lookTab()
	turn(&x)
	return x
}

// plus puts an inode at the end, with the number that is next.
func plus(x *impl.Tab, y impl.Inode) {
	y.Ino = x.Next
	x.Next++
	x.Inodes = append(x.Inodes, y)
}

func drop(x *impl.Tab, ino int) { *x = dropByWords(*x, ino) }

// of is the inode of this number in lookTab, whose numbers are 1 to 9.
func of(x *impl.Tab, ino int) *impl.Inode { return &x.Inodes[ino-1] }

type goodCase struct {
	a    asked
	turn func(x *impl.Tab)
}

func checkGood(t *testing.T, l []goodCase) {
	t.Helper()
	if x := lookTab(); !impl.TreeOk(x) || !treeByWords(x) {
		t.Fatal("the table is no tree")
	}
	for _, k := range l {
		goodChange(t, lookTab(), k.a, lookTabBut(k.turn))
		checkChange(t, lookTab(), k.a)
	}
}

func TestWhatIsMade(t *testing.T) {
	newDir, newFile := dir(0, 1), file(0, 1, "")
	checkGood(t, []goodCase{
		{askDir("/n"), func(x *impl.Tab) {
			plus(x, newDir)
			of(x, 1).Ents = []impl.Ent{ent("d", 2), ent("e", 5), ent("f", 3), ent("n", 20), ent("z", 9)}
		}},
		{askFile("/n"), func(x *impl.Tab) {
			plus(x, newFile)
			of(x, 1).Ents = []impl.Ent{ent("d", 2), ent("e", 5), ent("f", 3), ent("n", 20), ent("z", 9)}
		}},
		{askDir("/a"), func(x *impl.Tab) {
			plus(x, newDir)
			of(x, 1).Ents = []impl.Ent{ent("a", 20), ent("d", 2), ent("e", 5), ent("f", 3), ent("z", 9)}
		}},
		{askFile("/zz"), func(x *impl.Tab) {
			plus(x, newFile)
			of(x, 1).Ents = []impl.Ent{ent("d", 2), ent("e", 5), ent("f", 3), ent("z", 9), ent("zz", 20)}
		}},
		{askDir("/e/d"), func(x *impl.Tab) {
			plus(x, newDir)
			of(x, 5).Ents = []impl.Ent{ent("d", 20)}
		}},
		{askFile("/e/f"), func(x *impl.Tab) {
			plus(x, newFile)
			of(x, 5).Ents = []impl.Ent{ent("f", 20)}
		}},
		{askDir("/d/h/fourteenbytesx"), func(x *impl.Tab) {
			plus(x, newDir)
			of(x, 6).Ents = []impl.Ent{ent("f", 3), ent("fourteenbytesx", 20), ent("i", 7)}
		}},
		{askFile("/d/h/i/..."), func(x *impl.Tab) {
			plus(x, newFile)
			of(x, 7).Ents = []impl.Ent{ent("...", 20), ent("d", 8)}
		}},
	})
}

func TestWhatIsWritten(t *testing.T) {
	data := func(ino int, s string) func(x *impl.Tab) {
		return func(x *impl.Tab) { of(x, ino).Data = []byte(s) }
	}
	hundred := strings.Repeat("0123456789", 10)
	checkGood(t, []goodCase{
		{askWrite("/f", 0, "J"), data(3, "Jello")},
		{askWrite("/f", 0, "HELLO!"), data(3, "HELLO!")},
		{askWrite("/d/h/f", 1, "ipp"), data(3, "hippo")},
		{askWrite("/f", 4, "0"), data(3, "hell0")},
		{askWrite("/f", 4, "0 x"), data(3, "hell0 x")},
		{askWrite("/f", 5, " you"), data(3, "hello you")},
		{askWrite("/f", 6, "x"), data(3, "hello\x00x")},
		{askWrite("/f", 9, "xy"), data(3, "hello\x00\x00\x00\x00xy")},
		{askWrite("/f", 2, "\x00\xff"), data(3, "he\x00\xffo")},
		{askWrite("/f", 0, ""), data(3, "hello")},
		{askWrite("/f", 3, ""), data(3, "hello")},
		{askWrite("/f", 5, ""), data(3, "hello")},
		{askWrite("/f", 6, ""), data(3, "hello\x00")},
		{askWrite("/f", 8, ""), data(3, "hello\x00\x00\x00")},
		{askWrite("/f", 100, ""), data(3, "hello"+strings.Repeat("\x00", 95))},
		{askWrite("/f", 99, "x"), data(3, "hello"+strings.Repeat("\x00", 94)+"x")},
		{askWrite("/f", 0, hundred), data(3, hundred)},
		{askWrite("/f", 1, hundred[1:]), data(3, "h"+hundred[1:])},
		{askWrite("/z", 0, "new"), data(9, "new")},
		{askWrite("/z", 2, "new"), data(9, "\x00\x00new")},
		{askWrite("/z", 0, ""), data(9, "")},
		{askWrite("/z", 100, ""), data(9, strings.Repeat("\x00", 100))},
		{askWrite("/d/h/i/d", 4, "er"), data(8, "deeper")},
	})
}

func TestWhatIsCut(t *testing.T) {
	data := func(ino int, s string) func(x *impl.Tab) {
		return func(x *impl.Tab) { of(x, ino).Data = []byte(s) }
	}
	checkGood(t, []goodCase{
		{askCut("/f", 0), data(3, "")},
		{askCut("/f", 1), data(3, "h")},
		{askCut("/d/h/f", 4), data(3, "hell")},
		{askCut("/f", 5), data(3, "hello")},
		{askCut("/f", 6), data(3, "hello\x00")},
		{askCut("/f", 99), data(3, "hello"+strings.Repeat("\x00", 94))},
		{askCut("/f", 100), data(3, "hello"+strings.Repeat("\x00", 95))},
		{askCut("/z", 0), data(9, "")},
		{askCut("/z", 100), data(9, strings.Repeat("\x00", 100))},
		{askCut("/d/g", 3), data(4, "the")},
	})
}

func TestWhatIsTakenAway(t *testing.T) {
	checkGood(t, []goodCase{
		{askUnlink("/z"), func(x *impl.Tab) {
			of(x, 1).Ents = []impl.Ent{ent("d", 2), ent("e", 5), ent("f", 3)}
			drop(x, 9)
		}},
		{askUnlink("/d/h/i/d"), func(x *impl.Tab) {
			of(x, 7).Ents = nil
			drop(x, 8)
		}},
		{askUnlink("/f"), func(x *impl.Tab) {
			of(x, 1).Ents = []impl.Ent{ent("d", 2), ent("e", 5), ent("z", 9)}
			of(x, 3).Links = 1
		}},
		{askUnlink("/d/h/f"), func(x *impl.Tab) {
			of(x, 6).Ents = []impl.Ent{ent("i", 7)}
			of(x, 3).Links = 1
		}},
		{askRmdir("/e"), func(x *impl.Tab) {
			of(x, 1).Ents = []impl.Ent{ent("d", 2), ent("f", 3), ent("z", 9)}
			drop(x, 5)
		}},
	})
}

func TestWhatIsLinkedAndMoved(t *testing.T) {
	checkGood(t, []goodCase{
		{askLink("/f", "/e/l"), func(x *impl.Tab) {
			of(x, 3).Links = 3
			of(x, 5).Ents = []impl.Ent{ent("l", 3)}
		}},
		{askLink("/d/h/f", "/g"), func(x *impl.Tab) {
			of(x, 3).Links = 3
			of(x, 1).Ents = []impl.Ent{ent("d", 2), ent("e", 5), ent("f", 3), ent("g", 3), ent("z", 9)}
		}},
		{askLink("/z", "/d/a"), func(x *impl.Tab) {
			of(x, 9).Links = 2
			of(x, 2).Ents = []impl.Ent{ent("a", 9), ent("g", 4), ent("h", 6)}
		}},
		{askMove("/z", "/a"), func(x *impl.Tab) {
			of(x, 1).Ents = []impl.Ent{ent("a", 9), ent("d", 2), ent("e", 5), ent("f", 3)}
		}},
		{askMove("/f", "/e/f"), func(x *impl.Tab) {
			of(x, 1).Ents = []impl.Ent{ent("d", 2), ent("e", 5), ent("z", 9)}
			of(x, 5).Ents = []impl.Ent{ent("f", 3)}
		}},
		{askMove("/d/h/i/d", "/x"), func(x *impl.Tab) {
			of(x, 1).Ents = []impl.Ent{ent("d", 2), ent("e", 5), ent("f", 3), ent("x", 8), ent("z", 9)}
			of(x, 7).Ents = nil
		}},
		{askMove("/e", "/y"), func(x *impl.Tab) {
			of(x, 1).Ents = []impl.Ent{ent("d", 2), ent("f", 3), ent("y", 5), ent("z", 9)}
		}},
		{askMove("/d", "/dd"), func(x *impl.Tab) {
			of(x, 1).Ents = []impl.Ent{ent("dd", 2), ent("e", 5), ent("f", 3), ent("z", 9)}
		}},
		{askMove("/d", "/e/d"), func(x *impl.Tab) {
			of(x, 1).Ents = []impl.Ent{ent("e", 5), ent("f", 3), ent("z", 9)}
			of(x, 5).Ents = []impl.Ent{ent("d", 2)}
		}},
		{askMove("/d/h", "/h"), func(x *impl.Tab) {
			of(x, 1).Ents = []impl.Ent{ent("d", 2), ent("e", 5), ent("f", 3), ent("h", 6), ent("z", 9)}
			of(x, 2).Ents = []impl.Ent{ent("g", 4)}
		}},
		{askMove("/e", "/d/h/i/e"), func(x *impl.Tab) {
			of(x, 1).Ents = []impl.Ent{ent("d", 2), ent("f", 3), ent("z", 9)}
			of(x, 7).Ents = []impl.Ent{ent("d", 8), ent("e", 5)}
		}},
	})
}

func TestAttributesThatAreSet(t *testing.T) {
	attrs := func(ino int, l ...impl.Attr) func(x *impl.Tab) {
		return func(x *impl.Tab) { of(x, ino).Attrs = l }
	}
	checkGood(t, []goodCase{
		{askAttr("/z", "k", "v"), attrs(9, attr("k", "v"))},
		{askAttr("/e", "fourteenbytesx", "sixteen bytes \x00\xff"), attrs(5, attr("fourteenbytesx", "sixteen bytes \x00\xff"))},
		{askAttr("/", "of", "all"), attrs(1, attr("of", "all"))},
		{askAttr("/", "a", "x"), attrs(1, attr("a", "x"), attr("of", "the root"))},
		{askAttr("/d", "aa", "x"), attrs(2, attr("a", "of d"), attr("aa", "x"), attr("b", ""))},
		{askAttr("/d", "c", "x"), attrs(2, attr("a", "of d"), attr("b", ""), attr("c", "x"))},
		{askAttr("/d", "b", "x"), attrs(2, attr("a", "of d"), attr("b", "x"))},
		{askAttr("/d", "b", ""), attrs(2, attr("a", "of d"))},
		{askAttr("/d", "a", ""), attrs(2, attr("b", ""))},
		{askAttr("/d/h/f", "b", "2"), attrs(3, attr("a", "v"), attr("b", "2"), attr("c", ""))},
		{askAttr("/f", "b", ""), attrs(3, attr("a", "v"), attr("c", ""))},
		{askAttr("/f", "d", "4"), attrs(3, attr("a", "v"), attr("b", "w"), attr("c", ""), attr("d", "4"))},
		{askAttr("/d/g", "k", ""), attrs(4)},
		{askAttr("/d/g", "k", "of g"), attrs(4, attr("k", "of g"))},
		{askAttr("/d/g", "no", ""), attrs(4, attr("k", "of g"))},
		{askAttr("/z", "no", ""), attrs(9)},
		{askAttr("/", "no", ""), attrs(1, attr("of", "the root"))},
	})
}

// allCalls are all changes of these paths, with numbers, bytes and attributes that are right.
func allCalls(path, to string) []asked {
	return []asked{
		askDir(path), askFile(path), askWrite(path, 0, "x"), askCut(path, 1), askUnlink(path), askRmdir(path),
		askLink(path, to), askMove(path, to), askAttr(path, "k", "v"),
	}
}

func TestNoChangeOfWhatIsNoPath(t *testing.T) {
	for _, path := range append(wrongPaths(), "/d/g\n", "/d/", "f", "/F") {
		for _, x := range []impl.Tab{lookTab(), impl.TabNew()} {
			for _, a := range allCalls(path, "/new") {
				refusedChange(t, x, a, impl.FsForm)
			}
			for _, other := range []string{"/", "/f", "/d", "/x", "/x/y", "/f/x", path} {
				refusedChange(t, x, askLink(other, path), impl.FsForm)
				refusedChange(t, x, askMove(other, path), impl.FsForm)
				refusedChange(t, x, askLink(path, other), impl.FsForm)
				refusedChange(t, x, askMove(path, other), impl.FsForm)
			}
		}
	}
}

func TestWhereTheRootIsRefused(t *testing.T) {
	x := lookTab()
	for _, a := range []asked{askDir("/"), askFile("/"), askUnlink("/"), askRmdir("/"), askMove("/", "/x"), askMove("/f", "/"), askMove("/", "/"), askLink("/f", "/"), askLink("/", "/"), askMove("/x", "/"), askLink("/x", "/"), askLink("/d", "/"), askMove("/", "/x/y"), askMove("/", "/f/x")} {
		refusedChange(t, x, a, impl.FsForm)
		refusedChange(t, impl.TabNew(), a, impl.FsForm)
	}
	refusedChange(t, x, askWrite("/", 0, "x"), impl.FsKind)
	refusedChange(t, x, askCut("/", 0), impl.FsKind)
	refusedChange(t, x, askLink("/", "/x"), impl.FsKind)
}

func TestChangesThatLeadNowhere(t *testing.T) {
	x := lookTab()
	for _, path := range []string{"/x", "/d/x", "/e/x", "/d/h/i/x", "/d/d"} {
		for _, a := range allCalls(path, "/new") {
			if a.call != "MakeDir" && a.call != "MakeFile" {
				refusedChange(t, x, a, impl.FsNone)
			}
		}
	}
	for _, path := range []string{"/x/y", "/x/y/z", "/d/x/g", "/d/h/x/f", "/x/d/g", "/e/d/g"} {
		for _, a := range allCalls(path, "/new") {
			refusedChange(t, x, a, impl.FsNone)
		}
		refusedChange(t, x, askLink("/f", path), impl.FsNone)
		refusedChange(t, x, askMove("/f", path), impl.FsNone)
	}
}

func TestChangesBehindAFile(t *testing.T) {
	x := lookTab()
	for _, f := range lookFiles() {
		for _, behind := range []string{"/x", "/x/y", "/d/g/h"} {
			for _, a := range allCalls(f+behind, "/new") {
				refusedChange(t, x, a, impl.FsKind)
			}
			refusedChange(t, x, askLink("/f", f+behind), impl.FsKind)
			if f != "/f" {
				refusedChange(t, x, askMove("/f", f+behind), impl.FsKind)
			}
		}
	}
}

func TestWhereTheOtherKindMustBe(t *testing.T) {
	x := lookTab()
	for _, d := range lookDirs() {
		for _, a := range []asked{askWrite(d, 0, "x"), askWrite(d, 0, ""), askCut(d, 0), askLink(d, "/new")} {
			refusedChange(t, x, a, impl.FsKind)
		}
		if d != "/" {
			refusedChange(t, x, askUnlink(d), impl.FsKind)
		}
	}
	for _, f := range lookFiles() {
		refusedChange(t, x, askRmdir(f), impl.FsKind)
	}
}

func TestWhatIsThereAlready(t *testing.T) {
	x := lookTab()
	for path := range lookPlaces() {
		if path == "/" {
			continue
		}
		for _, a := range []asked{askDir(path), askFile(path), askLink("/f", path), askLink("/z", path)} {
			refusedChange(t, x, a, impl.FsThere)
		}
		if path != "/z" {
			refusedChange(t, x, askMove("/z", path), impl.FsThere)
		}
		if path != "/e" {
			refusedChange(t, x, askMove("/e", path), impl.FsThere)
		}
	}
	// Also where both are names of one file.
	refusedChange(t, x, askMove("/f", "/d/h/f"), impl.FsThere)
	refusedChange(t, x, askMove("/d/h/f", "/f"), impl.FsThere)
}

func TestDirectoriesThatHaveEntries(t *testing.T) {
	x := lookTab()
	for _, d := range []string{"/d", "/d/h", "/d/h/i"} {
		refusedChange(t, x, askRmdir(d), impl.FsBusy)
	}
}

func TestWhatIsMovedIntoItself(t *testing.T) {
	x := lookTab()
	for path := range lookPlaces() {
		if path == "/" {
			continue
		}
		for _, behind := range []string{"", "/x", "/g", "/h", "/h/i/new", "/x/y/z"} {
			refusedChange(t, x, askMove(path, path+behind), impl.FsBusy)
		}
	}
	// A name that only begins alike is another one.
	goodChange(t, x, askMove("/d", "/d."), lookTabBut(func(x *impl.Tab) { of(x, 1).Ents[0].Name = "d." }))
}

// within are n more files in a directory, from this number on.
func within(x *impl.Tab, place, n, from int) {
	for i := range n {
		x.Inodes = append(x.Inodes, file(from+i, 1, "file "+strconv.Itoa(i)))
		x.Inodes[place].Ents = append(x.Inodes[place].Ents, ent("n"+string(rune('a'+i)), from+i))
	}
	x.Next = from + n
}

// fullTab is a tree whose directory /d has n files, na and on, beside the empty directory /e and the file /f.
func fullTab(n int) impl.Tab {
	x := table(5, dir(1, 0, ent("d", 2), ent("e", 3), ent("f", 4)), dir(2, 1), dir(3, 1), file(4, 1, "f"))
	within(&x, 1, n, 5)
	return x
}

func TestDirectoriesThatAreNearlyFull(t *testing.T) {
	for _, a := range []asked{askDir("/d/new"), askFile("/d/new"), askLink("/f", "/d/new"), askLink("/d/na", "/d/new"), askMove("/f", "/d/new"), askMove("/e", "/d/new")} {
		_, code := checkChange(t, fullTab(9), a)
		if code != impl.FsGood {
			t.Errorf("%s: the code %d where there is room for one", a, code)
		}
		refusedChange(t, fullTab(10), a, impl.FsFull)
	}
	for n := range 11 {
		for _, a := range allCalls("/d/new", "/d/other") {
			checkChange(t, fullTab(n), a)
		}
	}
}

func TestMovesWithinAFullDirectory(t *testing.T) {
	x := fullTab(10)
	for i, e := range x.Inodes[1].Ents {
		for _, name := range []string{"a", "nbb", "z"} {
			if _, code := checkChange(t, x, askMove("/d/"+e.Name, "/d/"+name)); code != impl.FsGood {
				t.Errorf("entry %d to %s: the code %d", i, name, code)
			}
		}
		refusedChange(t, x, askMove("/d/"+e.Name, "/d/"+e.Name), impl.FsBusy)
		refusedChange(t, x, askMove("/d/"+e.Name, "/d/"+x.Inodes[1].Ents[(i+1)%10].Name), impl.FsThere)
	}
	want := fullTab(10)
	want.Inodes[1].Ents = append(want.Inodes[1].Ents[1:], ent("z", 5))
	goodChange(t, x, askMove("/d/na", "/d/z"), want)
	// What a directory has within it does not count where it is moved itself.
	for _, to := range []string{"/a", "/z", "/e/d"} {
		if _, code := checkChange(t, x, askMove("/d", to)); code != impl.FsGood {
			t.Errorf("the full directory to %s: the code %d", to, code)
		}
	}
}

// manyInodes is a tree of n inodes, at least 4.
func manyInodes(n int) impl.Tab {
	x := table(5, dir(1, 0, ent("d", 2), ent("e", 3), ent("f", 4)), dir(2, 1), dir(3, 1), file(4, 1, "f"))
	for place, left := range []int{min(n-4, 7), max(n-11, 0) / 2, max(n-11, 0) - max(n-11, 0)/2} {
		within(&x, place, left, x.Next)
	}
	return x
}

func TestTablesThatAreNearlyFull(t *testing.T) {
	for n := 4; n <= 30; n++ {
		x := manyInodes(n)
		if len(x.Inodes) != n || !impl.TreeOk(x) {
			t.Fatalf("%d inodes: no tree: %s", n, toldTab(x))
		}
		for _, a := range []asked{askDir("/d/new"), askFile("/d/new"), askLink("/f", "/d/new"), askMove("/f", "/d/new"), askUnlink("/f"), askWrite("/f", 9, "x"), askAttr("/e", "k", "v")} {
			checkChange(t, x, a)
		}
	}
	// The directory has room for one more: it is the table that has none.
	for _, a := range []asked{askDir("/d/new"), askFile("/d/new")} {
		if _, code := checkChange(t, manyInodes(29), a); code != impl.FsGood {
			t.Errorf("%s: the code %d where there are 29 inodes", a, code)
		}
		refusedChange(t, manyInodes(30), a, impl.FsFull)
	}
	if _, code := checkChange(t, manyInodes(30), askLink("/f", "/d/new")); code != impl.FsGood {
		t.Errorf("a link needs no inode, but has the code %d", code)
	}
}

func TestTheLastNumbers(t *testing.T) {
	for _, a := range []asked{askDir("/a"), askFile("/a")} {
		kind := map[string]int{"MakeDir": impl.InDir, "MakeFile": impl.InFile}[a.call]
		for _, next := range []int{2, 3, 500, 998, 999} {
			want := table(next+1, dir(1, 0, ent("a", next)), impl.Inode{Ino: next, Kind: kind, Links: 1})
			goodChange(t, table(next, dir(1, 0)), a, want)
		}
		refusedChange(t, table(1000, dir(1, 0)), a, impl.FsFull)
		refusedChange(t, table(1000, dir(1, 0, ent("b", 999)), dir(999, 1)), a, impl.FsFull)
	}
	// What needs no number goes on.
	last := table(1000, dir(1, 0, ent("b", 999), ent("d", 2)), dir(2, 1), file(999, 1, "b"))
	for _, a := range []asked{askLink("/b", "/c"), askMove("/b", "/d/b"), askUnlink("/b"), askRmdir("/d"), askWrite("/b", 1, "x"), askCut("/b", 9), askAttr("/", "k", "v")} {
		if y, code := checkChange(t, last, a); code != impl.FsGood || y.Next != 1000 {
			t.Errorf("%s: the code %d, Next %d", a, code, y.Next)
		}
	}
}

func TestTheEdgesOfWriting(t *testing.T) {
	x := lookTab()
	for _, path := range append(lookFiles(), "/", "/d", "/x", "/x/y", "/f/x", "f") {
		for _, off := range []int{-1, -100, math.MinInt, 101, 102, 1 << 32, math.MaxInt - 1, math.MaxInt} {
			for _, data := range []string{"", "x", strings.Repeat("x", 101)} {
				refusedChange(t, x, askWrite(path, off, data), impl.FsForm)
			}
		}
	}
	for size := 0; size <= 100; size += 10 {
		one, _ := fileOf(size)
		one = table(3, one.Inodes...)
		for off := range 101 {
			for _, n := range []int{0, 1, 99 - off, 100 - off, 101 - off, 102 - off, 1000} {
				if n >= 0 {
					_, code := checkChange(t, one, askWrite("/f", off, strings.Repeat("x", n)))
					if want := impl.FsFull; (off+n > 100) != (code == want) {
						t.Errorf("%d bytes at %d: the code %d", n, off, code)
					}
				}
			}
		}
	}
}

func TestTheEdgesOfCutting(t *testing.T) {
	x := lookTab()
	for _, path := range append(lookFiles(), "/", "/d", "/x", "/x/y", "/f/x", "f") {
		for _, n := range []int{-1, -100, math.MinInt, 101, 102, 1 << 32, math.MaxInt} {
			refusedChange(t, x, askCut(path, n), impl.FsForm)
		}
	}
	for size := range 101 {
		one, data := fileOf(size)
		one = table(3, one.Inodes...)
		for n := range 101 {
			want := append(slices.Clone(data), make([]byte, 100)...)[:n]
			goodChange(t, one, askCut("/f", n), table(3, one.Inodes[0], file(2, 1, string(want))))
		}
	}
}

// TestCutBytesDoNotComeBack: what was cut away is 0 when the file grows again.
func TestCutBytesDoNotComeBack(t *testing.T) {
	x := table(3, dir(1, 0, ent("f", 2)), file(2, 1, strings.Repeat("x", 100)))
	short, _ := impl.Truncate(x, "/f", 3)
	for _, a := range []asked{askCut("/f", 100), askWrite("/f", 100, "")} {
		goodChange(t, short, a, table(3, x.Inodes[0], file(2, 1, "xxx"+strings.Repeat("\x00", 97))))
	}
	goodChange(t, short, askWrite("/f", 5, "y"), table(3, x.Inodes[0], file(2, 1, "xxx\x00\x00y")))
}

func TestTheEdgesOfAttributes(t *testing.T) {
	full := table(3, withAttrs(dir(1, 0, ent("f", 2)), attrsOf(4)...), file(2, 1, "", attr("b", "1"), attr("d", "2"), attr("f", ""), attr("h", "4")))
	three := table(3, withAttrs(dir(1, 0, ent("f", 2)), attrsOf(3)...), file(2, 1, "", attr("b", "1"), attr("d", "2"), attr("f", "")))
	for _, name := range []string{"a", "c", "e", "g", "i"} {
		refusedChange(t, full, askAttr("/f", name, "v"), impl.FsFull)
		refusedChange(t, full, askAttr("/", name, "v"), impl.FsFull)
		goodChange(t, full, askAttr("/f", name, ""), full)
		goodChange(t, full, askAttr("/", name, ""), full)
		if _, code := checkChange(t, three, askAttr("/f", name, "v")); code != impl.FsGood {
			t.Errorf("a fourth attribute: the code %d", code)
		}
	}
	for _, name := range []string{"b", "d", "f", "h"} {
		for _, val := range []string{"", "v", strings.Repeat("v", 16)} {
			if _, code := checkChange(t, full, askAttr("/f", name, val)); code != impl.FsGood {
				t.Errorf("%s, which is there: the code %d", name, code)
			}
		}
	}
	for n := range 40 {
		_, code := checkChange(t, three, askAttr("/f", "a", strings.Repeat("v", n)))
		if (code == impl.FsForm) != (n > 16) {
			t.Errorf("a value of %d bytes: the code %d", n, code)
		}
	}
}

func TestAttributesWithWrongNames(t *testing.T) {
	for _, x := range []impl.Tab{lookTab(), impl.TabNew()} {
		for _, path := range []string{"/", "/f", "/d", "/x", "/f/x", "f"} {
			for _, name := range wrongNames() {
				refusedChange(t, x, askAttr(path, name, "v"), impl.FsForm)
				refusedChange(t, x, askAttr(path, name, ""), impl.FsForm)
			}
			refusedChange(t, x, askAttr(path, "k", "seventeen bytes .."[:17]), impl.FsForm)
			refusedChange(t, x, askAttr(path, "a", strings.Repeat("v", 5000)), impl.FsForm)
		}
	}
	for _, name := range rightNames() {
		if _, code := checkChange(t, lookTab(), askAttr("/d", name, "v")); code != impl.FsGood {
			t.Errorf("the name %q: the code %d", name, code)
		}
	}
}

// TestWhichCodeComesFirst: in each of these at least two reasons apply.
func TestWhichCodeComesFirst(t *testing.T) {
	most := strings.Repeat("x", 101)
	look, full, last := lookTab(), fullTab(10), table(1000, dir(1, 0, ent("d", 2), ent("f", 3)), dir(2, 1), file(3, 1, ""))
	attrs := table(3, dir(1, 0, ent("f", 2)), file(2, 1, "", attrsOf(4)...))
	for _, k := range []struct {
		x    impl.Tab
		a    asked
		want int
	}{
		{last, askDir("/"), impl.FsForm}, {last, askDir("/x/y"), impl.FsNone}, {last, askDir("/f/y"), impl.FsKind}, {last, askDir("/f/y/z"), impl.FsKind}, {last, askDir("/d"), impl.FsThere}, {last, askDir("/n"), impl.FsFull},
		{last, askFile("/"), impl.FsForm}, {last, askFile("/x/y"), impl.FsNone}, {last, askFile("/f/y"), impl.FsKind}, {last, askFile("/f"), impl.FsThere}, {last, askFile("/d/n"), impl.FsFull},
		{full, askDir("/d/na"), impl.FsThere}, {full, askFile("/d/nj"), impl.FsThere}, {full, askDir("/d/na/x"), impl.FsKind}, {full, askFile("/d/x/y"), impl.FsNone},
		{manyInodes(30), askDir("/d"), impl.FsThere}, {manyInodes(30), askDir("/f/x"), impl.FsKind}, {manyInodes(30), askFile("/x/y"), impl.FsNone},
		{look, askWrite("/x", 101, most), impl.FsForm}, {look, askWrite("/d", -1, most), impl.FsForm}, {look, askWrite("/f", 101, most), impl.FsForm}, {look, askWrite("/x", 0, most), impl.FsNone}, {look, askWrite("/d", 0, most), impl.FsKind}, {look, askWrite("/f/x", 0, most), impl.FsKind}, {look, askWrite("/f", 0, most), impl.FsFull},
		{look, askCut("/x", 101), impl.FsForm}, {look, askCut("/d", -1), impl.FsForm}, {look, askCut("/f/x", -1), impl.FsForm},
		{look, askUnlink("/"), impl.FsForm}, {look, askRmdir("/"), impl.FsForm}, {look, askRmdir("/f/x"), impl.FsKind},
		{look, askLink("/x", "/"), impl.FsForm}, {look, askLink("/d", "/"), impl.FsForm}, {look, askLink("/x", "x"), impl.FsForm}, {look, askLink("x", "/x/y"), impl.FsForm},
		{look, askLink("/x", "/f/y"), impl.FsNone}, {look, askLink("/x", "/d"), impl.FsNone}, {look, askLink("/f/x", "/x/y"), impl.FsKind}, {look, askLink("/d", "/x/y"), impl.FsKind}, {look, askLink("/d", "/e"), impl.FsKind}, {look, askLink("/", "/x/y"), impl.FsKind},
		{full, askLink("/f", "/d/na"), impl.FsThere}, {full, askLink("/e", "/d/new"), impl.FsKind}, {full, askLink("/x", "/d/new"), impl.FsNone}, {full, askLink("/f", "/d/na/x"), impl.FsKind},
		{look, askMove("/x", "/"), impl.FsForm}, {look, askMove("/", "/x/y"), impl.FsForm}, {look, askMove("/", "/"), impl.FsForm}, {look, askMove("/x", "x"), impl.FsForm}, {look, askMove("x", "/f/y"), impl.FsForm},
		{look, askMove("/x", "/x"), impl.FsNone}, {look, askMove("/x", "/x/y"), impl.FsNone}, {look, askMove("/x", "/f/y"), impl.FsNone}, {look, askMove("/x", "/f"), impl.FsNone}, {look, askMove("/f/x", "/f/x"), impl.FsKind}, {look, askMove("/f/x", "/f/x/y"), impl.FsKind}, {look, askMove("/f/x", "/x/y"), impl.FsKind},
		{look, askMove("/f", "/f"), impl.FsBusy}, {look, askMove("/f", "/f/x"), impl.FsBusy}, {look, askMove("/f", "/f/x/y"), impl.FsBusy}, {look, askMove("/d", "/d"), impl.FsBusy}, {look, askMove("/d", "/d/x/y"), impl.FsBusy}, {look, askMove("/d", "/d/g"), impl.FsBusy}, {look, askMove("/d", "/d/g/x"), impl.FsBusy},
		{full, askMove("/d", "/d/new"), impl.FsBusy}, {full, askMove("/d/na", "/d/na"), impl.FsBusy}, {full, askMove("/f", "/d/na"), impl.FsThere}, {full, askMove("/f", "/d/na/x"), impl.FsKind}, {full, askMove("/f", "/d/x/y"), impl.FsNone}, {full, askMove("/x", "/d/new"), impl.FsNone}, {full, askMove("/d/na", "/d/nb"), impl.FsThere},
		{attrs, askAttr("/x", "A", "v"), impl.FsForm}, {attrs, askAttr("/f", "A", "v"), impl.FsForm}, {attrs, askAttr("/f", "new", "seventeen bytes .."), impl.FsForm}, {attrs, askAttr("/x", "new", "v"), impl.FsNone}, {attrs, askAttr("/f/x", "new", "v"), impl.FsKind}, {attrs, askAttr("/f", "new", "v"), impl.FsFull},
	} {
		if !impl.TreeOk(k.x) {
			t.Fatal("no tree:", toldTab(k.x))
		}
		refusedChange(t, k.x, k.a, k.want)
		checkChange(t, k.x, k.a)
	}
}

// someCalls are changes that a tree like lookTab takes, and some that it refuses.
func someCalls() []asked {
	l := []asked{
		askDir("/n"), askFile("/n"), askFile("/d/n"), askWrite("/f", 1, "x"), askCut("/f", 1), askUnlink("/z"), askUnlink("/f"), askRmdir("/e"),
		askLink("/f", "/l"), askMove("/f", "/m"), askMove("/d", "/e/d"), askAttr("/", "k", "v"), askAttr("/f", "a", ""), askAttr("/f", "no", ""),
		askDir("/"), askLink("/d", "/l"), askMove("/d", "/d"), askUnlink("/d"), askRmdir("/d"), askWrite("/f", 101, ""), askWrite("/f", 100, "x"),
	}
	for _, path := range []string{"/x", "/f/x", "/a", "f", ""} {
		l = append(l, allCalls(path, "/a")...)
	}
	return l
}

func TestNoChangeOfWhatIsNoTree(t *testing.T) {
	for _, x := range wrongTrees() {
		for _, a := range someCalls() {
			refusedChange(t, x, a, impl.FsForm)
		}
	}
}

// smallCalls are all changes of a few paths.
func smallCalls() []asked {
	l := []asked{}
	paths := []string{"/", "/a", "/b", "/a/a", "/a/b", "/b/a", "/a/a/a", "a"}
	for _, path := range paths {
		for _, to := range paths {
			l = append(l, askLink(path, to), askMove(path, to))
		}
		l = append(l, askDir(path), askFile(path), askUnlink(path), askRmdir(path))
		l = append(l, askWrite(path, 0, "x"), askWrite(path, 2, ""), askCut(path, 1), askAttr(path, "k", "v"), askAttr(path, "k", ""))
	}
	return l
}

// TestEveryChangeOfEverySmallTree goes through all trees that at most four changes make of the new one, and does each change to each.
func TestEveryChangeOfEverySmallTree(t *testing.T) {
	calls := smallCalls()
	seen, now := map[string]int{toldTab(impl.TabNew()): 1}, []impl.Tab{impl.TabNew()}
	for range 5 {
		next := []impl.Tab{}
		for _, x := range now {
			for _, a := range calls {
				y, _ := checkChange(t, x, a)
				if key := toldTab(y); seen[key] == 0 {
					seen[key] = 1
					next = append(next, y)
				}
			}
		}
		if t.Failed() {
			return
		}
		now = next
	}
	t.Logf("%d trees", len(seen))
}

// codesOf are the codes that the chapter names for each call.
func codesOf() map[string][]int {
	return map[string][]int{
		"MakeDir": {0, 1, 2, 3, 4, 5}, "MakeFile": {0, 1, 2, 3, 4, 5}, "WriteAt": {0, 1, 2, 3, 5}, "Truncate": {0, 1, 2, 3}, "Unlink": {0, 1, 2, 3},
		"RemoveDir": {0, 1, 2, 3, 6}, "HardLink": {0, 1, 2, 3, 4, 5}, "Rename": {0, 1, 2, 3, 4, 5, 6}, "SetAttr": {0, 1, 2, 3, 5},
	}
}

// anyChange picks a change, by numbers that hang on a fixed start alone: mostly of what is there, or of a new name where there is a directory.
func anyChange(r *rand.Rand, x impl.Tab) asked {
	pick := func(l ...string) string { return l[r.IntN(len(l))] }
	there := pathsByWords(x)
	newName := func() string { return "/" + string(rune('a'+r.IntN(12))) }
	anyPath := func() string {
		switch r.IntN(12) {
		case 0:
			return pick("/", "", "a", "/A", "//")
		case 1:
			return newName() + newName()
		case 2, 3, 4, 5, 6:
			return strings.TrimSuffix(pick(there...), "/") + newName()
		}
		return pick(there...)
	}
	a := asked{path: anyPath(), to: anyPath(), n: r.IntN(105) - 2, data: strings.Repeat("x", r.IntN(60)), attr: attr(pick("a", "b", "c", "d", "e", "F"), strings.Repeat("v", r.IntN(18)))}
	a.call = pick("MakeDir", "MakeDir", "MakeFile", "MakeFile", "WriteAt", "Truncate", "Unlink", "RemoveDir", "HardLink", "HardLink", "Rename", "SetAttr")
	return a
}

func TestLongRunsOfChanges(t *testing.T) {
	met := map[string]map[int]int{}
	for call := range codesOf() {
		met[call] = map[int]int{}
	}
	for run := range 12 {
		r := rand.New(rand.NewPCG(6, uint64(run)))
		x := []impl.Tab{impl.TabNew(), lookTab(), fullTab(10), manyInodes(30)}[run%4]
		if run >= 8 {
			x.Next = 990
		}
		for range 1500 {
			a := anyChange(r, x)
			y, code := checkChange(t, x, a)
			met[a.call][code]++
			x = y
		}
		if t.Failed() {
			return
		}
	}
	for call, want := range codesOf() {
		if got := slices.Sorted(maps.Keys(met[call])); !slices.Equal(got, want) {
			t.Errorf("%s: the codes %v, not %v", call, got, want)
		}
	}
	t.Log(met)
}
