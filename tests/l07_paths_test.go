package tests

import (
	"slices"
	"strconv"
	"strings"
	"testing"

	"loop.example/g00285/impl"
)

func TestTheNewTableHasNoPaths(t *testing.T) {
	for _, x := range []impl.Tab{impl.TabNew(), table(1000, dir(1, 0))} {
		wantPaths(t, x)
		if got := impl.UsageOf(x); got != 32 {
			t.Error("its usage is", got)
		}
	}
}

func TestKnownPathsAndUsage(t *testing.T) {
	wantPaths(t, lookTab(), "/d", "/d/g", "/d/h", "/d/h/f", "/d/h/i", "/d/h/i/d", "/e", "/f", "/z")
	bytesOfAll := len("hello") + len("the file g") + len("deep")
	attrsOfAll := len("of"+"the root") + len("a"+"of d"+"b") + len("a"+"v"+"b"+"w"+"c") + len("k"+"of g")
	if got, want := impl.UsageOf(lookTab()), 9*32+bytesOfAll+attrsOfAll; got != want {
		t.Errorf("UsageOf: %d, not %d", got, want)
	}
	// Numbers that do not go with the names.
	x := table(9, dir(1, 0, ent("b", 2), ent("c", 8)), dir(2, 1, ent("a", 7)), file(7, 1, "x"), dir(8, 1, ent("z", 5)))
	x.Inodes = slices.Insert(x.Inodes, 2, file(5, 1, ""))
	wantPaths(t, x, "/b", "/b/a", "/c", "/c/z")
}

// TestPathsAscendByteByByte: the slash stands behind '-' and '.', and ahead of digits, '_' and letters.
func TestPathsAscendByteByByte(t *testing.T) {
	names := []string{"a", "a-", "a-b", "a.", "a.b", "a0", "a_", "aa", "ab", "b"}
	x := impl.TabNew()
	// Made from the last on: the order in which they come to be counts for nothing.
	for _, name := range slices.Backward(names) {
		x = mustDo(t, x, askDir("/"+name), askFile("/"+name+"/x"))
	}
	wantPaths(t, x,
		"/a", "/a-", "/a-/x", "/a-b", "/a-b/x", "/a.", "/a./x", "/a.b", "/a.b/x", "/a/x",
		"/a0", "/a0/x", "/a_", "/a_/x", "/aa", "/aa/x", "/ab", "/ab/x", "/b", "/b/x")
}

func TestANameThatBeginsAnotherOne(t *testing.T) {
	x := mustDo(t, impl.TabNew(), askDir("/b"), askDir("/b/b"), askFile("/b/b/b"), askFile("/b/b-"), askFile("/b-b"), askFile("/b.b"), askFile("/b0"), askFile("/bb"), askFile("/b/bb"), askFile("/b/b/-"))
	wantPaths(t, x, "/b", "/b-b", "/b.b", "/b/b", "/b/b-", "/b/b/-", "/b/b/b", "/b/bb", "/b0", "/bb")
	// All signs that a name may have, one in another's place.
	signs := "-.0123456789_abcdefghijklmnopqrstuvwxyz"
	for i, sign := range signs {
		for _, other := range signs[i+1:] {
			first, second := "/a"+string(sign), "/a"+string(other)
			y := mustDo(t, impl.TabNew(), askDir("/a"), askFile("/a/x"))
			y, _ = impl.MakeFile(y, second)
			y, _ = impl.MakeFile(y, first)
			want := []string{"/a", "/a/x", first, second}
			if sign == '-' || sign == '.' {
				want = []string{"/a", first, "/a/x", second}
			}
			if sign == '-' && other == '.' {
				want = []string{"/a", first, second, "/a/x"}
			}
			wantPaths(t, y, want...)
		}
	}
}

// deepTab is a tree of n directories within each other; each is called a.
func deepTab(n int) impl.Tab {
	x := table(n+2, dir(1, 0))
	for i := range n {
		x.Inodes[i].Ents = []impl.Ent{ent("a", i+2)}
		x.Inodes = append(x.Inodes, dir(i+2, 1))
	}
	return x
}

func deepPath(n int) string { return strings.Repeat("/a", n) }

// TestNamesInOneAnother: with the inode 1 there may be 29 directories within each other; 30 names are a path, 31 are none.
func TestNamesInOneAnother(t *testing.T) {
	x, want := impl.TabNew(), []string{}
	for n := 1; n < impl.MaxInodes; n++ {
		x = mustDo(t, x, askDir(deepPath(n)))
		want = append(want, deepPath(n))
		wantPaths(t, x, want...)
		if toldTab(x) != toldTab(deepTab(n)) || impl.UsageOf(x) != 32*(n+1) {
			t.Errorf("%d in one another: a usage of %d, and %s", n, impl.UsageOf(x), toldTab(x))
		}
	}
	for _, k := range []struct {
		a    asked
		code int
	}{
		{askDir(deepPath(30)), impl.FsFull}, {askFile(deepPath(30)), impl.FsFull}, {askLink(deepPath(29), deepPath(30)), impl.FsKind}, {askMove(deepPath(29), deepPath(30)), impl.FsBusy},
		{askDir(deepPath(31)), impl.FsForm}, {askFile(deepPath(31)), impl.FsForm}, {askLink(deepPath(29), deepPath(31)), impl.FsForm}, {askMove(deepPath(29), deepPath(31)), impl.FsForm},
	} {
		refusedChange(t, x, k.a, k.code)
	}
	wantPaths(t, x, want...)
	for n := 30; n < 40; n++ {
		deep := deepTab(n)
		if impl.TreeOk(deep) || len(impl.PathsOf(deep)) != 0 {
			t.Errorf("%d names in one another are a tree", n)
		}
		if got := impl.Reached(deep); len(got) != n+1 || impl.UsageOf(deep) != 32*(n+1) || impl.LinksOf(deep, n+1) != 1 {
			t.Errorf("of %d names in one another %v are reached, and the usage is %d", n, got, impl.UsageOf(deep))
		}
	}
}

// TestAFileFarDown: a file's second path is as deep as a tree goes.
func TestAFileFarDown(t *testing.T) {
	x := mustDo(t, deepTab(28), askFile("/f"), askLink("/f", deepPath(28)+"/f"), askWrite(deepPath(28)+"/f", 0, "far"))
	l := impl.PathsOf(x)
	if len(l) != 30 || l[28] != deepPath(28)+"/f" || l[29] != "/f" || impl.LinksOf(x, 30) != 2 {
		t.Errorf("the paths are %q", l)
	}
	if b, _ := impl.ReadFile(x, "/f", 0, 9); string(b) != "far" {
		t.Errorf("the file has %q", b)
	}
}

func TestPathsOfAsManyInodesAsThereMayBe(t *testing.T) {
	for n := 4; n <= 31; n++ {
		x := manyInodes(n)
		l := impl.PathsOf(x)
		if n > impl.MaxInodes {
			if len(l) != 0 || impl.TreeOk(x) {
				t.Errorf("%d inodes are a tree of %q", n, l)
			}
		} else if len(l) != n-1 || !impl.TreeOk(x) {
			t.Errorf("%d inodes have the paths %q", n, l)
		}
		if got := len(impl.Reached(x)); got != n {
			t.Errorf("%d inodes: %d are reached", n, got)
		}
	}
}

// TestTheGreatestUsage: as many inodes, bytes and attributes as there may be.
func TestTheGreatestUsage(t *testing.T) {
	attrs := []impl.Attr{}
	for _, sign := range []string{"a", "b", "c", "d"} {
		attrs = append(attrs, attr(strings.Repeat(sign, 14), strings.Repeat(sign, 16)))
	}
	x := table(31, withAttrs(dir(1, 0, ent("d", 2)), attrs...), withAttrs(dir(2, 1, ent("e", 3)), attrs...), withAttrs(dir(3, 1), attrs...))
	for ino := 4; ino <= 30; ino++ {
		x.Inodes = append(x.Inodes, file(ino, 1, strings.Repeat("x", 100), attrs...))
		above := &x.Inodes[(ino+2)%3]
		above.Ents = append(above.Ents, ent("n"+strconv.Itoa(100+ino), ino))
	}
	if !impl.TreeOk(x) || len(impl.PathsOf(x)) != 29 {
		t.Fatal("no tree:", toldTab(x))
	}
	if got, want := impl.UsageOf(x), 30*32+27*100+30*4*30; got != want {
		t.Errorf("UsageOf: %d, not %d", got, want)
	}
	of(&x, 30).Data = append(of(&x, 30).Data, 'x')
	if impl.TreeOk(x) || len(impl.PathsOf(x)) != 0 || impl.UsageOf(x) != 30*32+27*100+30*4*30+1 {
		t.Error("a file of one byte too many:", impl.UsageOf(x))
	}
	of(&x, 30).Data = nil
	of(&x, 30).Attrs = append(slices.Clone(attrs), attr("e", "v"))
	if impl.TreeOk(x) || len(impl.PathsOf(x)) != 0 || impl.UsageOf(x) != 30*32+26*100+30*4*30+2 {
		t.Error("an inode of one attribute too many:", impl.UsageOf(x))
	}
}

func TestUsageOfEachLength(t *testing.T) {
	for n := range impl.MaxData + 1 {
		x := mustDo(t, impl.TabNew(), askFile("/f"), askCut("/f", n))
		if got := impl.UsageOf(x); got != 64+n {
			t.Errorf("%d bytes: a usage of %d", n, got)
		}
	}
	x := mustDo(t, impl.TabNew(), askFile("/f"), askDir("/d"))
	for n := range impl.MaxAttrs + 1 {
		for _, path := range []string{"/", "/f", "/d"} {
			y := x
			for i := range n {
				y = mustDo(t, y, askAttr(path, strings.Repeat("k", i+1), strings.Repeat("v", i+5)))
			}
			if got, want := impl.UsageOf(y), 96+[]int{0, 6, 14, 24, 36}[n]; got != want {
				t.Errorf("%d attributes of %s: a usage of %d, not %d", n, path, got, want)
			}
		}
	}
}

func TestUsageCountsEachInodeOfATable(t *testing.T) {
	one := impl.Inode{Ino: 7, Kind: 9, Links: -1, Data: []byte("abc"), Ents: entsOf(3), Attrs: []impl.Attr{attr("", "val"), attr("name", "")}}
	for n := range 50 {
		x := impl.Tab{}
		for range n {
			x.Inodes = append(x.Inodes, one)
		}
		if got := impl.UsageOf(x); got != n*(32+3+3+4) {
			t.Errorf("%d of one number: a usage of %d", n, got)
		}
	}
}

func TestAFileByManyEntries(t *testing.T) {
	// Of one directory.
	x := mustDo(t, impl.TabNew(), askFile("/na"), askWrite("/na", 0, "x"))
	want := []string{"/na"}
	for _, sign := range "bcdefghij" {
		x = mustDo(t, x, askLink("/na", "/n"+string(sign)))
		want = append(want, "/n"+string(sign))
		wantPaths(t, x, want...)
		if got := impl.UsageOf(x); got != 65 || impl.LinksOf(x, 2) != len(want) {
			t.Errorf("by %d entries: a usage of %d, and %d links", len(want), got, impl.LinksOf(x, 2))
		}
	}
	refusedChange(t, x, askLink("/na", "/nk"), impl.FsFull)
	for len(want) > 1 {
		x = mustDo(t, x, askUnlink(want[0]))
		want = want[1:]
		wantPaths(t, x, want...)
	}
	x = mustDo(t, x, askUnlink(want[0]))
	wantPaths(t, x)
}

// TestAsManyPathsAsATreeMayHave: 29 directories have 290 entries, of which 28 lead to directories and all others to one file.
func TestAsManyPathsAsATreeMayHave(t *testing.T) {
	x := mustDo(t, deepTab(28), askFile("/n0"))
	for n := range 29 {
		for i := range 9 {
			path := deepPath(n) + "/n" + strconv.Itoa(i)
			if path != "/n0" {
				x, _ = impl.HardLink(x, "/n0", path)
			}
		}
	}
	x = mustDo(t, x, askLink("/n0", deepPath(28)+"/a"), askWrite(deepPath(20)+"/n5", 0, "by all of them"))
	l := impl.PathsOf(x)
	if len(l) != 290 || impl.LinksOf(x, 30) != 262 || impl.UsageOf(x) != 30*32+len("by all of them") {
		t.Errorf("%d paths, %d links, a usage of %d", len(l), impl.LinksOf(x, 30), impl.UsageOf(x))
	}
	checkTree(t, x)
	for _, path := range l {
		if b, code := impl.ReadFile(x, path, 0, 100); code == impl.FsGood && string(b) != "by all of them" {
			t.Errorf("%s has %q", path, b)
		}
	}
}

// TestPathsAreWhereAWalkLeads: of all paths of few names those that lead somewhere, and no others.
func TestPathsAreWhereAWalkLeads(t *testing.T) {
	for _, x := range []impl.Tab{impl.TabNew(), lookTab(), mustDo(t, impl.TabNew(), askDir("/d"), askDir("/d/d"), askFile("/d/d/d"), askFile("/d/d/e"), askLink("/d/d/e", "/e"), askDir("/f"), askDir("/f/i"))} {
		want := []string{}
		everyText("defghiz", 5, func(s string) {
			path := ""
			for _, name := range s {
				path += "/" + string(name)
			}
			if _, code := impl.Walk(x, path); code == impl.FsGood {
				want = append(want, path)
			}
		})
		slices.Sort(want)
		wantPaths(t, x, want...)
	}
}

// TestNoPathsOfWhatIsNoTree: nor is anything else of such tables refused, or without an end.
func TestNoPathsOfWhatIsNoTree(t *testing.T) {
	for _, x := range append(wrongTrees(), oddTabs()...) {
		if got := impl.PathsOf(x); len(got) != 0 || impl.TreeOk(x) {
			t.Errorf("PathsOf: %q, of %s", got, toldTab(x))
		}
		checkTree(t, x)
	}
}
