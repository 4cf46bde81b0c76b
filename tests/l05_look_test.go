package tests

import (
	"bytes"
	"fmt"
	"math"
	"slices"
	"strings"
	"testing"

	"loop.example/g00285/impl"
)

var (
	_ func(impl.Tab, string) (int, int)              = impl.Walk
	_ func(impl.Tab, string) (impl.Inode, int)       = impl.Stat
	_ func(impl.Tab, string) ([]string, int)         = impl.List
	_ func(impl.Tab, string, int, int) ([]byte, int) = impl.ReadFile
	_ func(impl.Tab, string, string) (string, int)   = impl.GetAttr
)

// lookTab is a right table: directories within each other, one without entries, files, one without bytes, one by two names.
func lookTab() impl.Tab {
	return table(20,
		withAttrs(dir(1, 0, ent("d", 2), ent("e", 5), ent("f", 3), ent("z", 9)), attr("of", "the root")),
		withAttrs(dir(2, 1, ent("g", 4), ent("h", 6)), attr("a", "of d"), attr("b", "")),
		file(3, 2, "hello", attr("a", "v"), attr("b", "w"), attr("c", "")),
		file(4, 1, "the file g", attr("k", "of g")),
		dir(5, 1),
		dir(6, 1, ent("f", 3), ent("i", 7)),
		dir(7, 1, ent("d", 8)),
		file(8, 1, "deep"),
		file(9, 1, ""),
	)
}

// lookPlaces are all paths of lookTab, and the numbers that they lead to.
func lookPlaces() map[string]int {
	return map[string]int{
		"/": 1, "/d": 2, "/e": 5, "/f": 3, "/z": 9, "/d/g": 4, "/d/h": 6, "/d/h/f": 3, "/d/h/i": 7, "/d/h/i/d": 8,
	}
}

func lookFiles() []string { return []string{"/f", "/z", "/d/g", "/d/h/f", "/d/h/i/d"} }

func lookDirs() []string { return []string{"/", "/d", "/e", "/d/h", "/d/h/i"} }

// lookCall is a call of the chapter, whose answer is told as a text: "" of the zero value.
type lookCall struct {
	name string
	call func(x impl.Tab, path string) (string, int)
}

// textUnless is s, but "" in the place of what the zero value is told as.
func textUnless(zero, s string) string {
	if s == zero {
		return ""
	}
	return s
}

func lookCalls() []lookCall {
	return []lookCall{
		{"Walk", func(x impl.Tab, path string) (string, int) {
			ino, code := impl.Walk(x, path)
			return textUnless("0", fmt.Sprint(ino)), code
		}},
		{"Stat", func(x impl.Tab, path string) (string, int) {
			y, code := impl.Stat(x, path)
			return textUnless(told(impl.Inode{}), told(y)), code
		}},
		{"List", func(x impl.Tab, path string) (string, int) {
			l, code := impl.List(x, path)
			return textUnless("[]", fmt.Sprintf("%q", l)), code
		}},
		{"ReadFile", func(x impl.Tab, path string) (string, int) {
			b, code := impl.ReadFile(x, path, 0, 1000)
			return string(b), code
		}},
		{"GetAttr", func(x impl.Tab, path string) (string, int) { return impl.GetAttr(x, path, "a") }},
	}
}

// refusedLook asks for this code, and for the zero value beside it.
func refusedLook(t *testing.T, c lookCall, x impl.Tab, path string, want int) {
	t.Helper()
	if s, code := c.call(x, path); code != want || s != "" {
		t.Errorf("%s of %q: the code %d, not %d, and %q, of %s", c.name, path, code, want, s, toldTab(x))
	}
}

func refusedRead(t *testing.T, x impl.Tab, path string, off, n, want int) {
	t.Helper()
	if b, code := impl.ReadFile(x, path, off, n); code != want || len(b) != 0 {
		t.Errorf("ReadFile of %q from %d, %d: %q, the code %d, not %d", path, off, n, b, code, want)
	}
}

// The chapter's words, by other means than the program's.

func firstNumbered(x impl.Tab, ino int) (impl.Inode, bool) {
	i := slices.IndexFunc(x.Inodes, func(y impl.Inode) bool { return y.Ino == ino })
	if i < 0 {
		return impl.Inode{}, false
	}
	return x.Inodes[i], true
}

func followByWords(x impl.Tab, ino int, names []string) (int, int) {
	if len(names) == 0 {
		return ino, 0
	}
	at, _ := firstNumbered(x, ino)
	if at.Kind == 1 {
		return 0, 3
	}
	i := slices.IndexFunc(at.Ents, func(e impl.Ent) bool { return e.Name == names[0] })
	if i < 0 || at.Ents[i].Ino == 0 {
		return 0, 2
	}
	return followByWords(x, at.Ents[i].Ino, names[1:])
}

func walkByWords(x impl.Tab, path string) (int, int) {
	names, ok := pathByForm(path)
	if !ok {
		return 0, 1
	}
	return followByWords(x, 1, names)
}

func statByWords(x impl.Tab, path string) (impl.Inode, int) {
	ino, code := walkByWords(x, path)
	if code != 0 {
		return impl.Inode{}, code
	}
	y, there := firstNumbered(x, ino)
	if !there {
		return impl.Inode{}, 2
	}
	return y, 0
}

func listByWords(x impl.Tab, path string) ([]string, int) {
	y, code := statByWords(x, path)
	if code == 0 && y.Kind == 1 {
		code = 3
	}
	l := []string{}
	for i := 0; code == 0 && i < len(y.Ents); i++ {
		l = append(l, y.Ents[i].Name)
	}
	return l, code
}

func readByWords(x impl.Tab, path string, off, n int) (string, int) {
	if off < 0 || n < 0 {
		return "", 1
	}
	y, code := statByWords(x, path)
	if code == 0 && y.Kind == 2 {
		code = 3
	}
	s := ""
	for i, c := range y.Data {
		if code == 0 && i >= off && len(s) < n {
			s += string([]byte{c})
		}
	}
	return s, code
}

func attrByWords(x impl.Tab, path, name string) (string, int) {
	y, code := statByWords(x, path)
	if code != 0 {
		return "", code
	}
	i := slices.IndexFunc(y.Attrs, func(a impl.Attr) bool { return a.Name == name })
	if i < 0 {
		return "", 2
	}
	return y.Attrs[i].Val, 0
}

// readPlaces are pairs of off and n: none of them, some, more than there are, and wrong ones.
var readPlaces = [][2]int{{0, 0}, {0, 1}, {0, 1000}, {1, 2}, {3, 1}, {5, 5}, {1000, 1}, {math.MaxInt, math.MaxInt}, {-1, 1}, {0, -1}, {math.MinInt, math.MinInt}}

// checkLooks holds all five calls against the words.
func checkLooks(t *testing.T, x impl.Tab, path string) {
	t.Helper()
	ino, code := impl.Walk(x, path)
	if wantIno, want := walkByWords(x, path); ino != wantIno || code != want {
		t.Errorf("Walk of %q: %d, %d, not %d, %d, of %s", path, ino, code, wantIno, want, toldTab(x))
	}
	y, code := impl.Stat(x, path)
	if wantY, want := statByWords(x, path); told(y) != told(wantY) || code != want {
		t.Errorf("Stat of %q: %s, %d, not %s, %d, of %s", path, told(y), code, told(wantY), want, toldTab(x))
	}
	l, code := impl.List(x, path)
	if wantL, want := listByWords(x, path); !slices.Equal(l, wantL) || code != want {
		t.Errorf("List of %q: %q, %d, not %q, %d, of %s", path, l, code, wantL, want, toldTab(x))
	}
	for _, p := range readPlaces {
		b, code := impl.ReadFile(x, path, p[0], p[1])
		if wantB, want := readByWords(x, path, p[0], p[1]); string(b) != wantB || code != want {
			t.Errorf("ReadFile of %q, %v: %q, %d, not %q, %d, of %s", path, p, b, code, wantB, want, toldTab(x))
		}
	}
	for _, name := range []string{"a", "b", "", "ta"} {
		val, code := impl.GetAttr(x, path, name)
		if wantVal, want := attrByWords(x, path, name); val != wantVal || code != want {
			t.Errorf("GetAttr of %q, %q: %q, %d, not %q, %d, of %s", path, name, val, code, wantVal, want, toldTab(x))
		}
	}
}

func TestWalksThatLeadSomewhere(t *testing.T) {
	x := lookTab()
	if !impl.TabOk(x) {
		t.Fatal("the table is not right")
	}
	for path, want := range lookPlaces() {
		if ino, code := impl.Walk(x, path); ino != want || code != impl.FsGood {
			t.Errorf("Walk of %s: %d, %d", path, ino, code)
		}
		y, code := impl.Stat(x, path)
		if there, _ := impl.InodeAt(x, want); code != impl.FsGood || told(y) != told(there) {
			t.Errorf("Stat of %s: %s, %d", path, told(y), code)
		}
		checkLooks(t, x, path)
	}
}

func TestWalksOfTheNewTable(t *testing.T) {
	x := impl.TabNew()
	if ino, code := impl.Walk(x, "/"); ino != 1 || code != impl.FsGood {
		t.Error("Walk of /:", ino, code)
	}
	if y, code := impl.Stat(x, "/"); code != impl.FsGood || told(y) != told(dir(1, 0)) {
		t.Error("Stat of /:", told(y), code)
	}
	if l, code := impl.List(x, "/"); code != impl.FsGood || len(l) != 0 {
		t.Error("List of /:", l, code)
	}
	refusedRead(t, x, "/", 0, 5, impl.FsKind)
	for _, c := range lookCalls() {
		refusedLook(t, c, x, "/a", impl.FsNone)
		refusedLook(t, c, x, "/a/b", impl.FsNone)
	}
}

func TestNothingOfWhatIsNoPath(t *testing.T) {
	wrong := append(wrongPaths(), "", "d", "//", "d/g", "/d/", "/d//g", "//d", "/D", "/./d", "/d/..", "/d/g\n", "/d\x00", strings.Repeat("/d", 31))
	for _, x := range []impl.Tab{lookTab(), impl.TabNew(), {}, table(9, file(1, 0, "a file")), table(9, dir(1, 0, ent("", 2), ent(".", 2), ent("D", 2), ent("d/g", 2)), file(2, 1, "x"))} {
		for _, path := range wrong {
			for _, c := range lookCalls() {
				refusedLook(t, c, x, path, impl.FsForm)
			}
		}
	}
}

func TestNamesThatLeadNowhere(t *testing.T) {
	x := lookTab()
	for _, path := range []string{"/x", "/a", "/g", "/d/x", "/d/d", "/d/f", "/e/x", "/d/h/x", "/d/h/i/x", "/x/y", "/x/d", "/x/f/g", "/d/x/g", "/d/x/y/z", "/e/d/g", "/d/h/x/f", "/dd", "/d.", "/x" + strings.Repeat("/d", 29)} {
		for _, c := range lookCalls() {
			refusedLook(t, c, x, path, impl.FsNone)
		}
	}
}

func TestNamesBehindAFile(t *testing.T) {
	x := lookTab()
	for _, f := range lookFiles() {
		for _, behind := range []string{"/x", "/d", "/f", "/x/y", "/d/g/h"} {
			for _, c := range lookCalls() {
				refusedLook(t, c, x, f+behind, impl.FsKind)
			}
		}
	}
	root := table(9, file(1, 0, "a file"), dir(2, 1))
	for _, c := range lookCalls() {
		refusedLook(t, c, root, "/a", impl.FsKind)
	}
}

func TestAFilesEntriesLeadNowhere(t *testing.T) {
	x := table(9, dir(1, 0, ent("f", 2)), impl.Inode{Ino: 2, Kind: impl.InFile, Links: 1, Ents: []impl.Ent{ent("a", 3), ent("b", 1)}}, file(3, 1, "x"))
	for _, c := range lookCalls() {
		refusedLook(t, c, x, "/f/a", impl.FsKind)
		refusedLook(t, c, x, "/f/b/f", impl.FsKind)
		refusedLook(t, c, x, "/f/c", impl.FsKind)
	}
	if l, code := impl.List(x, "/f"); len(l) != 0 || code != impl.FsKind {
		t.Error("List of a file with entries:", l, code)
	}
}

func TestWhereListWantsADirectory(t *testing.T) {
	x := lookTab()
	for _, f := range lookFiles() {
		if l, code := impl.List(x, f); len(l) != 0 || code != impl.FsKind {
			t.Errorf("List of the file %s: %q, %d", f, l, code)
		}
	}
	for _, d := range lookDirs() {
		if _, code := impl.List(x, d); code != impl.FsGood {
			t.Errorf("List of the directory %s: %d", d, code)
		}
	}
}

func TestWhereReadFileWantsAFile(t *testing.T) {
	x := lookTab()
	x.Inodes[1].Data = []byte("bytes that a directory may not have")
	for _, d := range lookDirs() {
		for _, n := range []int{0, 1, 100, math.MaxInt} {
			refusedRead(t, x, d, 0, n, impl.FsKind)
			refusedRead(t, x, d, n, 1, impl.FsKind)
		}
	}
	for _, f := range lookFiles() {
		if _, code := impl.ReadFile(x, f, 0, 1); code != impl.FsGood {
			t.Errorf("ReadFile of the file %s: %d", f, code)
		}
	}
}

func TestNamesAsTheyStand(t *testing.T) {
	x := lookTab()
	for path, want := range map[string]string{"/": "d e f z", "/d": "g h", "/e": "", "/d/h": "f i", "/d/h/i": "d"} {
		if l, code := impl.List(x, path); code != impl.FsGood || strings.Join(l, " ") != want {
			t.Errorf("List of %s: %q, %d", path, l, code)
		}
	}
	odd := table(9, dir(1, 0, ent("z", 2), ent("a", 0), ent("z", 2), ent("", 9), ent("NO NAME", -1), ent("m", 2)))
	if l, code := impl.List(odd, "/"); code != impl.FsGood || !slices.Equal(l, []string{"z", "a", "z", "", "NO NAME", "m"}) {
		t.Errorf("List of names that are not right: %q, %d", l, code)
	}
	for _, n := range []int{1, 9, 10, 11, 26} {
		l, code := impl.List(table(9, dir(1, 0, entsOf(n)...)), "/")
		if code != impl.FsGood || len(l) != n || l[n-1] != entsOf(n)[n-1].Name {
			t.Errorf("List of %d names: %q, %d", n, l, code)
		}
	}
}

// fileOf is a table with one file, /f, of n bytes, no two that stand beside each other alike.
func fileOf(n int) (impl.Tab, []byte) {
	b := make([]byte, n)
	for i := range b {
		b[i] = byte(250 - 7*i)
	}
	return table(9, dir(1, 0, ent("f", 2)), file(2, 1, string(b))), b
}

func TestFilesReadAtOnce(t *testing.T) {
	for n := range impl.MaxData + 20 {
		x, data := fileOf(n)
		for _, most := range []int{n, n + 1, 1000, math.MaxInt} {
			if b, code := impl.ReadFile(x, "/f", 0, most); code != impl.FsGood || !bytes.Equal(b, data) {
				t.Errorf("%d bytes, at most %d: %x, %d", n, most, b, code)
			}
		}
	}
}

func TestFilesReadInTwoPartsAtEveryPlace(t *testing.T) {
	for n := range impl.MaxData + 1 {
		x, _ := fileOf(n)
		whole, _ := impl.ReadFile(x, "/f", 0, n)
		for at := range n + 3 {
			first, code := impl.ReadFile(x, "/f", 0, at)
			second, codeToo := impl.ReadFile(x, "/f", at, n)
			if code != impl.FsGood || codeToo != impl.FsGood || !bytes.Equal(slices.Concat(first, second), whole) {
				t.Errorf("%d bytes in two parts at %d: %x, %x, not %x", n, at, first, second, whole)
			}
			if len(first) != min(at, n) {
				t.Errorf("%d bytes, the first part of at most %d: %d", n, at, len(first))
			}
		}
	}
}

func TestFilesReadInPartsOfEveryLength(t *testing.T) {
	for _, n := range []int{0, 1, 2, 7, 50, 99, 100} {
		x, _ := fileOf(n)
		whole, _ := impl.ReadFile(x, "/f", 0, math.MaxInt)
		for part := 1; part <= n+2; part++ {
			all := []byte{}
			for off := 0; off <= n; off += part {
				b, code := impl.ReadFile(x, "/f", off, part)
				if code != impl.FsGood || len(b) > part {
					t.Errorf("%d bytes from %d on, at most %d: %x, %d", n, off, part, b, code)
				}
				all = append(all, b...)
			}
			if !bytes.Equal(all, whole) {
				t.Errorf("%d bytes in parts of %d: %x, not %x", n, part, all, whole)
			}
		}
	}
}

func TestFilesReadFromEveryPlaceOn(t *testing.T) {
	for _, size := range []int{0, 1, 5, 30, 100} {
		x, data := fileOf(size)
		for off := range size + 5 {
			for n := range size + 5 {
				from := min(off, size)
				want := data[from:min(from+n, size)]
				if b, code := impl.ReadFile(x, "/f", off, n); code != impl.FsGood || !bytes.Equal(b, want) {
					t.Errorf("of %d bytes, from %d on, at most %d: %x, %d", size, off, n, b, code)
				}
			}
		}
	}
}

func TestTheEdgesOfReading(t *testing.T) {
	x := lookTab()
	greatest := math.MaxInt
	for _, k := range []struct {
		path   string
		off, n int
		want   string
	}{
		{"/f", 0, 5, "hello"}, {"/f", 0, 6, "hello"}, {"/f", 0, 4, "hell"}, {"/f", 4, 1, "o"}, {"/f", 4, 2, "o"}, {"/f", 4, 0, ""}, {"/f", 0, 0, ""},
		{"/f", 5, 0, ""}, {"/f", 5, 1, ""}, {"/f", 6, 1, ""}, {"/f", 101, 1, ""}, {"/f", 5, 100, ""},
		{"/f", 0, greatest, "hello"}, {"/f", 1, greatest, "ello"}, {"/f", 4, greatest, "o"}, {"/f", 5, greatest, ""}, {"/f", 6, greatest, ""},
		{"/f", greatest, 0, ""}, {"/f", greatest, 1, ""}, {"/f", greatest, greatest, ""}, {"/f", greatest - 1, 2, ""}, {"/f", greatest - 4, 5, ""}, {"/f", 2, greatest - 1, "llo"}, {"/f", 1 << 32, 5, ""}, {"/f", 1, 1 << 32, "ello"},
		{"/z", 0, 0, ""}, {"/z", 0, 1, ""}, {"/z", 1, 1, ""}, {"/z", 0, greatest, ""}, {"/z", greatest, greatest, ""},
		{"/d/h/f", 1, 3, "ell"}, {"/d/h/i/d", 0, 100, "deep"}, {"/d/h/i/d", 2, 1, "e"},
	} {
		if b, code := impl.ReadFile(x, k.path, k.off, k.n); code != impl.FsGood || string(b) != k.want {
			t.Errorf("ReadFile of %s from %d, %d: %q, %d", k.path, k.off, k.n, b, code)
		}
	}
}

func TestReadingWithNumbersBelowNought(t *testing.T) {
	x := lookTab()
	// The first reason counts: also of what is not there, stands behind a file, or is a directory.
	for _, path := range []string{"/f", "/z", "/d/h/f", "/", "/d", "/x", "/x/y", "/f/x", "", "f", "/d/"} {
		for _, below := range []int{-1, -2, -5, -1 << 32, math.MinInt + 1, math.MinInt} {
			for _, other := range []int{0, 1, 5, 6, math.MaxInt, -1, math.MinInt} {
				refusedRead(t, x, path, below, other, impl.FsForm)
				refusedRead(t, x, path, other, below, impl.FsForm)
				refusedRead(t, impl.Tab{}, path, below, other, impl.FsForm)
			}
		}
	}
}

func TestAttributes(t *testing.T) {
	x := lookTab()
	for _, k := range []struct {
		path, name, want string
		code             int
	}{
		{"/f", "a", "v", impl.FsGood}, {"/f", "b", "w", impl.FsGood}, {"/f", "c", "", impl.FsGood}, {"/d/h/f", "b", "w", impl.FsGood},
		{"/", "of", "the root", impl.FsGood}, {"/d", "a", "of d", impl.FsGood}, {"/d", "b", "", impl.FsGood}, {"/d/g", "k", "of g", impl.FsGood},
		{"/f", "d", "", impl.FsNone}, {"/f", "", "", impl.FsNone}, {"/f", "A", "", impl.FsNone}, {"/f", "aa", "", impl.FsNone}, {"/f", "v", "", impl.FsNone}, {"/f", "no name", "", impl.FsNone}, {"/f", "..", "", impl.FsNone},
		{"/", "a", "", impl.FsNone}, {"/d", "c", "", impl.FsNone}, {"/e", "a", "", impl.FsNone}, {"/z", "a", "", impl.FsNone}, {"/d/g", "a", "", impl.FsNone},
		{"/x", "a", "", impl.FsNone}, {"/f/x", "a", "", impl.FsKind}, {"/f/x", "no name", "", impl.FsKind}, {"f", "a", "", impl.FsForm}, {"f", "d", "", impl.FsForm},
	} {
		if val, code := impl.GetAttr(x, k.path, k.name); val != k.want || code != k.code {
			t.Errorf("GetAttr of %s, %q: %q, %d", k.path, k.name, val, code)
		}
	}
}

func TestTheFirstOfOneNameCounts(t *testing.T) {
	x := table(9,
		dir(1, 0, ent("b", 3), ent("a", 2), ent("b", 2), ent("n", 0), ent("n", 2), ent("g", 8), ent("g", 2)),
		file(2, 1, "second", attr("k", "one"), attr("j", ""), attr("k", "two"), attr("j", "x"), attr("", "of no name"), attr("NO", "name")),
		file(3, 1, "third"), file(2, 1, "again", attr("k", "three")))
	for path, want := range map[string]string{"/a": "second", "/b": "third"} {
		if b, code := impl.ReadFile(x, path, 0, 100); code != impl.FsGood || string(b) != want {
			t.Errorf("ReadFile of %s: %q, %d", path, b, code)
		}
	}
	for name, want := range map[string]string{"k": "one", "j": "", "": "of no name", "NO": "name"} {
		if val, code := impl.GetAttr(x, "/a", name); code != impl.FsGood || val != want {
			t.Errorf("GetAttr of %q: %q, %d", name, val, code)
		}
	}
	refusedLook(t, lookCalls()[0], x, "/n", impl.FsNone)
	if ino, code := impl.Walk(x, "/g"); ino != 8 || code != impl.FsGood {
		t.Error("Walk to the first of two:", ino, code)
	}
	refusedLook(t, lookCalls()[1], x, "/g", impl.FsNone)
}

func TestNumbersThatAreNotThere(t *testing.T) {
	for _, far := range []int{math.MinInt, -1, 7, 999, 1000, 1001, math.MaxInt} {
		x := table(9, dir(1, 0, ent("d", 2), ent("far", far)), dir(2, 1, ent("far", far)))
		for _, path := range []string{"/far", "/d/far"} {
			if ino, code := impl.Walk(x, path); ino != far || code != impl.FsGood {
				t.Errorf("Walk of %s to %d: %d, %d", path, far, ino, code)
			}
			for _, c := range lookCalls() {
				if c.name != "Walk" {
					refusedLook(t, c, x, path, impl.FsNone)
				}
				refusedLook(t, c, x, path+"/a", impl.FsNone)
				refusedLook(t, c, x, path+"/a/b", impl.FsNone)
			}
		}
	}
}

func TestTablesWithoutTheInode1(t *testing.T) {
	for _, x := range []impl.Tab{{}, {Next: 2}, {Inodes: []impl.Inode{}}, table(9, dir(2, 1, ent("a", 3)), file(3, 1, "x")), table(9, impl.Inode{})} {
		if ino, code := impl.Walk(x, "/"); ino != 1 || code != impl.FsGood {
			t.Errorf("Walk of /: %d, %d, of %s", ino, code, toldTab(x))
		}
		for _, c := range lookCalls() {
			if c.name != "Walk" {
				refusedLook(t, c, x, "/", impl.FsNone)
			}
			refusedLook(t, c, x, "/a", impl.FsNone)
			refusedLook(t, c, x, "/a/b", impl.FsNone)
		}
	}
}

// TestWhatIsNeitherAFileNorADirectory: the words refuse a file here, a directory there, and nothing else.
func TestWhatIsNeitherAFileNorADirectory(t *testing.T) {
	for _, kind := range []int{math.MinInt, -1, 0, 3, 4, 257, 258, math.MaxInt} {
		odd := impl.Inode{Ino: 2, Kind: kind, Links: 1, Data: []byte("odd bytes"), Ents: []impl.Ent{ent("y", 3), ent("b", 1)}, Attrs: []impl.Attr{attr("a", "odd")}}
		x := table(9, dir(1, 0, ent("o", 2)), odd, file(3, 1, "within"))
		if y, code := impl.Stat(x, "/o"); code != impl.FsGood || told(y) != told(odd) {
			t.Errorf("kind %d: Stat: %s, %d", kind, told(y), code)
		}
		if l, code := impl.List(x, "/o"); code != impl.FsGood || !slices.Equal(l, []string{"y", "b"}) {
			t.Errorf("kind %d: List: %q, %d", kind, l, code)
		}
		if b, code := impl.ReadFile(x, "/o", 4, 3); code != impl.FsGood || string(b) != "byt" {
			t.Errorf("kind %d: ReadFile: %q, %d", kind, b, code)
		}
		if val, code := impl.GetAttr(x, "/o", "a"); code != impl.FsGood || val != "odd" {
			t.Errorf("kind %d: GetAttr: %q, %d", kind, val, code)
		}
		if ino, code := impl.Walk(x, "/o/b/o/y"); ino != 3 || code != impl.FsGood {
			t.Errorf("kind %d: Walk through it: %d, %d", kind, ino, code)
		}
		for _, c := range lookCalls() {
			refusedLook(t, c, x, "/o/x", impl.FsNone)
			refusedLook(t, c, x, "/o/y/x", impl.FsKind)
		}
	}
}

func TestTheLongestWalks(t *testing.T) {
	round := table(9, dir(1, 0, ent("a", 2), ent("s", 1)), dir(2, 1, ent("a", 1), ent("f", 3)), file(3, 1, "x"))
	for n := range 31 {
		if ino, code := impl.Walk(round, "/"+strings.Join(slices.Repeat([]string{"a"}, n), "/")); ino != 1+n%2 || code != impl.FsGood {
			t.Errorf("round %d times: %d, %d", n, ino, code)
		}
	}
	if ino, code := impl.Walk(round, strings.Repeat("/s", 28)+"/a/f"); ino != 3 || code != impl.FsGood {
		t.Error("30 names:", ino, code)
	}
	for _, c := range lookCalls() {
		refusedLook(t, c, round, strings.Repeat("/s", 29)+"/a/f", impl.FsForm)
		refusedLook(t, c, round, strings.Repeat("/s", 27)+"/a/f/x", impl.FsKind)
		refusedLook(t, c, round, strings.Repeat("/s", 29)+"/x", impl.FsNone)
	}
	chain := impl.Tab{Next: 1000}
	for ino := 1; ino < 30; ino++ {
		chain.Inodes = append(chain.Inodes, dir(ino, min(ino-1, 1), ent("fourteenbytesx", ino+1)))
	}
	chain.Inodes = append(chain.Inodes, file(30, 1, "at the end"))
	if b, code := impl.ReadFile(chain, strings.Repeat("/fourteenbytesx", 29), 3, 3); code != impl.FsGood || string(b) != "the" {
		t.Errorf("the longest chain: %q, %d", b, code)
	}
}

func TestLooksOfTablesThatAreAndAreNotRight(t *testing.T) {
	paths := []string{"/", "/a", "/b", "/ea", "/eb", "/ea/eb", "/eb/ea/ec", "/a/k", "/b/a", "", "a", "/A"}
	for _, x := range append(append(rightTabs(), wrongTabs()...), memoryTabs()...) {
		for _, path := range paths {
			checkLooks(t, x, path)
		}
	}
}

// TestLooksOfEverySmallTable goes through all tables of three places, each with one of these inodes, right or not.
func TestLooksOfEverySmallTable(t *testing.T) {
	paths := []string{"/", "/a", "/b", "/a/a", "/a/b", "/b/a", "/b/b", "/a/a/a", "/a/b/a", "/b/b/b", "/c", "a"}
	ents := [][]impl.Ent{nil, {ent("a", 2)}, {ent("a", 3), ent("b", 2)}, {ent("b", 1), ent("b", 3)}, {ent("b", 0), ent("a", 9), ent("b", 2)}}
	inodes := []impl.Inode{{Ino: 7}}
	for kind := 1; kind <= 3; kind++ {
		for i, l := range ents {
			inodes = append(inodes, impl.Inode{Kind: kind, Data: []byte("data")[:i%5], Ents: l, Attrs: attrsOf(i % 3)})
		}
	}
	for _, one := range inodes {
		for _, two := range inodes {
			for _, three := range inodes {
				x := table(9, one, two, three)
				for i := range x.Inodes {
					x.Inodes[i].Ino = max(x.Inodes[i].Ino, i+1)
				}
				for _, path := range paths {
					checkLooks(t, x, path)
				}
			}
		}
	}
}

func TestLooksOfEveryShortText(t *testing.T) {
	x := table(9, dir(1, 0, ent("a", 2), ent(".", 2), ent("", 2), ent("A", 2), ent("aa", 3)), dir(2, 1, ent("a", 1), ent("aa", 3), ent("/", 3), ent("..", 1)), file(3, 1, "x"))
	everyText("/a.A", 6, func(s string) { checkLooks(t, x, s) })
}
