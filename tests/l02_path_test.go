package tests

import (
	"regexp"
	"slices"
	"strconv"
	"strings"
	"testing"

	"loop.example/g00285/impl"
)

var (
	_ func(string) bool                   = impl.NameOk
	_ func(string) ([]string, bool)       = impl.SplitPath
	_ func([]string) string               = impl.JoinPath
	_ func(string) (string, string, bool) = impl.ParentOf
	_ func(string, string) bool           = impl.Below
)

// The forms of the document, told by other means than the program's.
var (
	nameForm = regexp.MustCompile(`\A[a-z0-9_.-]{1,14}\z`)
	pathForm = regexp.MustCompile(`\A(/|(/[a-z0-9_.-]{1,14}){1,30})\z`)
)

func nameByForm(s string) bool {
	return nameForm.MatchString(s) && s != "." && s != ".."
}

func pathByForm(s string) ([]string, bool) {
	if !pathForm.MatchString(s) {
		return nil, false
	}
	if s == "/" {
		return nil, true
	}
	l := strings.Split(s[1:], "/")
	return l, !slices.Contains(l, ".") && !slices.Contains(l, "..")
}

// everyText calls f with each text of at most n of these signs.
func everyText(signs string, n int, f func(s string)) {
	b := make([]byte, 0, n)
	var grow func()
	grow = func() {
		f(string(b))
		if len(b) == n {
			return
		}
		for i := range len(signs) {
			b = append(b, signs[i])
			grow()
			b = b[:len(b)-1]
		}
	}
	grow()
}

func rightNames() []string {
	return []string{
		"a", "z", "0", "9", "_", "-", "...", "....", "..............", ".a", "a.", "..a", "a..", ".-", "-.", "b.c", "d-1", "_x",
		"fourteenbytesx", "abcdefghijklmn", "opqrstuvwxyz01", "23456789_-.", "00", "00000000000000",
	}
}

func wrongNames() []string {
	return []string{
		"", ".", "..", "fifteenbytesxxx", "...............", strings.Repeat("a", 16), strings.Repeat("a", 300),
		"A", "Z", "aB", "Ba", " ", "a ", " a", "a b", "\t", "a\n", "\x00", "a\x00", "/", "a/", "/a", "a/b", "\\", "*", "+", ",", ":", "@", "[", "^", "`", "{", "~",
		"\x7f", "\x80", "\xe1", "\xff", "é", "aé", "☃", "ａ",
	}
}

func TestNamesThatAreAndThatAreNone(t *testing.T) {
	for _, s := range rightNames() {
		if !impl.NameOk(s) {
			t.Errorf("%q is none", s)
		}
	}
	for _, s := range wrongNames() {
		if impl.NameOk(s) {
			t.Errorf("%q is one", s)
		}
	}
}

func TestNamesOfEveryByte(t *testing.T) {
	for x := range 256 {
		c := string([]byte{byte(x)})
		for _, s := range []string{c, c + "b", "b" + c, "b" + c + "b", strings.Repeat("b", 13) + c, c + strings.Repeat("b", 13), strings.Repeat("b", 14) + c} {
			if impl.NameOk(s) != nameByForm(s) {
				t.Errorf("NameOk of %q", s)
			}
		}
	}
}

func TestNamesOfEveryLength(t *testing.T) {
	for _, c := range []string{"a", "9", "."} {
		for n := range 40 {
			s := strings.Repeat(c, n)
			if impl.NameOk(s) != nameByForm(s) {
				t.Errorf("NameOk of %q", s)
			}
		}
	}
}

func checkSplit(t *testing.T, s string) {
	t.Helper()
	want, right := pathByForm(s)
	l, ok := impl.SplitPath(s)
	if ok != right || right && !slices.Equal(l, want) || !right && len(l) != 0 {
		t.Errorf("SplitPath of %q: %q, %v", s, l, ok)
	}
	if ok && impl.JoinPath(l) != s {
		t.Errorf("%q comes back as %q", s, impl.JoinPath(l))
	}
}

func TestPathsOfEveryShortText(t *testing.T) {
	everyText("/a.A", 8, func(s string) { checkSplit(t, s) })
	everyText("/b_ \xff", 5, func(s string) { checkSplit(t, "/x"+s) })
}

func TestSplitPathOfKnownPaths(t *testing.T) {
	for _, x := range []struct {
		path  string
		names []string
	}{
		{"/", nil}, {"/a", []string{"a"}}, {"/a/b.c/d-1", []string{"a", "b.c", "d-1"}},
		{"/a/a/a", []string{"a", "a", "a"}}, {"/...", []string{"..."}}, {"/fourteenbytesx/0", []string{"fourteenbytesx", "0"}},
	} {
		if l, ok := impl.SplitPath(x.path); !ok || !slices.Equal(l, x.names) {
			t.Errorf("SplitPath of %q: %q, %v", x.path, l, ok)
		}
		if s := impl.JoinPath(x.names); s != x.path {
			t.Errorf("JoinPath of %q: %q", x.names, s)
		}
	}
	if s := impl.JoinPath([]string{}); s != "/" {
		t.Errorf("JoinPath of an empty list: %q", s)
	}
}

func wrongPaths() []string {
	return []string{
		"", "a", "a/", "a/b", " /a", "//", "///", "//a", "/a/", "/a//b", "/a//", "/ ", "/a/b/", "\\a",
		"/.", "/..", "/./a", "/a/.", "/a/..", "/../a", "/A", "/a/B", "/a b", "/a\x00", "/é", "/a/\xff",
		"/fifteenbytesxxx", "/a/fifteenbytesxxx", "/fifteenbytesxxx/a",
		strings.Repeat("/a", 31), strings.Repeat("/a", 32), strings.Repeat("/a", 30) + "/", strings.Repeat("/a", 29) + "/A", strings.Repeat("/a", 5000),
	}
}

func TestSplitPathRefuses(t *testing.T) {
	for _, s := range wrongPaths() {
		if l, ok := impl.SplitPath(s); ok || len(l) != 0 {
			t.Errorf("SplitPath of %q: %q, %v", s, l, ok)
		}
	}
	for _, name := range wrongNames() {
		if name == "" || strings.Contains(name, "/") {
			continue
		}
		for _, s := range []string{"/" + name, "/a/" + name, "/" + name + "/a", "/a/" + name + "/a"} {
			if l, ok := impl.SplitPath(s); ok || len(l) != 0 {
				t.Errorf("SplitPath of %q: %q, %v", s, l, ok)
			}
		}
	}
}

// manyNames are n names, no two alike.
func manyNames(n int) []string {
	l := []string{}
	for i := range n {
		l = append(l, "n"+strconv.Itoa(i))
	}
	return l
}

func TestPathsOfEveryCount(t *testing.T) {
	for n := range 40 {
		l := manyNames(n)
		s := "/" + strings.Join(l, "/")
		if n > 30 {
			if impl.JoinPath(l) != "" {
				t.Errorf("%d names are joined", n)
			}
			if back, ok := impl.SplitPath(s); ok || len(back) != 0 {
				t.Errorf("%d names are split", n)
			}
			continue
		}
		if got := impl.JoinPath(l); got != s {
			t.Errorf("%d names are joined to %q", n, got)
		}
		if back, ok := impl.SplitPath(s); !ok || !slices.Equal(back, l) {
			t.Errorf("%d names are split to %q, %v", n, back, ok)
		}
	}
}

func TestTheLongestPath(t *testing.T) {
	l := slices.Repeat([]string{"fourteenbytesx"}, 30)
	s := strings.Repeat("/fourteenbytesx", 30)
	if impl.JoinPath(l) != s {
		t.Error("the longest path is not joined")
	}
	checkSplit(t, s)
	if dir, name, ok := impl.ParentOf(s); !ok || dir != s[:29*15] || name != "fourteenbytesx" {
		t.Error("its parent", dir, name, ok)
	}
	if !impl.Below(s, s) || !impl.Below("/", s) || impl.Below(s, "/") || impl.Below(s+"/a", s+"/a") {
		t.Error("below")
	}
}

func TestJoinPathRefuses(t *testing.T) {
	for _, name := range wrongNames() {
		for _, l := range [][]string{{name}, {"a", name}, {name, "a"}, {"a", name, "a"}} {
			if s := impl.JoinPath(l); s != "" {
				t.Errorf("JoinPath of %q: %q", l, s)
			}
		}
	}
	l := slices.Repeat([]string{"a"}, 29)
	if s := impl.JoinPath(append(l, ".")); s != "" {
		t.Errorf("the last of 30 is none: %q", s)
	}
	if s := impl.JoinPath(slices.Repeat([]string{"a"}, 5000)); s != "" {
		t.Error("5000 names are joined")
	}
}

func TestNamesComeBackOfTheirPath(t *testing.T) {
	names := rightNames()
	for i := range names {
		for k := range names {
			l := []string{names[i], names[k], names[(i+k)%len(names)]}
			back, ok := impl.SplitPath(impl.JoinPath(l))
			if !ok || !slices.Equal(back, l) {
				t.Fatalf("%q come back as %q, %v", l, back, ok)
			}
		}
	}
}

func TestParents(t *testing.T) {
	for _, x := range []struct{ path, dir, name string }{
		{"/a", "/", "a"}, {"/a/b", "/a", "b"}, {"/a/a", "/a", "a"}, {"/a/b.c/d-1", "/a/b.c", "d-1"}, {"/...", "/", "..."},
		{"/a/...", "/a", "..."}, {"/fourteenbytesx", "/", "fourteenbytesx"}, {strings.Repeat("/a", 29) + "/z", strings.Repeat("/a", 29), "z"},
	} {
		if dir, name, ok := impl.ParentOf(x.path); !ok || dir != x.dir || name != x.name {
			t.Errorf("ParentOf of %q: %q, %q, %v", x.path, dir, name, ok)
		}
	}
	for _, s := range append(wrongPaths(), "/") {
		if dir, name, ok := impl.ParentOf(s); ok || dir != "" || name != "" {
			t.Errorf("ParentOf of %q: %q, %q, %v", s, dir, name, ok)
		}
	}
}

func TestParentsOfEveryShortText(t *testing.T) {
	everyText("/a.A", 7, func(s string) {
		l, right := pathByForm(s)
		wantDir, wantName, want := "", "", right && len(l) > 0
		if want {
			at := strings.LastIndexByte(s, '/')
			wantDir, wantName = s[:max(at, 1)], s[at+1:]
		}
		if dir, name, ok := impl.ParentOf(s); dir != wantDir || name != wantName || ok != want {
			t.Errorf("ParentOf of %q: %q, %q, %v", s, dir, name, ok)
		}
	})
}

func TestBelow(t *testing.T) {
	for _, x := range []struct {
		a, b string
		want bool
	}{
		{"/", "/", true}, {"/", "/a", true}, {"/", "/a/b", true}, {"/a", "/a", true}, {"/a", "/a/b", true}, {"/a", "/a/a", true}, {"/a/b", "/a/b/c/d", true},
		{"/a", "/", false}, {"/a/b", "/a", false}, {"/a", "/ab", false}, {"/ab", "/a", false}, {"/a", "/ab/c", false}, {"/a/b", "/a/bc", false},
		{"/a", "/b", false}, {"/a", "/b/a", false}, {"/a/b", "/a/c", false}, {"/a/b", "/c/b", false}, {"/b/c", "/a/b/c", false}, {"/...", "/....", false},
	} {
		if impl.Below(x.a, x.b) != x.want {
			t.Errorf("Below of %q and %q is %v", x.a, x.b, !x.want)
		}
	}
	for _, s := range wrongPaths() {
		for _, p := range []string{"/", "/a", strings.Repeat("/a", 30)} {
			if impl.Below(s, p) || impl.Below(p, s) {
				t.Errorf("%q and %q are below each other", s, p)
			}
		}
		if impl.Below(s, s) || impl.Below(s, s+"/a") {
			t.Errorf("%q, which is no path, has one below", s)
		}
	}
}

func TestBelowOfEveryTwoShortTexts(t *testing.T) {
	var l []string
	everyText("/ab", 5, func(s string) { l = append(l, s) })
	for _, a := range l {
		above, aRight := pathByForm(a)
		for _, b := range l {
			below, bRight := pathByForm(b)
			want := aRight && bRight && (len(above) == 0 || strings.HasPrefix("/"+strings.Join(below, "/")+"/", a+"/"))
			if impl.Below(a, b) != want {
				t.Fatalf("Below of %q and %q is %v", a, b, !want)
			}
		}
	}
}
