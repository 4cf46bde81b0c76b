package tests

import (
	"slices"
	"strings"
	"testing"
	"unsafe"

	"loop.example/g00285/impl"
)

// share says whether two texts lie in the same memory; only the address can tell, as texts are never written.
func share(a, b string) bool {
	if a == "" || b == "" {
		return false
	}
	at := func(s string) uintptr { return uintptr(unsafe.Pointer(unsafe.StringData(s))) }
	return at(a) < at(b)+uintptr(len(b)) && at(b) < at(a)+uintptr(len(a))
}

func TestPathsAreNewMemory(t *testing.T) {
	for _, path := range []string{"/", "/a", "/a/b", "/fourteenbytesx", strings.Repeat("/fourteenbytesx", 30)} {
		s := strings.Clone(path)
		l, _ := impl.SplitPath(s)
		dir, name, _ := impl.ParentOf(s)
		for _, x := range append(slices.Clone(l), dir, name) {
			if share(x, s) {
				t.Errorf("%q shares memory with the path %q", x, path)
			}
		}
	}
}

func TestJoinPathIsNewMemory(t *testing.T) {
	for _, names := range [][]string{{"a"}, {"a", "b"}, {"fourteenbytesx"}, manyNames(30)} {
		l := []string{}
		for _, name := range names {
			l = append(l, strings.Clone(name))
		}
		path := impl.JoinPath(l)
		for _, name := range l {
			if share(path, name) {
				t.Errorf("%q shares memory with its name %q", path, name)
			}
		}
	}
}

func TestSplitPathAnswersANewList(t *testing.T) {
	for _, path := range []string{"/", "/a", "/a/b/c"} {
		first, _ := impl.SplitPath(path)
		second, _ := impl.SplitPath(path)
		kept := slices.Clone(second)
		all := first[:cap(first)]
		for i := range all {
			all[i] = "written"
		}
		if !slices.Equal(second, kept) {
			t.Errorf("two answers of %q share memory", path)
		}
		if third, ok := impl.SplitPath(path); !ok || !slices.Equal(third, kept) {
			t.Errorf("an answer that is written turns the next: %q", third)
		}
	}
}

func TestJoinPathReadsAndWritesNoSpareRoom(t *testing.T) {
	whole := []string{"a", "b", "NONE", "", "c"}
	kept := slices.Clone(whole)
	for n, want := range []string{"/", "/a", "/a/b", "", "", ""} {
		if s := impl.JoinPath(whole[:n]); s != want {
			t.Errorf("JoinPath of %d: %q", n, s)
		}
		if !slices.Equal(whole, kept) {
			t.Fatalf("JoinPath of %d wrote: %q", n, whole)
		}
	}
	many := slices.Repeat([]string{"a"}, 40)
	if s := impl.JoinPath(many[:30]); s != strings.Repeat("/a", 30) {
		t.Errorf("what lies behind the length counts: %q", s)
	}
}

func TestPathsKeepNothing(t *testing.T) {
	for range 3 {
		impl.SplitPath("/a/b/C")
		impl.JoinPath([]string{"a", ""})
		impl.ParentOf("/")
		impl.Below("/a", "")
		if l, ok := impl.SplitPath("/x/y"); !ok || !slices.Equal(l, []string{"x", "y"}) {
			t.Error("SplitPath hangs on the calls ahead", l, ok)
		}
		if dir, name, ok := impl.ParentOf("/x/y"); !ok || dir != "/x" || name != "y" {
			t.Error("ParentOf hangs on the calls ahead", dir, name, ok)
		}
		if impl.JoinPath([]string{"x"}) != "/x" || !impl.Below("/x", "/x/y") {
			t.Error("JoinPath or Below hangs on the calls ahead")
		}
	}
}
