package tests

import (
	"slices"
	"strings"
	"testing"

	"loop.example/g00285/impl"
)

func TestTreesReadAndWriteNoSpareRoom(t *testing.T) {
	for i, x := range slices.Concat(rightTrees(), wrongTrees(), memoryTabs(), oddTabs()) {
		in, all, held := roomyTab(x)
		kept := toldAll(all, held)
		if impl.TreeOk(in) != impl.TreeOk(x) || !slices.Equal(impl.Reached(in), impl.Reached(x)) || impl.LinksOf(in, 3) != impl.LinksOf(x, 3) || impl.LinksOf(in, -1) != impl.LinksOf(x, -1) {
			t.Errorf("table %d: what lies behind its lists counts", i)
		}
		if impl.UsageOf(in) != impl.UsageOf(x) || !slices.Equal(impl.PathsOf(in), impl.PathsOf(x)) {
			t.Errorf("table %d: what lies behind its lists is used, or has a path", i)
		}
		if toldAll(all, held) != kept {
			t.Fatalf("table %d: an argument, or what lies behind it, was written", i)
		}
	}
}

// checkNewLists asks twice for a list, and writes over one of them, spare room and all, and over the table that was handed in.
func checkNewLists[T comparable](t *testing.T, x impl.Tab, call func(impl.Tab) []T) {
	t.Helper()
	in, all, held := roomyTab(x)
	kept := toldAll(all, held)
	first, second := call(in), call(in)
	want := slices.Clone(second)
	clear(first[:cap(first)])
	if !slices.Equal(second, want) || !slices.Equal(call(in), want) {
		t.Errorf("two answers share memory, of %s", toldTab(x))
	}
	if toldAll(all, held) != kept {
		t.Errorf("the answer shares memory with its argument %s", toldTab(x))
	}
	for _, y := range held {
		overwrite(y)
	}
	clear(all)
	if !slices.Equal(second, want) {
		t.Errorf("the answer turns with its argument %s", toldTab(x))
	}
}

func TestTreesAnswerNewLists(t *testing.T) {
	for _, x := range slices.Concat(rightTrees(), oddTabs()) {
		checkNewLists(t, x, impl.Reached)
		checkNewLists(t, x, impl.PathsOf)
	}
}

func TestTextsOfPathsAreNewMemory(t *testing.T) {
	kept := strings.Clone("name.of-one_aename.of")
	x := table(9, dir(1, 0, ent(kept[:4], 2), ent(kept[:7], 3), ent(kept[:14], 3)), dir(2, 1, ent(kept[:4], 4), ent(kept[5:7], 3)), file(3, 3, ""), file(4, 1, ""))
	l := impl.PathsOf(x)
	if len(l) != 5 {
		t.Fatalf("the paths are %q", l)
	}
	for i, path := range l {
		if share(path, kept) {
			t.Errorf("%s shares memory with the names of its argument", path)
		}
		for _, other := range l[i+1:] {
			if share(path, other) {
				t.Errorf("%s shares memory with %s", path, other)
			}
		}
	}
}

func TestTreesKeepNothing(t *testing.T) {
	x, other := lookTab(), fullTab(10)
	paths, reached, usage, links := impl.PathsOf(x), impl.Reached(x), impl.UsageOf(x), impl.LinksOf(x, 3)
	for range 3 {
		for _, y := range append(oddTabs(), other, impl.Tab{}) {
			impl.PathsOf(y)
			impl.Reached(y)
			impl.UsageOf(y)
			impl.LinksOf(y, 3)
			impl.TreeOk(y)
		}
		if !slices.Equal(impl.PathsOf(x), paths) || !slices.Equal(impl.Reached(x), reached) || impl.UsageOf(x) != usage || impl.LinksOf(x, 3) != links || !impl.TreeOk(x) {
			t.Error("an answer hangs on the calls ahead")
		}
	}
}
