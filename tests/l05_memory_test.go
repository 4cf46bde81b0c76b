package tests

import (
	"bytes"
	"slices"
	"strings"
	"testing"

	"loop.example/g00285/impl"
)

// lookMemoryTab has an inode with lists of each kind, right or not, at /o, and a directory and a file beside it.
func lookMemoryTab() impl.Tab {
	odd := impl.Inode{Ino: 2, Kind: 3, Links: 1, Data: []byte("some bytes"), Ents: entsOf(3), Attrs: append(attrsOf(3), attr("a", "value"))}
	return table(9, withAttrs(dir(1, 0, ent("d", 3), ent("f", 4), ent("o", 2)), attr("a", "root")), odd, withAttrs(dir(3, 1, entsOf(5)...), attrsOf(4)...), file(4, 1, "the bytes of f", attrsOf(4)...))
}

var lookMemoryPaths = []string{"/", "/o", "/d", "/f", "/x", "/f/x", "/o/x", "x"}

func TestLooksReadAndWriteNoSpareRoom(t *testing.T) {
	for i, x := range append(memoryTabs(), lookMemoryTab(), lookTab(), table(9, dir(1, 0)), table(9, file(1, 0, ""))) {
		in, all, held := roomyTab(x)
		kept := toldAll(all, held)
		for _, path := range append(lookMemoryPaths, "/ROOM", "/ea", "/ea/eb", "/d/g") {
			for _, c := range lookCalls() {
				got, code := c.call(in, path)
				if want, wantCode := c.call(x, path); got != want || code != wantCode {
					t.Errorf("table %d: %s of %s reads what lies behind: %q, %d", i, c.name, path, got, code)
				}
			}
			for _, p := range readPlaces {
				got, _ := impl.ReadFile(in, path, p[0], p[1])
				if want, _ := impl.ReadFile(x, path, p[0], p[1]); !bytes.Equal(got, want) {
					t.Errorf("table %d: ReadFile of %s, %v, reads what lies behind: %q", i, path, p, got)
				}
			}
			if val, _ := impl.GetAttr(in, path, "ROOM"); val != "" {
				t.Errorf("table %d: GetAttr of %s reads what lies behind: %q", i, path, val)
			}
			if toldAll(all, held) != kept {
				t.Fatalf("table %d: of %s an argument, or what lies behind it, was written", i, path)
			}
		}
	}
}

// listLooks are the calls that answer what lists of a table may share memory with.
var listLooks = []struct {
	name string
	call func(x impl.Tab, path string) impl.Inode
}{
	{"Stat", func(x impl.Tab, path string) impl.Inode {
		y, _ := impl.Stat(x, path)
		return y
	}},
	{"ReadFile", func(x impl.Tab, path string) impl.Inode {
		b, _ := impl.ReadFile(x, path, 0, 100)
		return impl.Inode{Data: b}
	}},
	{"ReadFile of a part", func(x impl.Tab, path string) impl.Inode {
		b, _ := impl.ReadFile(x, path, 3, 4)
		return impl.Inode{Data: b}
	}},
	{"ReadFile of nothing", func(x impl.Tab, path string) impl.Inode {
		b, _ := impl.ReadFile(x, path, 3, 0)
		return impl.Inode{Data: b}
	}},
}

func TestLooksAnswerNewMemory(t *testing.T) {
	for _, path := range lookMemoryPaths {
		for _, c := range listLooks {
			in, all, held := roomyTab(lookMemoryTab())
			kept := toldAll(all, held)
			first, second := c.call(in, path), c.call(in, path)
			want := told(second)
			overwrite(first)
			if toldAll(all, held) != kept {
				t.Errorf("%s of %s shares memory with its argument", c.name, path)
			}
			if told(second) != want || told(c.call(in, path)) != want {
				t.Errorf("two answers of %s of %s share memory", c.name, path)
			}
			for _, y := range held {
				overwrite(y)
			}
			clear(all)
			if told(second) != want {
				t.Errorf("the answer of %s of %s turns with its argument", c.name, path)
			}
		}
	}
}

func TestListAnswersANewList(t *testing.T) {
	for _, path := range lookMemoryPaths {
		in, all, held := roomyTab(lookMemoryTab())
		kept := toldAll(all, held)
		first, _ := impl.List(in, path)
		second, _ := impl.List(in, path)
		want := slices.Clone(second)
		clear(first[:cap(first)])
		if third, _ := impl.List(in, path); !slices.Equal(second, want) || !slices.Equal(third, want) {
			t.Errorf("two answers of List of %s share memory", path)
		}
		if toldAll(all, held) != kept {
			t.Errorf("List of %s shares memory with its argument", path)
		}
	}
}

func TestListsOfOneStatShareNone(t *testing.T) {
	x := lookMemoryTab()
	for _, path := range lookMemoryPaths {
		for _, l := range listsOf {
			y, _ := impl.Stat(x, path)
			kept := y
			l.leave(&y)
			want := told(y)
			l.wipe(kept)
			if told(y) != want {
				t.Errorf("Stat of %s: the %s share memory with another list", path, l.name)
			}
		}
	}
}

// TestWhatLiesBehindIsNotHandedOut: the spare room of what is read has none of the file's other bytes.
func TestWhatLiesBehindIsNotHandedOut(t *testing.T) {
	in, _, _ := roomyTab(table(9, dir(1, 0, ent("f", 2)), file(2, 1, strings.Repeat("x", 60))))
	for off := range 62 {
		for n := range 62 {
			b, _ := impl.ReadFile(in, "/f", off, n)
			if behind := b[len(b):cap(b)]; bytes.ContainsAny(behind, "x\xa5") {
				t.Fatalf("from %d on, at most %d: %q lies behind", off, n, behind)
			}
		}
	}
}

func TestTextsOfLooksAreNewMemory(t *testing.T) {
	kept := strings.Clone("name.of-one_ae value of one")
	path := strings.Clone("/name.of-one_ae")
	name := strings.Clone("name")
	held := impl.Inode{Ino: 3, Kind: 3, Links: 1, Ents: []impl.Ent{ent(kept[:14], 5), ent(kept[:4], 5)}, Attrs: []impl.Attr{attr(kept[:4], kept[15:]), attr(kept[5:7], kept[8:])}}
	x := table(9, withAttrs(dir(1, 0, ent(kept[:14], 3)), attr(kept[:4], kept[15:20])), held)
	for _, p := range []string{"/", path} {
		y, code := impl.Stat(x, p)
		l, codeToo := impl.List(x, p)
		val, codeThree := impl.GetAttr(x, p, name)
		if code != impl.FsGood || codeToo != impl.FsGood || codeThree != impl.FsGood {
			t.Fatal("the codes", code, codeToo, codeThree)
		}
		for _, s := range append(append(textsOf([]impl.Inode{y}), l...), val) {
			if share(s, kept) || share(s, path) || share(s, name) {
				t.Errorf("of %s the text %q shares memory with an argument", p, s)
			}
		}
	}
}

func TestLooksKeepNothing(t *testing.T) {
	x, other := lookTab(), table(9, dir(1, 0, ent("f", 2)), file(2, 1, "other", attr("a", "other")))
	for range 3 {
		for _, c := range lookCalls() {
			refusedLook(t, c, x, "/x", impl.FsNone)
			refusedLook(t, c, x, "/f/x", impl.FsKind)
			refusedLook(t, c, x, "x", impl.FsForm)
			c.call(other, "/f")
			c.call(other, "/")
		}
		if ino, code := impl.Walk(x, "/f"); ino != 3 || code != impl.FsGood {
			t.Error("Walk hangs on the calls ahead", ino, code)
		}
		if b, code := impl.ReadFile(x, "/f", 1, 3); string(b) != "ell" || code != impl.FsGood {
			t.Errorf("ReadFile hangs on the calls ahead: %q, %d", b, code)
		}
		if l, code := impl.List(x, "/d"); !slices.Equal(l, []string{"g", "h"}) || code != impl.FsGood {
			t.Errorf("List hangs on the calls ahead: %q, %d", l, code)
		}
		if val, code := impl.GetAttr(x, "/f", "a"); val != "v" || code != impl.FsGood {
			t.Errorf("GetAttr hangs on the calls ahead: %q, %d", val, code)
		}
	}
}
