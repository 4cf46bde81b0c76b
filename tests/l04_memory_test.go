package tests

import (
	"slices"
	"strings"
	"testing"

	"loop.example/g00285/impl"
)

// roomyTab answers x with all its lists within longer ones, and all of that memory: the longer list of inodes, and of each what its lists lie in.
func roomyTab(x impl.Tab) (impl.Tab, []impl.Inode, []impl.Inode) {
	all, held := []impl.Inode{}, []impl.Inode{}
	for _, y := range x.Inodes {
		in, whole := roomyInode(y)
		all, held = append(all, in), append(held, whole)
	}
	for i := range 5 {
		all = append(all, file(2+i, 1, "ROOM"))
	}
	return impl.Tab{Inodes: all[:len(x.Inodes)], Next: x.Next}, all, held
}

func toldAll(all, held []impl.Inode) string {
	return toldTab(impl.Tab{Inodes: all}) + "\n" + toldTab(impl.Tab{Inodes: held})
}

func overwriteTab(x impl.Tab) {
	for _, y := range x.Inodes {
		overwrite(y)
	}
	clear(x.Inodes[:cap(x.Inodes)])
}

// tabCall is a call that answers a table; InodeAt's answer as one of a single inode.
type tabCall struct {
	name string
	call func(x impl.Tab, set impl.Inode, ino int) impl.Tab
}

func tabCalls() []tabCall {
	return []tabCall{
		{"SetInode", func(x impl.Tab, set impl.Inode, _ int) impl.Tab { return impl.SetInode(x, set) }},
		{"DropInode", func(x impl.Tab, _ impl.Inode, ino int) impl.Tab { return impl.DropInode(x, ino) }},
		{"InodeAt", func(x impl.Tab, _ impl.Inode, ino int) impl.Tab {
			found, _ := impl.InodeAt(x, ino)
			return impl.Tab{Inodes: []impl.Inode{found}}
		}},
	}
}

// memoryTabs are tables whose inodes hold lists of each kind, some of them not right.
func memoryTabs() []impl.Tab {
	both := func(ino int) impl.Inode {
		return impl.Inode{Ino: ino, Kind: impl.InFile, Links: 1, Data: []byte("some bytes"), Ents: entsOf(3), Attrs: attrsOf(3)}
	}
	return append(rightTabs(), impl.Tab{}, table(9, both(1), both(3), both(5)), table(9, both(5), both(3), both(5), both(1)), table(9, both(3), dir(3, 1), both(3)))
}

// memoryNumbers: ahead of all, in the place of another, between two, at the end.
var memoryNumbers = []int{0, 1, 2, 3, 4, 5, 999, 1000}

func TestTableCallsReadAndWriteNoSpareRoom(t *testing.T) {
	for i, x := range append(memoryTabs(), wrongTabs()...) {
		in, all, held := roomyTab(x)
		kept := toldAll(all, held)
		if impl.TabOk(in) != impl.TabOk(x) || !impl.SameTab(in, x) || !impl.SameTab(x, in) {
			t.Errorf("table %d: what lies behind its lists counts", i)
		}
		for _, ino := range memoryNumbers {
			set, whole := roomyInode(withAttrs(dir(ino, 1, entsOf(3)...), attrsOf(2)...))
			keptSet := told(set) + told(whole)
			for _, c := range tabCalls() {
				if toldTab(c.call(in, set, ino)) != toldTab(c.call(x, set, ino)) {
					t.Errorf("table %d: %s of %d reads what lies behind", i, c.name, ino)
				}
			}
			if toldAll(all, held) != kept || told(set)+told(whole) != keptSet {
				t.Fatalf("table %d, %d: an argument, or what lies behind it, was written", i, ino)
			}
		}
	}
}

func TestTablesAreNewMemory(t *testing.T) {
	for i, x := range memoryTabs() {
		for _, ino := range memoryNumbers {
			for _, c := range tabCalls() {
				in, all, held := roomyTab(x)
				set, whole := roomyInode(withAttrs(dir(ino, 1, entsOf(3)...), attrsOf(2)...))
				kept, keptSet := toldAll(all, held), told(set)+told(whole)
				first, second := c.call(in, set, ino), c.call(in, set, ino)
				want := toldTab(second)
				overwriteTab(first)
				if toldAll(all, held) != kept || told(set)+told(whole) != keptSet {
					t.Errorf("table %d: %s of %d shares memory with an argument", i, c.name, ino)
				}
				if toldTab(second) != want || toldTab(c.call(in, set, ino)) != want {
					t.Errorf("table %d: two answers of %s of %d share memory", i, c.name, ino)
				}
				overwrite(whole)
				for _, y := range held {
					overwrite(y)
				}
				clear(all)
				if toldTab(second) != want {
					t.Errorf("table %d: the answer of %s of %d turns with an argument", i, c.name, ino)
				}
			}
		}
	}
}

// listsOf are a table's inodes' lists, each with what writes over it, spare room and all, and what leaves it out.
var listsOf = []struct {
	name  string
	wipe  func(x impl.Inode)
	leave func(x *impl.Inode)
}{
	{"bytes", func(x impl.Inode) { clear(x.Data[:cap(x.Data)]) }, func(x *impl.Inode) { x.Data = nil }},
	{"entries", func(x impl.Inode) { clear(x.Ents[:cap(x.Ents)]) }, func(x *impl.Inode) { x.Ents = nil }},
	{"attributes", func(x impl.Inode) { clear(x.Attrs[:cap(x.Attrs)]) }, func(x *impl.Inode) { x.Attrs = nil }},
}

// TestListsOfOneTableShareNone writes over each list of an answer: the others must stay, though those that are handed in share all they have.
func TestListsOfOneTableShareNone(t *testing.T) {
	one := impl.Inode{Kind: impl.InDir, Links: 1, Data: []byte("some bytes"), Ents: entsOf(3), Attrs: attrsOf(3)}
	x, set := table(9, one, one, one, one), one
	for i, ino := range []int{1, 3, 5, 3} {
		x.Inodes[i].Ino = ino
	}
	for _, ino := range memoryNumbers {
		set.Ino = ino
		for _, c := range tabCalls() {
			for place := range c.call(x, set, ino).Inodes {
				for _, l := range listsOf {
					got := c.call(x, set, ino)
					kept := got.Inodes[place]
					l.leave(&got.Inodes[place])
					want := toldTab(got)
					l.wipe(kept)
					if toldTab(got) != want {
						t.Errorf("%s of %d: the %s of the inode at %d share memory with another list", c.name, ino, l.name, place)
					}
				}
			}
		}
	}
}

// textsOf are all texts that a table holds.
func textsOf(l []impl.Inode) []string {
	texts := []string{}
	for _, x := range l {
		for _, e := range x.Ents {
			texts = append(texts, e.Name)
		}
		for _, a := range x.Attrs {
			texts = append(texts, a.Name, a.Val)
		}
	}
	return texts
}

func TestTextsOfTablesAreNewMemory(t *testing.T) {
	kept := strings.Clone("name.of-one_ae value of one")
	held := withAttrs(dir(3, 1, ent(kept[:14], 5)), attr(kept[:4], kept[15:]))
	x := table(9, withAttrs(dir(1, 0, ent(kept[:7], 3)), attr(kept[8:14], kept[15:20])), held)
	for _, c := range tabCalls() {
		for _, ino := range []int{1, 3, 4} {
			set := held
			set.Ino = ino
			for _, s := range textsOf(c.call(x, set, ino).Inodes) {
				if share(s, kept) {
					t.Errorf("%s of %d: the text %q shares memory with an argument", c.name, ino, s)
				}
			}
		}
	}
}

func TestTheNewTableIsNewMemory(t *testing.T) {
	first, second := impl.TabNew(), impl.TabNew()
	overwriteTab(first)
	if want := toldTab(table(2, dir(1, 0))); toldTab(second) != want || toldTab(impl.TabNew()) != want {
		t.Error("two new tables share memory")
	}
}

func TestTablesKeepNothing(t *testing.T) {
	x := table(9, rootAnd(3, 5)...)
	for range 3 {
		impl.SetInode(x, file(3, 2, "other"))
		impl.SetInode(x, file(4, 1, "new"))
		impl.DropInode(x, 5)
		impl.TabOk(impl.Tab{})
		refusedInodeAt(t, x, 4)
		if found, ok := impl.InodeAt(x, 5); !ok || told(found) != told(x.Inodes[2]) {
			t.Error("InodeAt hangs on the calls ahead", told(found), ok)
		}
		if !impl.TabOk(x) || !slices.Equal(numbersOf(impl.SetInode(x, file(2, 1, ""))), []int{1, 2, 3, 5}) {
			t.Error("SetInode or TabOk hangs on the calls ahead")
		}
	}
}
