package tests

import (
	"bytes"
	"slices"
	"strings"
	"testing"

	"loop.example/g00285/impl"
)

// changeMemoryTabs are trees whose inodes hold lists of each kind, and some that are none.
func changeMemoryTabs() []impl.Tab {
	l := append(memoryTabs(), rightTrees()...)
	for i, x := range wrongTrees() {
		if i%10 == 0 {
			l = append(l, x)
		}
	}
	return l
}

func TestChangesReadAndWriteNoSpareRoom(t *testing.T) {
	for i, x := range changeMemoryTabs() {
		in, all, held := roomyTab(x)
		kept := toldAll(all, held)
		for _, a := range append(someCalls(), askAttr("/", "ROOM", "v"), askWrite("/f", 9, "x"), askCut("/f", 100), askWrite("/f", 100, "")) {
			got, code := a.of(in)
			if want, wantCode := a.of(x); toldTab(got) != toldTab(want) || code != wantCode {
				t.Errorf("table %d: %s reads what lies behind: %d, %s", i, a, code, toldTab(got))
			}
			if toldAll(all, held) != kept {
				t.Fatalf("table %d: %s: the argument, or what lies behind it, was written", i, a)
			}
		}
	}
}

func TestChangesAnswerNewMemory(t *testing.T) {
	for i, x := range []impl.Tab{lookTab(), lookMemoryTab(), fullTab(10), impl.TabNew(), table(9, rootAnd(3, 5)...)} {
		for _, a := range someCalls() {
			in, all, held := roomyTab(x)
			kept := toldAll(all, held)
			first, _ := a.of(in)
			second, _ := a.of(in)
			want := toldTab(second)
			overwriteTab(first)
			if toldAll(all, held) != kept {
				t.Errorf("table %d: %s: the answer shares memory with the argument", i, a)
			}
			third, _ := a.of(in)
			if toldTab(second) != want || toldTab(third) != want {
				t.Errorf("table %d: %s: two answers share memory", i, a)
			}
			for _, y := range held {
				overwrite(y)
			}
			clear(all)
			if toldTab(second) != want {
				t.Errorf("table %d: %s: the answer turns with the argument", i, a)
			}
		}
	}
}

func TestTheBytesThatAreWrittenAreCopied(t *testing.T) {
	for _, off := range []int{0, 2, 5, 9} {
		for _, path := range []string{"/f", "/z", "/d", "/x"} {
			whole := bytes.Repeat([]byte{0xa5}, 50)
			data := append(whole[:0], "some bytes"...)
			kept := string(whole)
			y, _ := impl.WriteAt(lookTab(), path, off, data)
			want := toldTab(y)
			if string(whole) != kept {
				t.Errorf("%s, %d: the bytes that are handed in, or what lies behind them, were written", path, off)
			}
			clear(whole)
			if toldTab(y) != want {
				t.Errorf("%s, %d: the answer turns with the bytes that were handed in", path, off)
			}
			for i := range whole {
				whole[i] = 0xa5
			}
			overwriteTab(y)
			if !untouched(whole) {
				t.Errorf("%s, %d: the answer shares memory with the bytes that are handed in", path, off)
			}
		}
	}
}

// TestAFileWrittenWithItsOwnBytes: what is handed in twice is read as it was.
func TestAFileWrittenWithItsOwnBytes(t *testing.T) {
	for _, k := range []struct {
		off, from, to int
		want          string
	}{{0, 0, 5, "hello"}, {1, 0, 5, "hhello"}, {0, 1, 5, "elloo"}, {2, 0, 2, "heheo"}, {5, 0, 5, "hellohello"}, {7, 3, 5, "hello\x00\x00lo"}} {
		x := lookTab()
		y, code := impl.WriteAt(x, "/f", k.off, x.Inodes[2].Data[k.from:k.to])
		if code != impl.FsGood || string(y.Inodes[2].Data) != k.want || string(x.Inodes[2].Data) != "hello" {
			t.Errorf("%v: %q, %d, and the argument %q", k, y.Inodes[2].Data, code, x.Inodes[2].Data)
		}
	}
}

// sharingTab is a tree all of whose lists lie in the same memory, as far as they can.
func sharingTab() impl.Tab {
	attrs, data := attrsOf(4), []byte("some bytes that all files have")
	x := lookTab()
	for i := range x.Inodes {
		x.Inodes[i].Attrs = attrs[:i%5]
		if x.Inodes[i].Kind == impl.InFile {
			x.Inodes[i].Data = data
		}
	}
	return x
}

func TestListsOfOneChangedTableShareNone(t *testing.T) {
	if !impl.TreeOk(sharingTab()) {
		t.Fatal("the table is no tree")
	}
	for _, a := range someCalls() {
		y, _ := a.of(sharingTab())
		for place := range y.Inodes {
			for _, l := range listsOf {
				got, _ := a.of(sharingTab())
				kept := got.Inodes[place]
				l.leave(&got.Inodes[place])
				want := toldTab(got)
				l.wipe(kept)
				if toldTab(got) != want {
					t.Errorf("%s: the %s of the inode at %d share memory with another list", a, l.name, place)
				}
			}
		}
	}
}

// TestCutBytesAreNotHandedOut: the spare room of a shorter file has none of what was cut away.
func TestCutBytesAreNotHandedOut(t *testing.T) {
	in, _, _ := roomyTab(table(3, dir(1, 0, ent("f", 2)), file(2, 1, strings.Repeat("x", 60))))
	for n := range 101 {
		y, _ := impl.Truncate(in, "/f", n)
		if b := y.Inodes[1].Data; bytes.ContainsAny(b[len(b):cap(b)], "x\xa5") {
			t.Errorf("cut to %d: %q lies behind", n, b[len(b):cap(b)])
		}
		if b := y.Inodes[1].Data; n > 60 && !bytes.Equal(b[60:], make([]byte, n-60)) {
			t.Errorf("made %d long: %q is new", n, b[60:])
		}
	}
	short, _ := impl.Unlink(fullTab(10), "/d/nc")
	if l := short.Inodes[1].Ents; slices.ContainsFunc(l[len(l):cap(l)], func(e impl.Ent) bool { return e != impl.Ent{} }) {
		t.Errorf("behind what is left of a directory lies %v", l[:cap(l)])
	}
	bare, _ := impl.SetAttr(lookTab(), "/f", "a", "")
	if l := bare.Inodes[2].Attrs; slices.ContainsFunc(l[len(l):cap(l)], func(a impl.Attr) bool { return a != impl.Attr{} }) {
		t.Errorf("behind what is left of the attributes lies %v", l[:cap(l)])
	}
}

func TestTextsOfChangesAreNewMemory(t *testing.T) {
	kept := strings.Clone("name.of-one_ae value of one")
	x := table(9, withAttrs(dir(1, 0, ent(kept[:4], 2), ent(kept[:7], 3), ent(kept[:14], 4)), attr(kept[:4], kept[15:])), dir(2, 1), file(3, 1, "x"), file(4, 1, "", attr(kept[8:11], kept[15:20])))
	if !impl.TreeOk(x) {
		t.Fatal("the table is no tree")
	}
	texts := []string{strings.Clone("/new"), strings.Clone("/name"), strings.Clone("/name.of"), strings.Clone("/name/other"), strings.Clone("name"), strings.Clone("value"), strings.Clone("/"), strings.Clone("/none/x")}
	for _, path := range texts {
		for _, to := range texts {
			for _, a := range append(allCalls(path, to), askAttr(path, texts[4], texts[5]), askAttr(path, texts[4], ""), askAttr(path, texts[5], texts[5])) {
				y, _ := a.of(x)
				for _, s := range textsOf(y.Inodes) {
					if share(s, kept) || slices.ContainsFunc(texts, func(arg string) bool { return share(s, arg) }) {
						t.Errorf("%s: the text %q shares memory with an argument", a, s)
					}
				}
			}
		}
	}
}

func TestChangesKeepNothing(t *testing.T) {
	x, other := lookTab(), fullTab(10)
	wants := map[asked]string{}
	for range 3 {
		for _, a := range someCalls() {
			y, code := a.of(x)
			s := toldTab(y) + " code " + string(rune('0'+code))
			if want, was := wants[a]; was && s != want {
				t.Errorf("%s hangs on the calls ahead: %s, not %s", a, s, want)
			}
			wants[a] = s
			a.of(other)
			a.of(impl.Tab{})
		}
	}
}
