package tests

import (
	"fmt"
	"slices"
	"strings"
	"testing"

	"loop.example/g00285/impl"
)

// memoryMounts are logs with images that lead to pages of others, some that can't be loaded, some that are no logs, and what memoryLogs are.
func memoryMounts(t *testing.T) []impl.Log {
	t.Helper()
	l := memoryLogs()
	for _, k := range savedImages(t) {
		l = append(l, k.l, logOf(off(k.l.D), 0), withFaults(k.l, bad(0), torn(3, 9)), withPage(k.l, k.m.Root, "torn"), withPage(k.l, k.m.At, ""))
	}
	for _, two := range failingSaves() {
		e, n := startOf(t, 6, two[0])
		half, _, _ := impl.Save(withFaults(e, torn(1, 20)), n, two[1], -1, 1)
		l = append(l, half)
	}
	e, _ := savedOn(t, 6, sharingFs())
	return append(l, e, impl.Log{}, rootsOf(3, 3, 4), logOf(dev(chip(slices.Repeat(e.D.C.Blocks, 9)...), -1), -1))
}

// toldMount tells all that is asked of a log here.
func toldMount(l impl.Log) string {
	s := &strings.Builder{}
	e, m := impl.Mount(l)
	roots := impl.RootsOf(l)
	fmt.Fprint(s, toldLog(e), toldImage(m), roots)
	for _, addr := range append(roots, -1, 0, 5) {
		n, ok := impl.LoadAt(l, addr)
		fmt.Fprint(s, toldImage(n), ok)
	}
	return s.String()
}

func TestMountsReadAndWriteNoSpareRoom(t *testing.T) {
	for i, l := range memoryMounts(t) {
		r := roomOfLog(l)
		kept := r.told()
		if toldMount(r.in) != toldMount(l) {
			t.Errorf("log %d: what lies behind its lists counts", i)
		}
		if r.told() != kept {
			t.Fatalf("log %d: it, or what lies behind its lists, was written", i)
		}
	}
}

func TestMountAnswersNewMemory(t *testing.T) {
	for i, l := range memoryMounts(t) {
		r := roomOfLog(l)
		kept, want := r.told(), toldMount(l)
		firstLog, first := impl.Mount(r.in)
		secondLog, second := impl.Mount(r.in)
		wantLog, wantImage := clonedLog(secondLog), toldImage(second)
		overwriteDev(firstLog.D)
		overwriteImage(first)
		if r.told() != kept || toldMount(r.in) != want {
			t.Errorf("log %d: the answer shares memory with the argument", i)
		}
		if !sameLog(secondLog, wantLog) || toldImage(second) != wantImage {
			t.Errorf("log %d: two answers share memory", i)
		}
		r.overwrite()
		if !sameLog(secondLog, wantLog) || toldImage(second) != wantImage {
			t.Errorf("log %d: the answer turns with the argument", i)
		}
	}
}

func TestLoadAtAndRootsOfAnswerNewMemory(t *testing.T) {
	loaded := 0
	for i, l := range memoryMounts(t) {
		r := roomOfLog(l)
		kept, want := r.told(), toldMount(l)
		roots, again := impl.RootsOf(r.in), impl.RootsOf(r.in)
		for _, addr := range roots {
			first, ok := impl.LoadAt(r.in, addr)
			second, _ := impl.LoadAt(r.in, addr)
			wantImage := toldImage(second)
			overwriteImage(first)
			if r.told() != kept || toldMount(r.in) != want || toldImage(second) != wantImage {
				t.Errorf("log %d: what is loaded at %d shares memory with the log, or with another answer", i, addr)
			}
			other := roomOfLog(l)
			third, _ := impl.LoadAt(other.in, addr)
			other.overwrite()
			if toldImage(third) != wantImage {
				t.Errorf("log %d: what was loaded at %d turns with the log", i, addr)
			}
			if ok {
				loaded++
			}
		}
		told := fmt.Sprint(again)
		for at := range roots[:cap(roots)] {
			roots[:cap(roots)][at] = -7
		}
		if r.told() != kept || toldMount(r.in) != want || fmt.Sprint(again) != told {
			t.Errorf("log %d: the roots share memory", i)
		}
		r.overwrite()
		if fmt.Sprint(again) != told {
			t.Errorf("log %d: the roots turn with the log", i)
		}
	}
	if loaded == 0 {
		t.Error("nothing was loaded")
	}
}

// shareNone asks that no two lists of an answer share memory, and none of its lists and texts any with the argument.
func shareNone(t *testing.T, of string, argument any, answers ...any) {
	t.Helper()
	all := spansOfAll("answer", answers...)
	lists := slices.DeleteFunc(slices.Clone(all), func(s span) bool { return s.text })
	slices.SortFunc(lists, func(a, b span) int { return int(a.from) - int(b.from) })
	for at := range lists[:max(len(lists)-1, 0)] {
		if lists[at].to > lists[at+1].from {
			t.Errorf("%s: %s and %s share memory", of, lists[at].of, lists[at+1].of)
		}
	}
	taken := spansOfAll("argument", argument)
	for _, a := range all {
		for _, b := range taken {
			if a.from < b.to && b.from < a.to {
				t.Fatalf("%s: %s shares memory with %s", of, a.of, b.of)
			}
		}
	}
}

// TestListsOfAMountShareNone: one record may be of several volumes, and is its own in each of them.
func TestListsOfAMountShareNone(t *testing.T) {
	for i, l := range memoryMounts(t) {
		r := roomOfLog(l)
		e, m := impl.Mount(r.in)
		shareNone(t, fmt.Sprint("log ", i, ", mounted"), r.in, e, m)
		roots := impl.RootsOf(r.in)
		shareNone(t, fmt.Sprint("log ", i, ", its roots"), r.in, roots)
		for _, addr := range append(roots, -1) {
			n, _ := impl.LoadAt(r.in, addr)
			shareNone(t, fmt.Sprint("log ", i, ", loaded at ", addr), r.in, n)
		}
	}
}

// TestTheSpareRoomOfAMountIsItsOwn: what is put behind a list of an answer is not to be seen in another one.
func TestTheSpareRoomOfAMountIsItsOwn(t *testing.T) {
	for i, l := range memoryMounts(t) {
		e, n := impl.Mount(l)
		want, wantLog := toldImage(n), clonedLog(e)
		_ = append(n.T.Rows, row(98, "behind", true, 99, 9))
		_ = append(n.Maps, mapOf(77, place(7, 7)))
		_ = append(n.F.Vols, vol(98, "behind", true, 99, impl.Tab{}))
		for at, x := range n.Maps {
			_ = append(x.Places, place(999, 99))
			_ = append(n.F.Vols[at].T.Inodes, file(999, 9, "behind"))
			for _, y := range n.F.Vols[at].T.Inodes {
				_ = append(y.Data, "behind"...)
				_ = append(y.Ents, ent("behind", 999))
				_ = append(y.Attrs, attr("behind", "behind"))
			}
		}
		for _, b := range e.D.C.Blocks {
			_ = append(b.Pages, impl.Page{Used: true, B: []byte("behind")})
			for _, p := range b.Pages {
				_ = append(p.B, "behind"...)
			}
		}
		_ = append(e.D.C.Blocks, block(9, true, "behind"))
		_ = append(e.D.Faults, torn(99, 9))
		if toldImage(n) != want || !sameLog(e, wantLog) {
			t.Errorf("log %d: what is put behind one list is in another", i)
		}
	}
}

// TestVolumesOfAMountGoOnByThemselves: those of one map have a tree each.
func TestVolumesOfAMountGoOnByThemselves(t *testing.T) {
	l, _ := savedOn(t, 6, sharingFs())
	_, m := impl.Mount(l)
	for i := range m.F.Vols {
		wants := []string{}
		for _, v := range m.F.Vols {
			wants = append(wants, toldFs(system(99, v)))
		}
		tree := m.F.Vols[i].T
		for at := range tree.Inodes {
			clear(tree.Inodes[at].Data)
			clear(tree.Inodes[at].Ents)
			clear(tree.Inodes[at].Attrs)
		}
		clear(tree.Inodes)
		clear(m.Maps[i].Places)
		for at, v := range m.F.Vols {
			if at != i && toldFs(system(99, v)) != wants[at] {
				t.Errorf("the volume at %d turns with the one at %d", at, i)
			}
		}
	}
}

// TestNothingIsMountedTwiceInOneMemory: the new image, too, is one of its own.
func TestNothingIsMountedTwiceInOneMemory(t *testing.T) {
	for _, l := range []impl.Log{{}, newLog(3), rootsOf()} {
		_, first := impl.Mount(l)
		second, _ := impl.LoadAt(l, 0)
		first.T.Rows, first.Maps, first.F.Vols = append(first.T.Rows, row(1, "a", false, 32, 0)), append(first.Maps, mapOf(2)), append(first.F.Vols, vol(1, "a", false, 32, impl.TabNew()))
		overwriteImage(first)
		_, third := impl.Mount(l)
		if !sameImage(second, newImage()) || !sameImage(third, newImage()) || !sameImage(impl.ImageNew(), newImage()) {
			t.Error("two new images share memory")
		}
	}
}
