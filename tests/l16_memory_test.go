package tests

import (
	"fmt"
	"reflect"
	"slices"
	"strings"
	"testing"
	"unsafe"

	"loop.example/g00285/impl"
)

// roomyImage is an image all of whose lists lie within longer ones, and all of that memory.
type roomyImage struct {
	roomyFs
	in     impl.Image
	rows   []impl.Row
	maps   []impl.Map
	places [][]impl.Place
}

func roomOfImage(m impl.Image) roomyImage {
	r := roomyImage{roomyFs: roomy(m.F)}
	x, rows := roomyTable(m.T)
	r.rows = rows
	for _, y := range m.Maps {
		in, places := roomyMap(y)
		r.maps, r.places = append(r.maps, in), append(r.places, places)
	}
	for range 8 {
		r.maps = append(r.maps, mapOf(2, place(1, 0)))
	}
	r.in = imageOf(r.roomyFs.in, x, m.At, m.Root, r.maps[:len(m.Maps)]...)
	return r
}

func (r roomyImage) told() string {
	s := r.roomyFs.told() + toldTable(tableOf(r.in.T.Next, r.rows...)) + fmt.Sprint(r.in.At, r.in.Root, len(r.in.Maps), len(r.in.T.Rows))
	for _, y := range r.maps {
		s += toldMap(y)
	}
	for _, places := range r.places {
		s += toldMap(mapOf(0, places...))
	}
	return s
}

func (r roomyImage) overwrite() {
	r.roomyFs.overwrite()
	clear(r.rows)
	clear(r.maps)
	for _, places := range r.places {
		clear(places)
	}
}

func overwriteImage(m impl.Image) {
	overwriteFs(m.F)
	clear(m.T.Rows[:cap(m.T.Rows)])
	for _, x := range m.Maps {
		clear(x.Places[:cap(x.Places)])
	}
	clear(m.Maps[:cap(m.Maps)])
}

// memorySave is a call of Save with all that it takes.
type memorySave struct {
	l impl.Log
	m impl.Image
	a askedSave
}

// memorySaves end with each code, with what is there already, and with what is not.
func memorySaves(t *testing.T) []memorySave {
	t.Helper()
	l := []memorySave{}
	for _, two := range failingSaves()[1:4] {
		e, n := startOf(t, 6, two[0])
		for _, k := range []impl.Log{e, withFaults(e, bad(0), torn(2, 5)), withFaults(e, torn(0, 400)), logOf(off(e.D), e.Seq), logOf(e.D, impl.MaxNum), logOf(e.D, 0), logOf(dev(e.D.C, 99999), e.Seq)} {
			for _, a := range []askedSave{askSave(two[1]), askSave(two[0]), {two[1], 0, 0}, {two[1], 1, 24}, askSave(system(0)), {impl.FsNew(), -1, 1}} {
				l = append(l, memorySave{k, n, a})
			}
		}
		l = append(l, memorySave{e, imageOf(n.F, n.T, -1, n.Root, n.Maps...), askSave(two[1])}, memorySave{e, imageTurns(n)[0], askSave(two[0])}, memorySave{impl.Log{}, impl.Image{}, askSave(two[0])})
		l = append(l, memorySave{newLog(6), newImage(), askSave(two[1])}, memorySave{newLog(3), newImage(), askSave(impl.FsNew())}, memorySave{newLog(3), newImage(), askedSave{impl.FsNew(), 0, 0}})
	}
	x := sharingFs()
	e, n := savedOn(t, 6, x)
	// What is saved may be the trees of what was saved, and pages of the log.
	return append(l, memorySave{newLog(6), newImage(), askSave(x)}, memorySave{e, n, askSave(n.F)}, memorySave{e, n, askSave(system(6, n.F.Vols...))}, memorySave{e, n, askedSave{n.F, 0, 0}}, memorySave{e, n, askSave(system(6, n.F.Vols[0], n.F.Vols[2]))})
}

func TestImageCallsReadAndWriteNoSpareRoom(t *testing.T) {
	for i, k := range memorySaves(t) {
		l, m, f := roomOfLog(k.l), roomOfImage(k.m), roomy(k.a.f)
		keptLog, kept, keptFs := l.told(), m.told(), f.told()
		if impl.ImageOk(l.in, m.in) != impl.ImageOk(k.l, k.m) {
			t.Errorf("save %d: what lies behind the lists of an image counts", i)
		}
		e, n, code := impl.Save(l.in, m.in, f.in, k.a.avoid, k.a.spare)
		if want, wantImage, wantCode := k.a.of(k.l, k.m); code != wantCode || !sameLog(e, want) || !sameImage(n, wantImage) {
			t.Errorf("save %d reads what lies behind: the code %d, not %d, and %s", i, code, wantCode, toldImage(n))
		}
		if l.told() != keptLog || m.told() != kept || f.told() != keptFs {
			t.Fatalf("save %d: an argument, or what lies behind it, was written", i)
		}
	}
}

func TestSaveAnswersNewMemory(t *testing.T) {
	codes := map[int]int{}
	for i, k := range memorySaves(t) {
		l, m, f := roomOfLog(k.l), roomOfImage(k.m), roomy(k.a.f)
		ask := func() (impl.Log, impl.Image, int) { return impl.Save(l.in, m.in, f.in, k.a.avoid, k.a.spare) }
		keptLog, kept, keptFs := l.told(), m.told(), f.told()
		firstLog, first, code := ask()
		secondLog, second, _ := ask()
		codes[code]++
		wantLog, want := clonedLog(secondLog), toldImage(second)
		overwriteDev(firstLog.D)
		overwriteImage(first)
		if l.told() != keptLog || m.told() != kept || f.told() != keptFs {
			t.Errorf("save %d: the answer shares memory with an argument", i)
		}
		if thirdLog, third, _ := ask(); !sameLog(secondLog, wantLog) || !sameLog(thirdLog, wantLog) || toldImage(second) != want || toldImage(third) != want {
			t.Errorf("save %d: two answers share memory", i)
		}
		l.overwrite()
		m.overwrite()
		f.overwrite()
		if !sameLog(secondLog, wantLog) || toldImage(second) != want {
			t.Errorf("save %d: the answer turns with an argument", i)
		}
	}
	for _, code := range []int{impl.FsGood, impl.FsForm, impl.FsSpace, impl.FsDown} {
		if codes[code] == 0 {
			t.Errorf("no save with the code %d: %v", code, codes)
		}
	}
}

// span is the memory of a list, its spare room with it, or of a text.
type span struct {
	from, to uintptr
	of       string
	text     bool
}

// spansOf finds all lists and texts within a value.
func spansOf(v reflect.Value, of string) []span {
	l := []span{}
	switch v.Kind() {
	case reflect.String:
		// A text of one byte may be one that the language itself holds.
		if v.Len() > 1 {
			from := uintptr(unsafe.Pointer(unsafe.StringData(v.String())))
			l = append(l, span{from, from + uintptr(v.Len()), of, true})
		}
	case reflect.Struct:
		for i := range v.NumField() {
			l = append(l, spansOf(v.Field(i), of+"."+v.Type().Field(i).Name)...)
		}
	case reflect.Slice:
		if v.Cap() > 0 {
			l = append(l, span{v.Pointer(), v.Pointer() + uintptr(v.Cap())*v.Type().Elem().Size(), of, false})
		}
		for i := range v.Len() {
			l = append(l, spansOf(v.Index(i), fmt.Sprint(of, i))...)
		}
	}
	return l
}

func spansOfAll(of string, l ...any) []span {
	all := []span{}
	for _, x := range l {
		all = append(all, spansOf(reflect.ValueOf(x), of)...)
	}
	return all
}

// TestListsOfASaveShareNone: no list of the log and the image shares with another one, nor a list or a text with an argument.
func TestListsOfASaveShareNone(t *testing.T) {
	for i, k := range memorySaves(t) {
		l, m, f := roomOfLog(k.l), roomOfImage(k.m), roomy(k.a.f)
		e, n, code := impl.Save(l.in, m.in, f.in, k.a.avoid, k.a.spare)
		answer := slices.DeleteFunc(spansOfAll("answer", e, n), func(s span) bool { return s.text })
		slices.SortFunc(answer, func(a, b span) int { return int(a.from) - int(b.from) })
		for at := range answer[:max(len(answer)-1, 0)] {
			if answer[at].to > answer[at+1].from {
				t.Errorf("save %d, the code %d: %s and %s share memory", i, code, answer[at].of, answer[at+1].of)
			}
		}
		for _, a := range spansOfAll("answer", e, n) {
			for _, b := range spansOfAll("argument", l.in, m.in, f.in) {
				// The names of these tests are constants, of which an answer has copies, too.
				if a.from < b.to && b.from < a.to {
					t.Fatalf("save %d, the code %d: %s shares memory with %s", i, code, a.of, b.of)
				}
			}
		}
	}
}

// TestTheSpareRoomOfAnImageIsItsOwn: what is put behind a list of an answer is not to be seen in another one.
func TestTheSpareRoomOfAnImageIsItsOwn(t *testing.T) {
	for i, k := range memorySaves(t) {
		e, n, _ := k.a.of(k.l, k.m)
		want, wantLog := toldImage(n), clonedLog(e)
		_ = append(n.T.Rows, row(98, "behind", true, 99, 9))
		_ = append(n.Maps, mapOf(77, place(7, 7)))
		_ = append(n.F.Vols, vol(98, "behind", true, 99, impl.Tab{}))
		for _, x := range n.Maps {
			_ = append(x.Places, place(999, 99))
		}
		if toldImage(n) != want || !sameLog(e, wantLog) {
			t.Errorf("save %d: what is put behind one list is in another", i)
		}
	}
}

func TestTheNewImageIsNewMemory(t *testing.T) {
	first, second := impl.ImageNew(), impl.ImageNew()
	first.T.Rows, first.Maps, first.F.Vols = append(first.T.Rows, row(1, "a", false, 32, 0)), append(first.Maps, mapOf(2)), append(first.F.Vols, vol(1, "a", false, 32, impl.TabNew()))
	overwriteImage(first)
	if !sameImage(second, newImage()) || !sameImage(impl.ImageNew(), newImage()) {
		t.Error("two new images share memory")
	}
}

// TestNamesOfAnImageAreNewMemory: not even a piece of a longer text that was handed in.
func TestNamesOfAnImageAreNewMemory(t *testing.T) {
	kept := strings.Repeat("main.and.more", 3)
	f := system(3, vol(1, kept[:4], false, 100, impl.TabNew()), vol(2, kept[5:12], false, 100, impl.TabNew()))
	l, m := savedOn(t, 6, f)
	m.F, m.T.Rows = f, []impl.Row{row(1, kept[13:17], false, 100, m.T.Rows[0].Map), row(2, kept[18:25], false, 100, m.T.Rows[1].Map)}
	if !impl.ImageOk(l, m) {
		t.Fatal("the image is not right")
	}
	for _, a := range []askedSave{askSave(f), {f, 0, 1}, askSave(system(4, f.Vols...)), askSave(system(0)), {f, 0, 24}} {
		for _, log := range []impl.Log{l, logOf(off(l.D), l.Seq), logOf(l.D, 0)} {
			_, n, code := a.of(log, m)
			for i, v := range n.F.Vols {
				if share(v.Name, kept) || share(n.T.Rows[i].Name, kept) {
					t.Errorf("the code %d: the name %q shares memory with an argument", code, v.Name)
				}
			}
		}
	}
}
