package tests

import (
	"math"
	"slices"
	"strconv"
	"testing"

	"loop.example/g00285/impl"
)

var (
	_ func() impl.Tab                        = impl.TabNew
	_ func(impl.Tab) bool                    = impl.TabOk
	_ func(impl.Tab, int) (impl.Inode, bool) = impl.InodeAt
	_ func(impl.Tab, impl.Inode) impl.Tab    = impl.SetInode
	_ func(impl.Tab, int) impl.Tab           = impl.DropInode
	_ func(impl.Tab, impl.Tab) bool          = impl.SameTab
)

func TestTableConstants(t *testing.T) {
	if impl.MaxInodes != 30 {
		t.Error("limit", impl.MaxInodes)
	}
}

func table(next int, l ...impl.Inode) impl.Tab { return impl.Tab{Inodes: l, Next: next} }

// rootAnd are the inode 1, a directory with nothing, and files of these numbers, each with bytes of its own.
func rootAnd(numbers ...int) []impl.Inode {
	l := []impl.Inode{dir(1, 0)}
	for _, n := range numbers {
		l = append(l, file(n, 1, "the file "+strconv.Itoa(n)))
	}
	return l
}

// upTo are the numbers from 2 on, so many that there are n with the inode 1.
func upTo(n int) []int {
	l := []int{}
	for i := 2; i <= n; i++ {
		l = append(l, i)
	}
	return l
}

// toldTab tells all parts of a table; an empty list as nil.
func toldTab(t impl.Tab) string {
	s := "next " + strconv.Itoa(t.Next)
	for _, x := range t.Inodes {
		s += "\n" + told(x)
	}
	return s
}

// marked is a table of these numbers, right or not, whose inodes each tell their place.
func marked(next int, numbers ...int) impl.Tab {
	t := impl.Tab{Next: next}
	for i, n := range numbers {
		kind := 1 + i%2
		x := impl.Inode{Ino: n, Kind: kind, Links: i, Data: []byte("place " + strconv.Itoa(i)), Ents: entsOf(i % 3), Attrs: attrsOf(i % 2)}
		t.Inodes = append(t.Inodes, x)
	}
	return t
}

func numbersOf(t impl.Tab) []int {
	l := []int{}
	for _, x := range t.Inodes {
		l = append(l, x.Ino)
	}
	return l
}

func rightTabs() []impl.Tab {
	l := []impl.Tab{
		table(2, dir(1, 0)), table(3, dir(1, 0)), table(999, dir(1, 0)), table(1000, dir(1, 0)),
		table(3, rootAnd(2)...), table(1000, rootAnd(2)...), table(1000, rootAnd(999)...), table(1000, rootAnd(2, 999)...), table(9, rootAnd(3, 5, 8)...),
		table(31, rootAnd(upTo(30)...)...), table(30, rootAnd(upTo(29)...)...), table(1000, rootAnd(upTo(30)...)...),
		table(10, dir(1, 0, ent("a", 5), ent("b", 900)), dir(2, 1), file(5, 3, "data", attr("k", "v")), withAttrs(dir(7, 1, entsOf(10)...), attrsOf(4)...)),
		table(10, withAttrs(dir(1, 0, entsOf(10)...), attrsOf(4)...)),
	}
	far := []int{}
	for i := range 29 {
		far = append(far, 100+i*31)
	}
	return append(l, table(1000, rootAnd(far...)...))
}

func wrongTabs() []impl.Tab {
	l := []impl.Tab{
		{}, {Next: 2}, {Next: 1000}, {Inodes: []impl.Inode{}, Next: 2}, {Inodes: rootAnd()}, {Inodes: []impl.Inode{{}}, Next: 2},
		table(32, rootAnd(upTo(31)...)...), table(1000, rootAnd(upTo(31)...)...), table(1000, rootAnd(upTo(200)...)...),
		table(9, rootAnd(5, 3)...), table(9, rootAnd(3, 3)...), table(9, rootAnd(2, 5, 4)...), table(9, rootAnd(2, 5, 5)...), table(9, rootAnd(5, 2, 8)...),
		table(9, dir(1, 0), dir(1, 0)), table(9, file(2, 1, ""), dir(1, 0)), table(9, dir(1, 0), file(3, 1, ""), dir(1, 0)), table(9, dir(1, 0), file(1, 0, "")),
		table(2, file(1, 0, "")), table(9, file(1, 0, ""), dir(2, 1)), table(9, dir(2, 1)), table(9, file(2, 1, ""), dir(3, 1)),
		table(2, rootAnd(2)...), table(5, rootAnd(5)...), table(5, rootAnd(6)...), table(5, rootAnd(2, 3, 5)...), table(5, rootAnd(2, 3, 1000)...), table(1000, rootAnd(1000)...),
	}
	for _, next := range []int{math.MinInt, -1, 0, 1, 1001, 1002, 1 << 32, math.MaxInt} {
		l = append(l, table(next, dir(1, 0)), table(next, rootAnd(2, 3)...))
	}
	for _, x := range wrongInodes() {
		l = append(l, table(1000, dir(1, 0), x), table(1000, x), table(1000, dir(1, 0), x, file(999, 1, "")))
		x.Ino = 3
		if !inodeByWords(x) {
			l = append(l, table(1000, dir(1, 0), file(2, 1, ""), x, file(5, 1, "")))
		}
	}
	return l
}

// tabByWords asks what the chapter tells of a table, by other means than the program's.
func tabByWords(t impl.Tab) bool {
	numbers := numbersOf(t)
	sorted := slices.Compact(slices.Sorted(slices.Values(numbers)))
	if t.Next < 2 || t.Next > 1000 || len(numbers) < 1 || len(numbers) > 30 || !slices.Equal(numbers, sorted) {
		return false
	}
	if sorted[0] != 1 || sorted[len(sorted)-1] >= t.Next || t.Inodes[0].Kind != 2 {
		return false
	}
	return !slices.ContainsFunc(t.Inodes, func(x impl.Inode) bool { return !inodeByWords(x) })
}

func TestTheWordsOfTablesAgree(t *testing.T) {
	for i, x := range rightTabs() {
		if !tabByWords(x) {
			t.Errorf("right table %d: %s", i, toldTab(x))
		}
	}
	for i, x := range wrongTabs() {
		if tabByWords(x) {
			t.Errorf("wrong table %d: %s", i, toldTab(x))
		}
	}
}

func TestTheNewTable(t *testing.T) {
	x := impl.TabNew()
	if toldTab(x) != "next 2\n1 2 0 \"\"" {
		t.Errorf("the new table: %s", toldTab(x))
	}
	if !impl.TabOk(x) || !impl.SameTab(x, table(2, dir(1, 0))) {
		t.Error("the new table is not right")
	}
	if root, ok := impl.InodeAt(x, 1); !ok || told(root) != told(dir(1, 0)) {
		t.Errorf("the inode 1 of the new table: %s, %v", told(root), ok)
	}
	refusedInodeAt(t, x, 2)
}

func TestTablesThatAreAndThatAreNone(t *testing.T) {
	for i, x := range rightTabs() {
		if !impl.TabOk(x) {
			t.Errorf("right table %d is none: %s", i, toldTab(x))
		}
	}
	for i, x := range wrongTabs() {
		if impl.TabOk(x) {
			t.Errorf("wrong table %d is one: %s", i, toldTab(x))
		}
	}
}

func TestTablesOfEveryNext(t *testing.T) {
	for next := -10; next < 1100; next++ {
		for _, greatest := range []int{1, 2, 3, 500, 999, 1000} {
			x := table(next, dir(1, 0))
			if greatest > 1 {
				x = table(next, rootAnd(greatest)...)
			}
			if want := next >= 2 && next <= 1000 && greatest < next; impl.TabOk(x) != want {
				t.Errorf("Next %d, with the number %d: %v", next, greatest, !want)
			}
		}
	}
}

func TestTablesOfEveryCount(t *testing.T) {
	for n := 1; n < 60; n++ {
		if impl.TabOk(table(1000, rootAnd(upTo(n)...)...)) != (n <= 30) {
			t.Errorf("%d inodes", n)
		}
	}
}

func TestTablesOfEveryInode(t *testing.T) {
	for i, x := range append(rightInodes(), wrongInodes()...) {
		for _, y := range []impl.Tab{table(1000, x), table(1000, dir(1, 0), x), table(1000, dir(1, 0), x, file(998, 1, "")), table(500, dir(1, 0), file(2, 1, ""), x)} {
			if want := tabByWords(y); impl.TabOk(y) != want {
				t.Errorf("inode %d: %v of %s", i, !want, toldTab(y))
			}
		}
	}
}

// everyTab calls f with the numbers of each table of at most n inodes of these numbers.
func everyTab(numbers []int, n int, f func(l []int)) {
	signs := ""
	for i := range numbers {
		signs += string(rune('a' + i))
	}
	everyText(signs, n, func(s string) {
		l := []int{}
		for i := range len(s) {
			l = append(l, numbers[s[i]-'a'])
		}
		f(l)
	})
}

func TestTablesOfEveryOrder(t *testing.T) {
	right := 0
	everyTab([]int{0, 1, 2, 3, 4}, 5, func(l []int) {
		x := impl.Tab{Next: 4}
		for _, n := range l {
			if n == 1 {
				x.Inodes = append(x.Inodes, dir(1, 0))
			} else {
				x.Inodes = append(x.Inodes, file(n, 1, ""))
			}
		}
		want := tabByWords(x)
		if want {
			right++
		}
		if impl.TabOk(x) != want {
			t.Errorf("the numbers %v: %v", l, !want)
		}
	})
	if right != 4 {
		t.Error("not 4 of them are right:", right)
	}
}

func refusedInodeAt(t *testing.T, x impl.Tab, ino int) {
	t.Helper()
	if found, ok := impl.InodeAt(x, ino); ok || told(found) != told(impl.Inode{}) {
		t.Errorf("InodeAt of %d: %s, %v, of %s", ino, told(found), ok, toldTab(x))
	}
}

func TestInodeAtOfWhatIsThere(t *testing.T) {
	for i, x := range rightTabs() {
		for _, want := range x.Inodes {
			if found, ok := impl.InodeAt(x, want.Ino); !ok || told(found) != told(want) {
				t.Errorf("right table %d: of %d %s, %v", i, want.Ino, told(found), ok)
			}
		}
	}
}

func TestInodeAtOfWhatIsNotThere(t *testing.T) {
	for _, x := range rightTabs() {
		for _, ino := range []int{math.MinInt, -1, 0, 4, 600, 1000, 1001, 1 << 32, 1<<32 + 1, math.MaxInt} {
			if !slices.Contains(numbersOf(x), ino) {
				refusedInodeAt(t, x, ino)
			}
		}
	}
	for _, ino := range []int{0, 1, 2} {
		refusedInodeAt(t, impl.Tab{}, ino)
		refusedInodeAt(t, impl.Tab{Inodes: []impl.Inode{}, Next: 9}, ino)
	}
}

// setByWords and dropByWords do what the chapter tells, by other means than the program's.
func setByWords(t impl.Tab, x impl.Inode) impl.Tab {
	l := slices.Clone(t.Inodes)
	for i, y := range t.Inodes {
		if y.Ino == x.Ino {
			l[i] = x
			return impl.Tab{Inodes: l, Next: t.Next}
		}
	}
	for i, y := range t.Inodes {
		if y.Ino > x.Ino {
			return impl.Tab{Inodes: append(append(slices.Clone(l[:i]), x), l[i:]...), Next: t.Next}
		}
	}
	return impl.Tab{Inodes: append(l, x), Next: t.Next}
}

func dropByWords(t impl.Tab, ino int) impl.Tab {
	l := slices.DeleteFunc(slices.Clone(t.Inodes), func(x impl.Inode) bool { return x.Ino == ino })
	return impl.Tab{Inodes: l, Next: t.Next}
}

// checkSet holds what SetInode answers against the words, and looks for x and all others there.
func checkSet(t *testing.T, x impl.Tab, set impl.Inode) {
	t.Helper()
	y := impl.SetInode(x, set)
	if want := setByWords(x, set); toldTab(y) != toldTab(want) {
		t.Errorf("SetInode of %s in %s: %s", told(set), toldTab(x), toldTab(y))
	}
	if found, ok := impl.InodeAt(y, set.Ino); !ok || told(found) != told(set) {
		t.Errorf("what is set is not found: %s, but %s, %v", told(set), told(found), ok)
	}
	for _, other := range x.Inodes {
		if other.Ino == set.Ino {
			continue
		}
		ahead, _ := impl.InodeAt(x, other.Ino)
		if found, ok := impl.InodeAt(y, other.Ino); !ok || told(found) != told(ahead) {
			t.Errorf("SetInode of %s turns %s to %s, %v", told(set), told(ahead), told(found), ok)
		}
	}
}

func checkDrop(t *testing.T, x impl.Tab, ino int) {
	t.Helper()
	y := impl.DropInode(x, ino)
	if want := dropByWords(x, ino); toldTab(y) != toldTab(want) {
		t.Errorf("DropInode of %d in %s: %s", ino, toldTab(x), toldTab(y))
	}
	refusedInodeAt(t, y, ino)
}

func TestWhatIsSetIsFound(t *testing.T) {
	inodes := append(rightInodes(), wrongInodes()...)
	odd := []impl.Tab{{}, table(0, rootAnd(5, 3)...), table(-7, rootAnd(3, 3)...), table(1000, rootAnd(999, 1000, 1001)...), marked(5, math.MaxInt, 0, math.MinInt, -1, 0)}
	for _, x := range append(rightTabs(), odd...) {
		for _, set := range inodes {
			checkSet(t, x, set)
		}
		for _, other := range x.Inodes {
			checkSet(t, x, file(other.Ino, 7, "another", attr("k", "v")))
			checkDrop(t, x, other.Ino)
		}
		for _, ino := range []int{math.MinInt, -1, 0, 1, 2, 4, 6, 999, 1000, 1001, math.MaxInt} {
			checkSet(t, x, impl.Inode{Ino: ino, Data: []byte("set")})
			checkDrop(t, x, ino)
		}
	}
}

func TestSetKeepsARightTableRight(t *testing.T) {
	for i, x := range rightTabs() {
		for _, set := range rightInodes() {
			there := slices.Contains(numbersOf(x), set.Ino)
			want := set.Ino < x.Next && (there || len(x.Inodes) < 30) && (set.Ino != 1 || set.Kind == 2)
			if impl.TabOk(impl.SetInode(x, set)) != want {
				t.Errorf("right table %d, set %s: %v", i, told(set), !want)
			}
		}
	}
}

func TestWhereAnInodeIsPut(t *testing.T) {
	for _, k := range []struct {
		ahead []int
		set   int
		want  []int
	}{
		{nil, 5, []int{5}}, {[]int{1}, 2, []int{1, 2}}, {[]int{2}, 1, []int{1, 2}}, {[]int{3, 5}, 1, []int{1, 3, 5}}, {[]int{1, 5}, 3, []int{1, 3, 5}},
		{[]int{1, 3}, 5, []int{1, 3, 5}}, {[]int{1, 3, 5}, 4, []int{1, 3, 4, 5}}, {[]int{1, 3, 5}, 2, []int{1, 2, 3, 5}}, {[]int{1, 999}, 1000, []int{1, 999, 1000}},
		{[]int{1, 3, 5}, 3, []int{1, 3, 5}}, {[]int{1, 3, 5}, 1, []int{1, 3, 5}}, {[]int{1, 3, 5}, 5, []int{1, 3, 5}},
		{[]int{5, 3, 9, 1}, 4, []int{4, 5, 3, 9, 1}}, {[]int{2, 9, 3, 7}, 5, []int{2, 5, 9, 3, 7}}, {[]int{9, 1}, 3, []int{3, 9, 1}}, {[]int{3, 2, 1}, 4, []int{3, 2, 1, 4}},
		{[]int{9, 3, 9}, 3, []int{9, 3, 9}}, {[]int{5, 5}, 4, []int{4, 5, 5}}, {[]int{5, 5}, 6, []int{5, 5, 6}}, {[]int{0, -3}, -2, []int{-2, 0, -3}},
	} {
		x := marked(77, k.ahead...)
		y := impl.SetInode(x, file(k.set, 1, "set"))
		if !slices.Equal(numbersOf(y), k.want) || y.Next != 77 {
			t.Errorf("%d in %v: %v, next %d", k.set, k.ahead, numbersOf(y), y.Next)
		}
		if found, ok := impl.InodeAt(y, k.set); !ok || string(found.Data) != "set" {
			t.Errorf("%d in %v is not found", k.set, k.ahead)
		}
	}
}

func TestOfTwoOfOneNumberTheFirstCounts(t *testing.T) {
	x := marked(9, 1, 4, 2, 4, 2, 4)
	if found, ok := impl.InodeAt(x, 4); !ok || string(found.Data) != "place 1" {
		t.Errorf("InodeAt of 4: %s, %v", told(found), ok)
	}
	y := impl.SetInode(x, file(2, 1, "set"))
	if !slices.Equal(numbersOf(y), []int{1, 4, 2, 4, 2, 4}) || string(y.Inodes[2].Data) != "set" || string(y.Inodes[4].Data) != "place 4" {
		t.Errorf("SetInode of 2: %s", toldTab(y))
	}
	z := impl.DropInode(x, 4)
	if !slices.Equal(numbersOf(z), []int{1, 2, 2}) || string(z.Inodes[1].Data) != "place 2" || string(z.Inodes[2].Data) != "place 4" || z.Next != 9 {
		t.Errorf("DropInode of 4: %s", toldTab(z))
	}
}

func TestEveryTableThatIsRightOrNot(t *testing.T) {
	numbers := []int{1, 2, 3, 5}
	everyTab(numbers, 5, func(l []int) {
		x := marked(len(l)-2, l...)
		for ino := range 7 {
			place := slices.Index(l, ino)
			found, ok := impl.InodeAt(x, ino)
			if ok != (place >= 0) || ok && told(found) != told(x.Inodes[place]) || !ok && told(found) != told(impl.Inode{}) {
				t.Errorf("InodeAt of %d in %v: %s, %v", ino, l, told(found), ok)
			}
			checkSet(t, x, file(ino, 1, "set", attr("k", "v")))
			checkDrop(t, x, ino)
		}
	})
}

func TestDropOfWhatIsThere(t *testing.T) {
	x := table(9, rootAnd(3, 5, 8)...)
	for _, ino := range []int{1, 3, 5, 8} {
		y := impl.DropInode(x, ino)
		if impl.TabOk(y) != (ino != 1) || len(y.Inodes) != 3 || y.Next != 9 {
			t.Errorf("DropInode of %d: %s", ino, toldTab(y))
		}
	}
	none := impl.DropInode(impl.TabNew(), 1)
	if len(none.Inodes) != 0 || none.Next != 2 || !impl.SameTab(none, impl.Tab{Next: 2}) {
		t.Errorf("DropInode of the last: %s", toldTab(none))
	}
}

func TestDropOfWhatIsNotThere(t *testing.T) {
	for _, x := range append(rightTabs(), impl.Tab{}, marked(-3, 5, 3, 5, 1)) {
		for _, ino := range []int{math.MinInt, -1, 0, 4, 600, 1000, 1001, math.MaxInt} {
			if y := impl.DropInode(x, ino); !slices.Contains(numbersOf(x), ino) && (toldTab(y) != toldTab(x) || !impl.SameTab(x, y)) {
				t.Errorf("DropInode of %d in %s: %s", ino, toldTab(x), toldTab(y))
			}
		}
	}
}

func TestSetOfOneMoreThanTheMost(t *testing.T) {
	full := impl.TabNew()
	full.Next = 1000
	for ino := 2; ino <= 30; ino++ {
		full = impl.SetInode(full, file(ino, 1, ""))
		if len(full.Inodes) != ino || !impl.TabOk(full) {
			t.Fatalf("%d inodes are not right", ino)
		}
	}
	if !impl.TabOk(impl.SetInode(full, file(17, 2, "another"))) {
		t.Error("one in the place of another, of the most, is not right")
	}
	if more := impl.SetInode(full, file(31, 1, "")); len(more.Inodes) != 31 || impl.TabOk(more) {
		t.Error("one more than the most is right, or is not set")
	}
	if again := impl.SetInode(impl.DropInode(full, 4), file(31, 1, "")); !impl.TabOk(again) {
		t.Error("one more behind a drop is not right")
	}
}

func TestNextStaysAsItWas(t *testing.T) {
	for _, next := range []int{math.MinInt, -1, 0, 1, 2, 5, 1000, 1001, math.MaxInt} {
		x := table(next, rootAnd(3, 5)...)
		for _, ino := range []int{1, 2, 3, 5, 6, 1000} {
			if y := impl.SetInode(x, file(ino, 1, "")); y.Next != next {
				t.Errorf("SetInode of %d: %d turns to %d", ino, next, y.Next)
			}
			if y := impl.DropInode(x, ino); y.Next != next {
				t.Errorf("DropInode of %d: %d turns to %d", ino, next, y.Next)
			}
		}
	}
}

func TestASetTakenBackIsTheSame(t *testing.T) {
	for i, x := range rightTabs() {
		if y := impl.DropInode(impl.SetInode(x, file(600, 1, "new")), 600); !impl.SameTab(x, y) {
			t.Errorf("right table %d: a new one that is dropped: %s", i, toldTab(y))
		}
		for _, old := range x.Inodes {
			if y := impl.SetInode(impl.DropInode(x, old.Ino), old); !impl.SameTab(x, y) {
				t.Errorf("right table %d: %d dropped and set: %s", i, old.Ino, toldTab(y))
			}
			if y := impl.SetInode(impl.SetInode(x, file(old.Ino, 9, "other")), old); !impl.SameTab(x, y) {
				t.Errorf("right table %d: %d set twice: %s", i, old.Ino, toldTab(y))
			}
		}
	}
}

// tabTurns are tables that each have one part other than x.
func tabTurns(x impl.Tab) []impl.Tab {
	l := []impl.Tab{{Inodes: x.Inodes, Next: x.Next + 1}, {Inodes: x.Inodes, Next: -x.Next}, {Inodes: x.Inodes}, {Next: x.Next}}
	for i, old := range x.Inodes {
		for _, turned := range turns(old) {
			y := impl.Tab{Inodes: slices.Clone(x.Inodes), Next: x.Next}
			y.Inodes[i] = turned
			l = append(l, y)
		}
		l = append(l, impl.Tab{Inodes: slices.Delete(slices.Clone(x.Inodes), i, i+1), Next: x.Next})
		l = append(l, impl.Tab{Inodes: slices.Insert(slices.Clone(x.Inodes), i, old), Next: x.Next})
		l = append(l, impl.Tab{Inodes: append(slices.Clone(x.Inodes), old), Next: x.Next})
	}
	turned := slices.Clone(x.Inodes)
	slices.Reverse(turned)
	return append(l, impl.Tab{Inodes: turned, Next: x.Next})
}

func TestSameTabTurnsWithEachPart(t *testing.T) {
	full := func(ino int) impl.Inode {
		return impl.Inode{Ino: ino, Kind: impl.InFile, Links: 2, Data: []byte("data"), Ents: entsOf(2), Attrs: attrsOf(2)}
	}
	for _, x := range []impl.Tab{table(9, full(1), full(3), full(5)), table(-1, full(7), full(-7))} {
		if !impl.SameTab(x, x) || impl.SameTab(x, impl.Tab{}) || impl.SameTab(impl.Tab{}, x) {
			t.Error("of itself, or the zero one")
		}
		for i, y := range tabTurns(x) {
			if impl.SameTab(x, y) || impl.SameTab(y, x) {
				t.Errorf("turn %d: %s is the same as %s", i, toldTab(x), toldTab(y))
			}
		}
	}
}

func TestSameTabOfEachTwo(t *testing.T) {
	l := append(rightTabs(), wrongTabs()...)
	texts := []string{}
	for _, x := range l {
		texts = append(texts, toldTab(x))
	}
	for i, x := range l {
		for k, y := range l {
			if impl.SameTab(x, y) != (texts[i] == texts[k]) {
				t.Errorf("the tables %d and %d: %s, %s", i, k, texts[i], texts[k])
			}
		}
	}
}

func TestAnEmptyListOfInodesIsNil(t *testing.T) {
	l := []impl.Tab{{Next: 5}, {Inodes: []impl.Inode{}, Next: 5}, {Inodes: rootAnd(2, 3)[:0], Next: 5}}
	for _, x := range l {
		for _, y := range l {
			if !impl.SameTab(x, y) {
				t.Error("an empty list is not nil")
			}
		}
		if impl.TabOk(x) || toldTab(impl.SetInode(x, file(2, 1, "x"))) != toldTab(table(5, file(2, 1, "x"))) || toldTab(impl.DropInode(x, 2)) != "next 5" {
			t.Error("of an empty list another answer")
		}
	}
	bare := table(3, impl.Inode{Ino: 1, Kind: impl.InDir})
	held := table(3, impl.Inode{Ino: 1, Kind: impl.InDir, Data: []byte{}, Ents: []impl.Ent{}, Attrs: []impl.Attr{}})
	if !impl.SameTab(bare, held) || !impl.SameTab(held, bare) || !impl.TabOk(held) || !impl.SameTab(impl.Tab{}, impl.Tab{Inodes: []impl.Inode{}}) {
		t.Error("empty lists within an inode are not nil")
	}
}
