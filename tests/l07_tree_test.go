package tests

import (
	"math"
	"runtime/debug"
	"slices"
	"strings"
	"testing"

	"loop.example/g00285/impl"
)

var (
	_ func(impl.Tab, int) int = impl.LinksOf
	_ func(impl.Tab) []int    = impl.Reached
	_ func(impl.Tab) bool     = impl.TreeOk
	_ func(impl.Tab) int      = impl.UsageOf
	_ func(impl.Tab) []string = impl.PathsOf
)

// rightTrees are tables all of whose inodes hang together.
func rightTrees() []impl.Tab {
	deep := impl.Tab{Next: 31}
	for ino := 1; ino < 30; ino++ {
		deep.Inodes = append(deep.Inodes, dir(ino, min(ino-1, 1), ent("d", ino+1)))
	}
	deep.Inodes = append(deep.Inodes, file(30, 1, "at the end"))
	linked := table(9, dir(1, 0), file(3, 10, "by ten names"))
	for _, e := range entsOf(10) {
		linked.Inodes[0].Ents = append(linked.Inodes[0].Ents, ent(e.Name, 3))
	}
	// A file of five paths, of one directory and of another, that has all that a file may have.
	shared := table(9, withAttrs(dir(1, 0, ent("a", 2), ent("a-", 3), ent("a.b", 3), ent("b", 4)), attrsOf(4)...),
		withAttrs(dir(2, 1, ent("-", 3), ent("a", 3), ent("b", 3)), attrsOf(4)...), file(3, 5, strings.Repeat("x", 100), attrsOf(4)...), dir(4, 1))
	return []impl.Tab{
		shared, impl.TabNew(), table(1000, dir(1, 0)), lookTab(), fullTab(0), fullTab(9), fullTab(10), manyInodes(4), manyInodes(29), manyInodes(30), deep, linked,
		table(1000, dir(1, 0, ent("a", 999)), file(999, 1, "")), table(9, dir(1, 0, ent("b", 2), ent("c", 5)), dir(2, 1, ent("a", 5)), file(5, 2, "x")),
		table(9, dir(1, 0, ent("a", 8)), dir(2, 1), dir(8, 1, ent("z", 2))),
	}
}

// wrongTrees are tables that are not right, and right ones that do not hang together.
func wrongTrees() []impl.Tab {
	l := wrongTabs()
	turned := func(turn func(x *impl.Tab)) { l = append(l, lookTabBut(turn)) }
	for _, links := range []int{0, 1, 3, 4, 1000, 1001, -1} {
		turned(func(x *impl.Tab) { of(x, 3).Links = links })
	}
	for _, links := range []int{0, 2} {
		turned(func(x *impl.Tab) { of(x, 4).Links = links })
		turned(func(x *impl.Tab) { of(x, 5).Links = links })
	}
	turned(func(x *impl.Tab) { of(x, 1).Links = 1 })
	// What is not reached: a file, a directory, two and three that lead to each other, one that leads to itself, a circle with a file within.
	turned(func(x *impl.Tab) { plus(x, file(0, 1, "")) })
	turned(func(x *impl.Tab) { plus(x, dir(0, 1)) })
	turned(func(x *impl.Tab) { plus(x, dir(0, 1, ent("a", 21))); plus(x, dir(0, 1, ent("a", 20))) })
	turned(func(x *impl.Tab) { plus(x, dir(0, 1, ent("a", 20))) })
	turned(func(x *impl.Tab) {
		plus(x, dir(0, 1, ent("a", 21)))
		plus(x, dir(0, 1, ent("a", 22)))
		plus(x, dir(0, 1, ent("a", 20)))
	})
	turned(func(x *impl.Tab) {
		plus(x, dir(0, 1, ent("a", 21)))
		plus(x, dir(0, 1, ent("a", 20), ent("f", 22)))
		plus(x, file(0, 1, "in a circle"))
	})
	turned(func(x *impl.Tab) { plus(x, dir(0, 1, ent("a", 20), ent("f", 3))); of(x, 3).Links = 3 })
	turned(func(x *impl.Tab) { of(x, 1).Ents = of(x, 1).Ents[1:] })
	turned(func(x *impl.Tab) { of(x, 1).Ents = of(x, 1).Ents[:3] })
	turned(func(x *impl.Tab) { of(x, 7).Ents = nil })
	turned(func(x *impl.Tab) { of(x, 1).Ents[0].Ino = 7; of(x, 6).Ents[1].Ino = 2 })
	// Entries that lead to what is not there, or to where they may not.
	for _, ino := range []int{-1, 0, 1, 2, 3, 5, 6, 7, 10, 19, 20, 1000, 1001} {
		turned(func(x *impl.Tab) { of(x, 5).Ents = []impl.Ent{ent("x", ino)} })
		turned(func(x *impl.Tab) { of(x, 7).Ents = append(of(x, 7).Ents, ent("x", ino)) })
		turned(func(x *impl.Tab) { of(x, 1).Ents = append(of(x, 1).Ents, ent("zz", ino)) })
	}
	for _, ino := range []int{2, 6, 7} {
		turned(func(x *impl.Tab) { of(x, 7).Ents = append(of(x, 7).Ents, ent("x", ino)); of(x, ino).Links = 2 })
	}
	for place := range lookTab().Inodes {
		turned(func(x *impl.Tab) { drop(x, place+1) })
		turned(func(x *impl.Tab) { of(x, place+1).Ino = 15 })
		if y := lookTab().Inodes[place]; len(y.Data)+len(y.Ents) > 0 {
			turned(func(x *impl.Tab) { of(x, place+1).Kind = 3 - y.Kind })
		}
		turned(func(x *impl.Tab) { of(x, place+1).Kind = 3 })
		turned(func(x *impl.Tab) { x.Inodes = append(x.Inodes, *of(x, place+1)) })
		turned(func(x *impl.Tab) {
			x.Inodes[place], x.Inodes[(place+1)%9] = x.Inodes[(place+1)%9], x.Inodes[place]
		})
	}
	for _, next := range []int{math.MinInt, 0, 1, 2, 8, 9, 1001, math.MaxInt} {
		turned(func(x *impl.Tab) { x.Next = next })
	}
	turned(func(x *impl.Tab) { of(x, 3).Data = make([]byte, 101) })
	turned(func(x *impl.Tab) { of(x, 3).Ents = []impl.Ent{ent("a", 9)} })
	turned(func(x *impl.Tab) { of(x, 2).Data = []byte("x") })
	turned(func(x *impl.Tab) { of(x, 1).Ents[0].Name = "x" })
	turned(func(x *impl.Tab) { of(x, 1).Ents[0].Name = "D" })
	turned(func(x *impl.Tab) { of(x, 3).Attrs = attrsOf(5) })
	return append(l, leftOfRightTabs()...)
}

// leftOfRightTabs are the right tables whose inodes do not hang together.
func leftOfRightTabs() []impl.Tab {
	return slices.DeleteFunc(rightTabs(), func(x impl.Tab) bool { return len(x.Inodes) == 1 && len(x.Inodes[0].Ents) == 0 })
}

func TestTreesThatAreAndThatAreNone(t *testing.T) {
	for i, x := range rightTrees() {
		if !impl.TreeOk(x) || !treeByWords(x) {
			t.Errorf("right tree %d is none: %s", i, toldTab(x))
		}
	}
	for i, x := range wrongTrees() {
		if impl.TreeOk(x) || treeByWords(x) {
			t.Errorf("wrong tree %d is one: %s", i, toldTab(x))
		}
	}
}

// checkTree holds all calls of the chapter against the words.
func checkTree(t *testing.T, x impl.Tab) {
	t.Helper()
	if got, want := impl.TreeOk(x), treeByWords(x); got != want {
		t.Errorf("TreeOk: %v, of %s", got, toldTab(x))
	}
	if got, want := impl.Reached(x), reachedByWords(x); !slices.Equal(got, want) {
		t.Errorf("Reached: %v, not %v, of %s", got, want, toldTab(x))
	}
	if got, want := impl.UsageOf(x), usageByWords(x); got != want {
		t.Errorf("UsageOf: %d, not %d, of %s", got, want, toldTab(x))
	}
	if got, want := impl.PathsOf(x), pathsInOrder(x); !slices.Equal(got, want) {
		t.Errorf("PathsOf: %q, not %q, of %s", got, want, toldTab(x))
	}
	for _, ino := range append(numbersOf(x), math.MinInt, -1, 0, 1, 2, 3, 9, 1000, 1001, math.MaxInt) {
		if got, want := impl.LinksOf(x, ino), linksByWords(x, ino); got != want {
			t.Errorf("LinksOf %d: %d, not %d, of %s", ino, got, want, toldTab(x))
		}
	}
}

// oddTabs are tables with numbers that no inode has, far out of what is right, and one number several times.
func oddTabs() []impl.Tab {
	l := []impl.Tab{{Inodes: []impl.Inode{{}, {}, {}}}, {Inodes: make([]impl.Inode, 40), Next: math.MinInt}}
	for _, n := range []int{math.MinInt, -1, 0, 1, math.MaxInt} {
		odd := impl.Inode{Ino: n, Kind: impl.InDir, Links: n, Data: make([]byte, 300), Ents: []impl.Ent{ent("", n), ent("/", 1), ent("..", 2), ent("a", n)}, Attrs: attrsOf(9)}
		l = append(l, table(n, odd), table(9, dir(1, n, ent("a", n), ent("b", n)), odd), table(9, odd, odd, dir(1, 0, ent("a", n), ent("a", 1))), table(n, dir(1, 0, ent("a", 2)), dir(2, 1, ent("b", n)), odd))
		odd.Kind = n
		l = append(l, table(9, dir(1, 0, ent("a", n)), odd), table(9, odd, dir(1, 0, ent("a", n))))
	}
	// Of two of one number the first one leads on.
	return append(l,
		table(9, dir(1, 0, ent("a", 2)), dir(2, 1, ent("b", 3)), dir(2, 1, ent("b", 4)), file(3, 1, ""), file(4, 1, "")),
		table(9, dir(1, 0, ent("a", 2)), file(2, 1, "x"), dir(2, 1, ent("b", 3)), file(3, 1, "")),
		table(9, file(1, 0, ""), dir(1, 0, ent("a", 2)), file(2, 1, "")),
		table(9, dir(1, 0, ent("b", 2)), dir(1, 0, ent("a", 3)), file(2, 1, ""), file(3, 1, "")),
	)
}

func TestTreesAgainstTheWords(t *testing.T) {
	for _, l := range [][]impl.Tab{rightTrees(), wrongTrees(), rightTabs(), memoryTabs(), oddTabs(), {{}, lookMemoryTab()}} {
		for _, x := range l {
			checkTree(t, x)
		}
	}
}

func TestKnownLinksAndNumbers(t *testing.T) {
	x := lookTab()
	for ino, want := range []int{0, 0, 1, 2, 1, 1, 1, 1, 1, 1, 0, 0} {
		if got := impl.LinksOf(x, ino); got != want {
			t.Errorf("LinksOf %d: %d", ino, got)
		}
	}
	if got := impl.Reached(x); !slices.Equal(got, []int{1, 2, 3, 4, 5, 6, 7, 8, 9}) {
		t.Error("Reached:", got)
	}
	if got := impl.Reached(impl.TabNew()); !slices.Equal(got, []int{1}) {
		t.Error("Reached of the new table:", got)
	}
	round := table(9, dir(1, 0, ent("b", 7), ent("a", 3), ent("a", 8)), dir(7, 1, ent("x", 1), ent("y", 7), ent("z", 5)), file(5, 1, ""), file(2, 1, ""), dir(4, 1, ent("w", 2), ent("v", 7)))
	if got := impl.Reached(round); !slices.Equal(got, []int{1, 5, 7}) {
		t.Error("Reached where it goes round:", got)
	}
	if got := impl.LinksOf(round, 7); got != 3 {
		t.Error("LinksOf where it goes round:", got)
	}
	for _, none := range []impl.Tab{{}, table(9, dir(2, 1, ent("a", 3)), file(3, 1, ""))} {
		if got := impl.Reached(none); len(got) != 0 {
			t.Error("Reached without the inode 1:", got)
		}
	}
}

// TestEntriesOfDirectoriesAlone: what is no directory leads nowhere, whatever entries it has.
func TestEntriesOfDirectoriesAlone(t *testing.T) {
	for _, kind := range []int{math.MinInt, -1, 0, 1, 3, 258, math.MaxInt} {
		x := table(9, dir(1, 0, ent("o", 2)), impl.Inode{Ino: 2, Kind: kind, Links: 1, Ents: []impl.Ent{ent("a", 3)}}, file(3, 1, ""))
		if got := impl.LinksOf(x, 3); got != 0 {
			t.Errorf("kind %d: LinksOf: %d", kind, got)
		}
		if got := impl.Reached(x); !slices.Equal(got, []int{1, 2}) {
			t.Errorf("kind %d: Reached: %v", kind, got)
		}
	}
}

// TestEverySmallTree goes through all tables of three places, each with one of these inodes, right or not.
func TestEverySmallTree(t *testing.T) {
	inodes := []impl.Inode{}
	for _, ents := range [][]impl.Ent{nil, {ent("a", 2)}, {ent("a", 3)}, {ent("a", 2), ent("b", 3)}, {ent("a", 3), ent("b", 3)}, {ent("a", 1)}, {ent("a", 4)}} {
		for links := range 3 {
			inodes = append(inodes, impl.Inode{Kind: impl.InDir, Links: links, Ents: ents})
			if len(ents) < 2 {
				inodes = append(inodes, impl.Inode{Kind: impl.InFile, Links: links, Ents: ents})
			}
		}
	}
	trees := 0
	for _, one := range inodes {
		for _, two := range inodes {
			for _, three := range inodes {
				x := table(4, one, two, three)
				for i := range x.Inodes {
					x.Inodes[i].Ino = i + 1
				}
				if treeByWords(x) {
					trees++
				}
				checkTree(t, x)
			}
		}
	}
	if trees == 0 {
		t.Error("none of them is a tree")
	}
}

// longChain is a table of n directories, each within the one ahead, and each with a second entry by which it leads there, too.
func longChain(n int) impl.Tab {
	x := impl.Tab{}
	for i := 1; i <= n; i++ {
		x.Inodes = append(x.Inodes, dir(i, 1, ent("a", i+1), ent("b", i+1)))
	}
	return x
}

// TestTheLongestReach: however far a table leads on, the calls need no stack that is as deep.
func TestTheLongestReach(t *testing.T) {
	defer debug.SetMaxStack(debug.SetMaxStack(1 << 20))
	const n = 100000
	long := longChain(n)
	if got := impl.Reached(long); len(got) != n || got[0] != 1 || got[n-1] != n {
		t.Error("Reached of many:", len(got))
	}
	if impl.TreeOk(long) || len(impl.PathsOf(long)) != 0 {
		t.Error("too many are a tree")
	}
	if got := impl.UsageOf(long); got != n*32 {
		t.Error("UsageOf of many:", got)
	}
	if got := impl.LinksOf(long, n); got != 2 {
		t.Error("LinksOf of many:", got)
	}
}

func TestReachedNearTheDepthOfRightTrees(t *testing.T) {
	for n := 1; n < 200; n++ {
		chain := longChain(n)
		slices.Reverse(chain.Inodes)
		// What is met at first far below is met again close to the inode 1.
		chain.Inodes[n-1].Ents = append(chain.Inodes[n-1].Ents, ent("c", n), ent("d", (n+1)/2))
		if got, want := impl.Reached(chain), reachedByWords(chain); !slices.Equal(got, want) || len(got) != n {
			t.Errorf("a chain of %d: %v, not %v", n, got, want)
		}
	}
}
