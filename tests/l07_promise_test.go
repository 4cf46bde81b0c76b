package tests

import (
	"math/rand/v2"
	"slices"
	"strings"
	"testing"

	"loop.example/g00285/impl"
)

// Promise 7: each change keeps a tree one, and does what it says.

// checkDoes holds what a change does against what chapter 6 says of paths, and answers the tree behind it.
func checkDoes(t *testing.T, x impl.Tab, a asked) (impl.Tab, int) {
	t.Helper()
	y, code := a.of(x)
	if code != impl.FsGood {
		if toldTab(y) != toldTab(x) {
			t.Fatalf("%s, the code %d: %s, of %s", a, code, toldTab(y), toldTab(x))
		}
		return y, code
	}
	want := flatOf(t, x)
	want.do(a)
	if !impl.TreeOk(y) || !treeByWords(y) {
		t.Fatalf("%s: no tree any more: %s, of %s", a, toldTab(y), toldTab(x))
	}
	if got := flatOf(t, y); got.told() != want.told() {
		t.Fatalf("%s: %s, not %s, of %s", a, got.told(), want.told(), toldTab(x))
	}
	for _, z := range y.Inodes {
		if got := impl.LinksOf(y, z.Ino); got != z.Links {
			t.Fatalf("%s: LinksOf %d: %d, of %s", a, z.Ino, got, toldTab(y))
		}
	}
	if got := impl.UsageOf(y); got != want.usage() {
		t.Fatalf("%s: a usage of %d, not %d, of %s", a, got, want.usage(), toldTab(y))
	}
	if got := impl.Reached(y); !slices.Equal(got, numbersOf(y)) {
		t.Fatalf("%s: %v are reached, of %s", a, got, toldTab(y))
	}
	return y, code
}

func mustDo(t *testing.T, x impl.Tab, l ...asked) impl.Tab {
	t.Helper()
	for _, a := range l {
		y, code := checkDoes(t, x, a)
		if code != impl.FsGood {
			t.Fatalf("%s: the code %d, of %s", a, code, toldTab(x))
		}
		x = y
	}
	return x
}

func wantPaths(t *testing.T, x impl.Tab, want ...string) {
	t.Helper()
	if got := impl.PathsOf(x); !slices.Equal(got, want) {
		t.Errorf("PathsOf: %q, not %q, of %s", got, want, toldTab(x))
	}
}

func TestATreeThatIsMadeStepByStep(t *testing.T) {
	x := mustDo(t, impl.TabNew(), askDir("/d"), askFile("/d/f"), askDir("/d/e"), askFile("/g"))
	wantPaths(t, x, "/d", "/d/e", "/d/f", "/g")
	x = mustDo(t, x, askWrite("/d/f", 2, "xy"), askLink("/d/f", "/d/e/l"), askLink("/d/e/l", "/k"))
	wantPaths(t, x, "/d", "/d/e", "/d/e/l", "/d/f", "/g", "/k")
	if y, _ := impl.Stat(x, "/k"); y.Ino != 3 || y.Links != 3 || string(y.Data) != "\x00\x00xy" || impl.LinksOf(x, 3) != 3 {
		t.Error("the file of three paths:", told(y))
	}
	if got := impl.UsageOf(x); got != 5*32+4 {
		t.Error("a file of three paths counts once:", got)
	}
	x = mustDo(t, x, askAttr("/d/e/l", "k", "val"), askAttr("/", "of", "all"))
	if got := impl.UsageOf(x); got != 5*32+4+4+5 {
		t.Error("the usage with attributes:", got)
	}
	x = mustDo(t, x, askMove("/d", "/e"), askCut("/k", 3))
	wantPaths(t, x, "/e", "/e/e", "/e/e/l", "/e/f", "/g", "/k")
	x = mustDo(t, x, askUnlink("/e/f"), askUnlink("/k"))
	wantPaths(t, x, "/e", "/e/e", "/e/e/l", "/g")
	if b, code := impl.ReadFile(x, "/e/e/l", 0, 9); string(b) != "\x00\x00x" || code != impl.FsGood {
		t.Errorf("what is left of the file: %q, %d", b, code)
	}
	x = mustDo(t, x, askUnlink("/e/e/l"), askRmdir("/e/e"), askRmdir("/e"), askUnlink("/g"), askAttr("/", "of", ""))
	wantPaths(t, x)
	if got := impl.UsageOf(x); got != 32 || !slices.Equal(impl.Reached(x), []int{1}) {
		t.Error("all is gone, but the usage is", got)
	}
}

// moreCalls are changes of what is there, and of new names in each directory.
func moreCalls(x impl.Tab) []asked {
	there, l := pathsByWords(x), []asked{}
	places := slices.Clone(there)
	for _, path := range there {
		places = append(places, strings.TrimSuffix(path, "/")+"/new")
	}
	for _, path := range places {
		l = append(l, askDir(path), askFile(path), askUnlink(path), askRmdir(path), askCut(path, 0), askCut(path, 7), askCut(path, 100))
		l = append(l, askWrite(path, 0, "new bytes"), askWrite(path, 3, "x"), askWrite(path, 100, ""), askWrite(path, 20, strings.Repeat("y", 80)))
		l = append(l, askAttr(path, "a", "new"), askAttr(path, "b", ""), askAttr(path, "new", "sixteen bytes .."))
		for _, to := range places {
			l = append(l, askLink(path, to), askMove(path, to))
		}
	}
	return l
}

func TestEveryChangeDoesWhatItSays(t *testing.T) {
	done := map[string]int{}
	for _, x := range rightTrees() {
		for _, a := range moreCalls(x) {
			if _, code := checkDoes(t, x, a); code == impl.FsGood {
				done[a.call]++
			}
		}
	}
	for call := range codesOf() {
		if done[call] == 0 {
			t.Error(call, "was always refused")
		}
	}
	t.Log(done)
}

func TestEveryChangeOfSmallTreesDoesWhatItSays(t *testing.T) {
	seen, now := map[string]int{}, []impl.Tab{impl.TabNew()}
	for range 4 {
		next := []impl.Tab{}
		for _, x := range now {
			for _, a := range smallCalls() {
				y, code := checkDoes(t, x, a)
				if key := toldTab(y); code == impl.FsGood && seen[key] == 0 {
					seen[key] = 1
					next = append(next, y)
				}
			}
		}
		now = next
	}
	t.Logf("%d trees", len(seen))
}

func TestLongRunsKeepATreeOne(t *testing.T) {
	for run := range 8 {
		r := rand.New(rand.NewPCG(7, uint64(run)))
		x := []impl.Tab{impl.TabNew(), lookTab(), fullTab(10), deepTab(29)}[run%4]
		for range 700 {
			x, _ = checkDoes(t, x, anyChange(r, x))
		}
	}
}

// directoriesOf are the paths of all directories of a tree.
func directoriesOf(x impl.Tab) []string {
	return slices.DeleteFunc(pathsByWords(x), func(path string) bool {
		y, _ := statByWords(x, path)
		return y.Kind != impl.InDir
	})
}

// toldButNext tells all of a table but the next number: what was made and is gone has taken one.
func toldButNext(x impl.Tab) string {
	x.Next = 0
	return toldTab(x)
}

// undone does one change and another one behind it, and asks for all that was there ahead of them.
func undone(t *testing.T, x impl.Tab, a, back asked) bool {
	t.Helper()
	y, code := checkDoes(t, x, a)
	if code != impl.FsGood {
		return false
	}
	z, code := checkDoes(t, y, back)
	if code != impl.FsGood {
		t.Errorf("%s: the code %d behind %s, of %s", back, code, a, toldTab(x))
	}
	if got, want := impl.PathsOf(z), impl.PathsOf(x); !slices.Equal(got, want) {
		t.Errorf("behind %s and %s: the paths %q, not %q", a, back, got, want)
	}
	if toldButNext(z) != toldButNext(x) || impl.UsageOf(z) != impl.UsageOf(x) {
		t.Errorf("behind %s and %s: %s, not %s", a, back, toldTab(z), toldTab(x))
	}
	if z.Next != y.Next {
		t.Errorf("%s: the next number is %d, not %d", back, z.Next, y.Next)
	}
	return true
}

func TestWhatIsMadeAndTakenAwayAgain(t *testing.T) {
	did := 0
	for _, x := range rightTrees() {
		for _, d := range directoriesOf(x) {
			for _, name := range []string{"/0", "/ne-w", "/ne.w", "/zzz"} {
				path := strings.TrimSuffix(d, "/") + name
				for _, two := range [][2]asked{{askDir(path), askRmdir(path)}, {askFile(path), askUnlink(path)}} {
					if undone(t, x, two[0], two[1]) {
						did++
					}
				}
				for _, f := range pathsByWords(x) {
					if undone(t, x, askLink(f, path), askUnlink(path)) {
						did++
					}
				}
			}
		}
	}
	if did < 100 {
		t.Error("only", did, "were made")
	}
}

func TestWhatIsMovedAndMovedBack(t *testing.T) {
	did := 0
	for _, x := range rightTrees() {
		for _, path := range pathsByWords(x) {
			for _, d := range directoriesOf(x) {
				for _, name := range []string{"/0", "/d-", "/zzz"} {
					to := strings.TrimSuffix(d, "/") + name
					if undone(t, x, askMove(path, to), askMove(to, path)) {
						did++
					}
				}
			}
		}
	}
	if did < 100 {
		t.Error("only", did, "were moved")
	}
}
