package tests

import (
	"fmt"
	"maps"
	"slices"
	"strings"
	"testing"

	"loop.example/g00285/impl"
)

// The words of chapter 7, by other means than the program's.

// usageByWords measures one long text of all that counts.
func usageByWords(x impl.Tab) int {
	all := strings.Builder{}
	for _, y := range x.Inodes {
		all.WriteString(strings.Repeat(".", 32))
		all.Write(y.Data)
		for _, a := range y.Attrs {
			all.WriteString(a.Name + a.Val)
		}
	}
	return all.Len()
}

// aheadByWords says whether a comes ahead of b: byte by byte, a beginning ahead of what goes on.
func aheadByWords(a, b string) bool {
	for i := 0; i < len(a) && i < len(b); i++ {
		if a[i] != b[i] {
			return a[i] < b[i]
		}
	}
	return len(a) < len(b)
}

// pathsInOrder puts each path of a tree, but `/`, ahead of the first that it comes ahead of.
func pathsInOrder(x impl.Tab) []string {
	if !treeByWords(x) {
		return nil
	}
	l := []string{}
	for _, path := range pathsByWords(x)[1:] {
		place := slices.IndexFunc(l, func(s string) bool { return aheadByWords(path, s) })
		if place < 0 {
			place = len(l)
		}
		l = slices.Insert(l, place, path)
	}
	return l
}

// flatInode is what stands at a path; a file that several paths lead to stands once.
type flatInode struct {
	ino, kind int
	data      string
	attrs     map[string]string
}

// flatTree is a tree without its directories' lists: each path, `/` among them, and what stands there.
type flatTree struct {
	at   map[string]*flatInode
	next int
}

// flatOf asks the program what a tree's paths are, and what stands at each.
func flatOf(t *testing.T, x impl.Tab) flatTree {
	t.Helper()
	g, met := flatTree{map[string]*flatInode{}, x.Next}, map[int]*flatInode{}
	for _, path := range append(impl.PathsOf(x), "/") {
		y, code := impl.Stat(x, path)
		if code != impl.FsGood {
			t.Fatalf("Stat of %s, which is one of the paths: the code %d, of %s", path, code, toldTab(x))
		}
		if met[y.Ino] == nil {
			met[y.Ino] = &flatInode{y.Ino, y.Kind, string(y.Data), map[string]string{}}
			for _, a := range y.Attrs {
				met[y.Ino].attrs[a.Name] = a.Val
			}
		}
		g.at[path] = met[y.Ino]
	}
	return g
}

// linksTo is how many paths lead to what stands at a path; none counts to `/`.
func (g flatTree) linksTo(path string) int {
	n := 0
	for other, y := range g.at {
		if y == g.at[path] && other != "/" {
			n++
		}
	}
	return n
}

// told tells all of it, path by path.
func (g flatTree) told() string {
	s := fmt.Sprint("next ", g.next)
	for _, path := range slices.Sorted(maps.Keys(g.at)) {
		y := g.at[path]
		s += fmt.Sprintf("\n%s %d %d %d %q %q", path, y.ino, y.kind, g.linksTo(path), y.data, y.attrs)
	}
	return s
}

// usage counts what stands at several paths once.
func (g flatTree) usage() int {
	n, met := 0, map[*flatInode]int{}
	for _, y := range g.at {
		met[y]++
		if met[y] > 1 {
			continue
		}
		n += 32 + len(y.data)
		for name, val := range y.attrs {
			n += len(name) + len(val)
		}
	}
	return n
}

// do does a change that is not refused, as chapter 6 says it of paths.
func (g *flatTree) do(a asked) {
	switch a.call {
	case "MakeDir":
		g.at[a.path] = &flatInode{g.next, impl.InDir, "", map[string]string{}}
		g.next++
	case "MakeFile":
		g.at[a.path] = &flatInode{g.next, impl.InFile, "", map[string]string{}}
		g.next++
	case "WriteAt":
		was := g.at[a.path].data
		ahead := (was + strings.Repeat("\x00", 100))[:a.n]
		g.at[a.path].data = ahead + a.data + was[min(len(was), a.n+len(a.data)):]
	case "Truncate":
		g.at[a.path].data = (g.at[a.path].data + strings.Repeat("\x00", 100))[:a.n]
	case "Unlink", "RemoveDir":
		delete(g.at, a.path)
	case "HardLink":
		g.at[a.to] = g.at[a.path]
	case "Rename":
		for _, path := range slices.Collect(maps.Keys(g.at)) {
			if behind, within := strings.CutPrefix(path+"/", a.path+"/"); within {
				g.at[strings.TrimSuffix(a.to+"/"+behind, "/")] = g.at[path]
				delete(g.at, path)
			}
		}
	case "SetAttr":
		g.at[a.path].attrs[a.attr.Name] = a.attr.Val
		if a.attr.Val == "" {
			delete(g.at[a.path].attrs, a.attr.Name)
		}
	default:
		panic("no such call: " + a.call)
	}
}
