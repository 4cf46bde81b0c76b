package tests

import (
	"bytes"
	"fmt"
	"maps"
	"slices"
	"strings"

	"loop.example/g00285/impl"
)

// asked is a change that is asked for: its call, and what that takes.
type asked struct {
	call     string
	path, to string
	n        int
	data     string
	attr     impl.Attr
}

func askDir(path string) asked  { return asked{call: "MakeDir", path: path} }
func askFile(path string) asked { return asked{call: "MakeFile", path: path} }
func askWrite(path string, off int, data string) asked {
	return asked{call: "WriteAt", path: path, n: off, data: data}
}
func askCut(path string, n int) asked { return asked{call: "Truncate", path: path, n: n} }
func askUnlink(path string) asked     { return asked{call: "Unlink", path: path} }
func askRmdir(path string) asked      { return asked{call: "RemoveDir", path: path} }
func askLink(path, to string) asked   { return asked{call: "HardLink", path: path, to: to} }
func askMove(path, to string) asked   { return asked{call: "Rename", path: path, to: to} }
func askAttr(path, name, val string) asked {
	return asked{call: "SetAttr", path: path, attr: attr(name, val)}
}

func (a asked) String() string {
	return fmt.Sprintf("%s of %q, %q, %d, %q, %q", a.call, a.path, a.to, a.n, a.data, a.attr)
}

// of asks the program.
func (a asked) of(x impl.Tab) (impl.Tab, int) {
	switch a.call {
	case "MakeDir":
		return impl.MakeDir(x, a.path)
	case "MakeFile":
		return impl.MakeFile(x, a.path)
	case "WriteAt":
		return impl.WriteAt(x, a.path, a.n, []byte(a.data))
	case "Truncate":
		return impl.Truncate(x, a.path, a.n)
	case "Unlink":
		return impl.Unlink(x, a.path)
	case "RemoveDir":
		return impl.RemoveDir(x, a.path)
	case "HardLink":
		return impl.HardLink(x, a.path, a.to)
	case "Rename":
		return impl.Rename(x, a.path, a.to)
	case "SetAttr":
		return impl.SetAttr(x, a.path, a.attr.Name, a.attr.Val)
	}
	panic("no such call: " + a.call)
}

// The words of chapters 6 and 7, by other means than the program's: a table is grown to a tree of pointers, in which
// a file that several entries lead to stands once, and told as a table again.

type grownInode struct {
	ino, kind int
	data      []byte
	attrs     map[string]string
	within    map[string]*grownInode
}

type grownTab struct {
	root *grownInode
	next int
}

func grown(x impl.Tab) grownTab {
	all := map[int]*grownInode{}
	for _, y := range x.Inodes {
		g := &grownInode{ino: y.Ino, kind: y.Kind, data: bytes.Clone(y.Data), attrs: map[string]string{}, within: map[string]*grownInode{}}
		for _, a := range y.Attrs {
			g.attrs[a.Name] = a.Val
		}
		all[y.Ino] = g
	}
	for _, y := range x.Inodes {
		for _, e := range y.Ents {
			all[y.Ino].within[e.Name] = all[e.Ino]
		}
	}
	return grownTab{all[1], x.Next}
}

// table tells what can be reached alone, each with as many Links as it was met.
func (g grownTab) table() impl.Tab {
	met := map[int]impl.Inode{}
	var meet func(at *grownInode) int
	meet = func(at *grownInode) int {
		y := impl.Inode{Ino: at.ino, Kind: at.kind, Links: met[at.ino].Links + 1, Data: at.data}
		for _, name := range slices.Sorted(maps.Keys(at.attrs)) {
			y.Attrs = append(y.Attrs, attr(name, at.attrs[name]))
		}
		for _, name := range slices.Sorted(maps.Keys(at.within)) {
			y.Ents = append(y.Ents, ent(name, meet(at.within[name])))
		}
		met[at.ino] = y
		return at.ino
	}
	meet(g.root)
	x := impl.Tab{Next: g.next}
	for _, ino := range slices.Sorted(maps.Keys(met)) {
		x.Inodes = append(x.Inodes, met[ino])
	}
	x.Inodes[0].Links = 0
	return x
}

func (g grownTab) walk(path string) (*grownInode, int) {
	at := g.root
	for _, name := range strings.Split(path, "/") {
		switch {
		case name == "":
		case at.kind == 1:
			return nil, 3
		case at.within[name] == nil:
			return nil, 2
		default:
			at = at.within[name]
		}
	}
	return at, 0
}

// pathsByWords are the paths of all that is in a tree, `/` among them.
func pathsByWords(x impl.Tab) []string {
	l := []string{"/"}
	var meet func(at *grownInode, path string)
	meet = func(at *grownInode, path string) {
		for _, name := range slices.Sorted(maps.Keys(at.within)) {
			l = append(l, path+"/"+name)
			meet(at.within[name], path+"/"+name)
		}
	}
	meet(grown(x).root, "")
	return l
}

func lastName(path string) string { return path[strings.LastIndex(path, "/")+1:] }

// above is where the last name stands, or may come to stand.
func (g grownTab) above(path string) (*grownInode, int) {
	return g.walk(path[:strings.LastIndex(path, "/")+1])
}

// spare is where path may come to stand: FsKind, FsThere.
func (g grownTab) spare(path string) (*grownInode, int) {
	at, code := g.above(path)
	if code != 0 {
		return nil, code
	}
	if at.kind == 1 {
		return nil, 3
	}
	if at.within[lastName(path)] != nil {
		return nil, 4
	}
	return at, 0
}

func (g *grownTab) make(a asked, kind int) int {
	if a.path == "/" {
		return 1
	}
	at, code := g.spare(a.path)
	if code != 0 {
		return code
	}
	if len(at.within) == 10 || len(g.table().Inodes) == 30 || g.next == 1000 {
		return 5
	}
	at.within[lastName(a.path)] = &grownInode{ino: g.next, kind: kind, attrs: map[string]string{}, within: map[string]*grownInode{}}
	g.next++
	return 0
}

func (g grownTab) write(a asked) int {
	if a.n < 0 || a.n > 100 {
		return 1
	}
	at, code := g.walk(a.path)
	if code != 0 {
		return code
	}
	if at.kind == 2 {
		return 3
	}
	if a.n+len(a.data) > 100 {
		return 5
	}
	for len(at.data) < a.n {
		at.data = append(at.data, 0)
	}
	for i, c := range []byte(a.data) {
		at.data = slices.Concat(at.data[:a.n+i], []byte{c}, at.data[min(a.n+i+1, len(at.data)):])
	}
	return 0
}

func (g grownTab) cut(a asked) int {
	if a.n < 0 || a.n > 100 {
		return 1
	}
	at, code := g.walk(a.path)
	if code != 0 {
		return code
	}
	if at.kind == 2 {
		return 3
	}
	at.data = slices.Concat(at.data, make([]byte, 100))[:a.n]
	return 0
}

// remove takes away what is of this kind, and has nothing within it.
func (g grownTab) remove(a asked, kind int) int {
	if a.path == "/" {
		return 1
	}
	at, code := g.walk(a.path)
	if code != 0 {
		return code
	}
	if at.kind != kind {
		return 3
	}
	if len(at.within) > 0 {
		return 6
	}
	dir, _ := g.above(a.path)
	delete(dir.within, lastName(a.path))
	return 0
}

func (g grownTab) link(a asked) int {
	if a.to == "/" {
		return 1
	}
	at, code := g.walk(a.path)
	if code != 0 {
		return code
	}
	if at.kind == 2 {
		return 3
	}
	dir, code := g.spare(a.to)
	if code != 0 {
		return code
	}
	if len(dir.within) == 10 {
		return 5
	}
	dir.within[lastName(a.to)] = at
	return 0
}

func (g grownTab) move(a asked) int {
	if a.path == "/" || a.to == "/" {
		return 1
	}
	at, code := g.walk(a.path)
	if code != 0 {
		return code
	}
	if strings.HasPrefix(a.to+"/", a.path+"/") {
		return 6
	}
	dir, code := g.spare(a.to)
	if code != 0 {
		return code
	}
	from, _ := g.above(a.path)
	if len(dir.within) == 10 && dir != from {
		return 5
	}
	delete(from.within, lastName(a.path))
	dir.within[lastName(a.to)] = at
	return 0
}

func (g grownTab) setAttr(a asked) int {
	if !nameByForm(a.attr.Name) || len(a.attr.Val) > 16 {
		return 1
	}
	at, code := g.walk(a.path)
	if code != 0 {
		return code
	}
	if a.attr.Val == "" {
		delete(at.attrs, a.attr.Name)
		return 0
	}
	if _, there := at.attrs[a.attr.Name]; !there && len(at.attrs) == 4 {
		return 5
	}
	at.attrs[a.attr.Name] = a.attr.Val
	return 0
}

func (g *grownTab) do(a asked) int {
	switch a.call {
	case "MakeDir":
		return g.make(a, 2)
	case "MakeFile":
		return g.make(a, 1)
	case "WriteAt":
		return g.write(a)
	case "Truncate":
		return g.cut(a)
	case "Unlink":
		return g.remove(a, 1)
	case "RemoveDir":
		return g.remove(a, 2)
	case "HardLink":
		return g.link(a)
	case "Rename":
		return g.move(a)
	case "SetAttr":
		return g.setAttr(a)
	}
	panic("no such call: " + a.call)
}

// ofWords asks the words.
func (a asked) ofWords(x impl.Tab) (impl.Tab, int) {
	paths := []string{a.path}
	if a.call == "HardLink" || a.call == "Rename" {
		paths = append(paths, a.to)
	}
	for _, path := range paths {
		if _, ok := pathByForm(path); !ok || !treeByWords(x) {
			return x, 1
		}
	}
	g := grown(x)
	if code := g.do(a); code != 0 {
		return x, code
	}
	return g.table(), 0
}

// leadsByWords are the numbers that entries of directories lead to, as often as they do.
func leadsByWords(x impl.Tab) []int {
	l := []int{}
	for _, y := range x.Inodes {
		for i := 0; y.Kind == 2 && i < len(y.Ents); i++ {
			l = append(l, y.Ents[i].Ino)
		}
	}
	return l
}

func linksByWords(x impl.Tab, ino int) int {
	return len(slices.DeleteFunc(leadsByWords(x), func(n int) bool { return n != ino }))
}

// reachedByWords adds what the inodes that are found lead to, until there is nothing more.
func reachedByWords(x impl.Tab) []int {
	found, behind := []int{}, []int{1}
	for len(behind) > 0 {
		next := []int{}
		for _, ino := range behind {
			y, there := firstNumbered(x, ino)
			if !there || slices.Contains(found, ino) {
				continue
			}
			found = append(found, ino)
			next = append(next, leadsByWords(impl.Tab{Inodes: []impl.Inode{y}})...)
		}
		behind = next
	}
	slices.Sort(found)
	return found
}

func treeByWords(x impl.Tab) bool {
	if !tabByWords(x) || !slices.Equal(reachedByWords(x), numbersOf(x)) {
		return false
	}
	for _, y := range x.Inodes {
		if y.Links != linksByWords(x, y.Ino) {
			return false
		}
	}
	return !slices.ContainsFunc(leadsByWords(x), func(ino int) bool { return !slices.Contains(numbersOf(x), ino) })
}
