package tests

import (
	"bytes"
	"math"
	"slices"
	"strconv"
	"strings"
	"testing"

	"loop.example/g00285/impl"
)

var (
	_ func(impl.Inode) bool             = impl.InodeOk
	_ func(impl.Inode, string) int      = impl.EntOf
	_ func(impl.Inode) []byte           = impl.PutInode
	_ func([]byte) (impl.Inode, bool)   = impl.GetInode
	_ func(impl.Inode, impl.Inode) bool = impl.SameInode
)

func TestInodeConstants(t *testing.T) {
	if impl.InFile != 1 || impl.InDir != 2 {
		t.Error("kinds", impl.InFile, impl.InDir)
	}
	if impl.MaxData != 100 || impl.MaxEnts != 10 || impl.MaxAttrs != 4 {
		t.Error("limits", impl.MaxData, impl.MaxEnts, impl.MaxAttrs)
	}
}

func ent(name string, ino int) impl.Ent { return impl.Ent{Name: name, Ino: ino} }

func attr(name, val string) impl.Attr { return impl.Attr{Name: name, Val: val} }

func file(ino, links int, data string, attrs ...impl.Attr) impl.Inode {
	return impl.Inode{Ino: ino, Kind: 1, Links: links, Data: []byte(data), Attrs: attrs}
}

func dir(ino, links int, ents ...impl.Ent) impl.Inode {
	return impl.Inode{Ino: ino, Kind: 2, Links: links, Ents: ents}
}

// entsOf are n entries whose names ascend.
func entsOf(n int) []impl.Ent {
	l := []impl.Ent{}
	for i := range n {
		l = append(l, ent("e"+string(rune('a'+i)), 2+i))
	}
	return l
}

// attrsOf are n attributes whose names ascend.
func attrsOf(n int) []impl.Attr {
	l := []impl.Attr{}
	for i := range n {
		l = append(l, attr("t"+string(rune('a'+i)), strings.Repeat("v", i)))
	}
	return l
}

func withAttrs(x impl.Inode, l ...impl.Attr) impl.Inode {
	x.Attrs = l
	return x
}

func rightInodes() []impl.Inode {
	allBytes := make([]byte, 100)
	for i := range allBytes {
		allBytes[i] = byte(255 - i*5)
	}
	longest := []impl.Ent{}
	for i := range 10 {
		longest = append(longest, ent("fourteenbytes"+string(rune('a'+i)), 1000))
	}
	widest := []impl.Attr{}
	for i := range 4 {
		widest = append(widest, attr("fourteenbytes"+string(rune('a'+i)), "\x00\xffsixteen\x80bytes"))
	}
	return []impl.Inode{
		file(2, 1, ""), file(2, 1, "x"), file(2, 1, "hi", attr("a", "v")), file(5, 3, "some data", attr("a", ""), attr("b", "x")),
		file(1, 0, ""), file(1, 0, "data", attr("a", "b")), file(1000, 1, "x"), file(1000, 1000, "x"), file(2, 1000, ""), file(127, 127, ""), file(128, 128, "\x00"), file(999, 999, "\x80\x00"),
		file(2, 1, string(allBytes)), file(2, 1, string(allBytes[:99])), file(1000, 1000, string(allBytes), widest...), file(3, 2, "", attrsOf(4)...), file(3, 2, "", attr("z", "sixteen bytes ..")),
		dir(1, 0), dir(1, 0, ent("a", 5), ent("b", 2)), dir(2, 1), dir(1000, 1), dir(7, 1, ent("a", 2)), dir(7, 1, ent("a", 1000)), dir(7, 1, ent("a", 2), ent("b", 1000)),
		dir(7, 1, ent("a", 7)), dir(7, 1, ent("a", 3), ent("b", 3)), dir(2, 1, entsOf(9)...), dir(2, 1, entsOf(10)...), dir(1000, 1, longest...),
		withAttrs(dir(1, 0), attr("a", "1")), withAttrs(dir(1000, 1, longest...), widest...), withAttrs(dir(3, 1, entsOf(10)...), attrsOf(4)...),
		dir(7, 1, ent("-", 2), ent("...", 3), ent(".a", 2), ent("0", 3), ent("9", 4), ent("_", 2), ent("a", 2), ent("a-", 2), ent("aa", 2), ent("b", 2)),
		file(7, 1, "", attr("a", "same"), attr("a.", "same"), attr("aa", ""), attr("b", "\xff")),
	}
}

func wrongInodes() []impl.Inode {
	l := []impl.Inode{{}}
	for _, ino := range []int{math.MinInt, -1, 0, 1001, 1 << 32, math.MaxInt} {
		l = append(l, file(ino, 1, ""), dir(ino, 1), file(ino, 0, ""), dir(ino, 0))
	}
	for _, kind := range []int{math.MinInt, -1, 0, 3, 4, 257, math.MaxInt} {
		l = append(l, impl.Inode{Ino: 2, Kind: kind, Links: 1}, impl.Inode{Ino: 1, Kind: kind})
	}
	for _, links := range []int{math.MinInt, -1, 1001, 1 << 32, math.MaxInt} {
		l = append(l, file(2, links, ""), dir(2, links), file(1, links, ""), dir(1, links))
	}
	l = append(l,
		file(2, 0, ""), dir(2, 0), file(1000, 0, ""), dir(1000, 0),
		file(1, 1, ""), dir(1, 1), file(1, 2, ""), file(1, 1000, ""), dir(1, 1000), dir(2, 2), dir(2, 1000),
		impl.Inode{Ino: 2, Kind: 2, Links: 1, Data: []byte{0}}, impl.Inode{Ino: 1, Kind: 2, Data: []byte("data")}, impl.Inode{Ino: 2, Kind: 2, Links: 1, Data: []byte("x"), Ents: entsOf(1)},
		impl.Inode{Ino: 2, Kind: 1, Links: 1, Ents: entsOf(1)}, impl.Inode{Ino: 2, Kind: 1, Links: 1, Data: []byte("x"), Ents: entsOf(2)}, impl.Inode{Ino: 1, Kind: 1, Ents: entsOf(1)},
		file(2, 1, strings.Repeat("x", 101)), file(2, 1, strings.Repeat("x", 100000)), dir(2, 1, entsOf(11)...), dir(2, 1, entsOf(20)...),
		file(2, 1, "", attrsOf(5)...), withAttrs(dir(2, 1), attrsOf(5)...), file(2, 1, "", attr("a", strings.Repeat("v", 17))), withAttrs(dir(2, 1), attr("a", "x"), attr("b", strings.Repeat("v", 300))),
		dir(2, 1, ent("b", 2), ent("a", 3)), dir(2, 1, ent("a", 2), ent("a", 2)), dir(2, 1, ent("a", 2), ent("a", 3)), dir(2, 1, ent("aa", 2), ent("a", 3)),
		dir(2, 1, ent("a", 2), ent("b", 3), ent("b", 4)), dir(2, 1, ent("a", 2), ent("c", 3), ent("b", 4)), dir(2, 1, ent("b", 2), ent("a", 3), ent("c", 4)), dir(2, 1, ent("a", 2), ent("_", 3)),
		file(2, 1, "", attr("b", ""), attr("a", "")), file(2, 1, "", attr("a", ""), attr("a", "")), file(2, 1, "", attr("a", "x"), attr("a", "y")), file(2, 1, "", attr("aa", ""), attr("a", "")),
		file(2, 1, "", attr("a", ""), attr("b", ""), attr("b", "")), file(2, 1, "", attr("a", ""), attr("c", ""), attr("b", "")), withAttrs(dir(2, 1), attr("b", ""), attr("a", ""), attr("c", "")),
	)
	for _, ino := range []int{math.MinInt, -1, 0, 1, 1001, math.MaxInt} {
		l = append(l, dir(2, 1, ent("a", ino)), dir(2, 1, ent("a", 2), ent("b", ino)), dir(1, 0, ent("a", ino), ent("b", 3)))
	}
	for _, name := range wrongNames() {
		l = append(l, dir(2, 1, ent(name, 2)), file(2, 1, "", attr(name, "v")), withAttrs(dir(1, 0), attr(name, "")))
	}
	return l
}

func TestInodesThatAreAndThatAreNone(t *testing.T) {
	for i, x := range rightInodes() {
		if !impl.InodeOk(x) {
			t.Errorf("right inode %d is none: %s", i, told(x))
		}
	}
	for i, x := range wrongInodes() {
		if impl.InodeOk(x) {
			t.Errorf("wrong inode %d is one: %s", i, told(x))
		}
		if b := impl.PutInode(x); len(b) != 0 {
			t.Errorf("of wrong inode %d is put %x", i, b)
		}
	}
}

func TestInodesOfEveryNumberKindAndLinks(t *testing.T) {
	numbers := []int{-1, 0, 1, 2, 3, 500, 999, 1000, 1001}
	for _, ino := range numbers {
		for _, links := range numbers {
			for kind := -1; kind < 5; kind++ {
				want := ino == 1 && links == 0 || ino > 1 && ino <= 1000 && links == 1 || ino > 1 && ino <= 1000 && links > 1 && links <= 1000 && kind == 1
				want = want && (kind == 1 || kind == 2)
				if impl.InodeOk(impl.Inode{Ino: ino, Kind: kind, Links: links}) != want {
					t.Errorf("number %d, kind %d, links %d: %v", ino, kind, links, !want)
				}
			}
		}
	}
}

func TestInodesOfEveryCount(t *testing.T) {
	for n := range 300 {
		if impl.InodeOk(file(2, 1, strings.Repeat("d", n))) != (n <= 100) {
			t.Errorf("%d bytes", n)
		}
		if impl.InodeOk(file(2, 1, "", attr("a", strings.Repeat("v", n)))) != (n <= 16) {
			t.Errorf("an attribute of %d bytes", n)
		}
	}
	for n := range 20 {
		if impl.InodeOk(dir(2, 1, entsOf(n)...)) != (n <= 10) {
			t.Errorf("%d entries", n)
		}
		if impl.InodeOk(file(2, 1, "", attrsOf(n)...)) != (n <= 4) || impl.InodeOk(withAttrs(dir(1, 0), attrsOf(n)...)) != (n <= 4) {
			t.Errorf("%d attributes", n)
		}
	}
}

func TestInodesOfEveryOrder(t *testing.T) {
	names := []string{"-", ".a", "0", "_", "a", "a-", "aa", "ab", "b", "ba"}
	for _, a := range names {
		for _, b := range names {
			for _, c := range names {
				want := a < b && b < c
				if impl.InodeOk(dir(2, 1, ent(a, 9), ent(b, 3), ent(c, 6))) != want {
					t.Errorf("entries %s, %s, %s: %v", a, b, c, !want)
				}
				if impl.InodeOk(file(2, 1, "", attr(a, "z"), attr(b, "x"), attr(c, "y"))) != want {
					t.Errorf("attributes %s, %s, %s: %v", a, b, c, !want)
				}
			}
		}
	}
}

func TestKnownInodes(t *testing.T) {
	for _, k := range []struct {
		x    impl.Inode
		form string
	}{
		{dir(1, 0), "\x01\x02\x00\x00\x00\x00"},
		{file(2, 1, "hi", attr("a", "v")), "\x02\x01\x01\x02hi\x00\x01\x01a\x01v"},
		{dir(1, 0, ent("a", 5), ent("b", 2)), "\x01\x02\x00\x00\x02\x01a\x05\x01b\x02\x00"},
		{file(1000, 300, "\x00\x80"), "\xe8\x07\x01\xac\x02\x02\x00\x80\x00\x00"},
		{withAttrs(dir(128, 1, ent("x.y", 1000)), attr("a", ""), attr("b-", "12")), "\x80\x01\x02\x01\x00\x01\x03x.y\xe8\x07\x02\x01a\x00\x02b-\x0212"},
	} {
		if b := impl.PutInode(k.x); string(b) != k.form {
			t.Errorf("PutInode of %s: %x", told(k.x), b)
		}
		if x, ok := impl.GetInode([]byte(k.form)); !ok || told(x) != told(k.x) {
			t.Errorf("GetInode of %x: %s, %v", k.form, told(x), ok)
		}
	}
}

func TestInodesComeBack(t *testing.T) {
	for i, x := range rightInodes() {
		b := impl.PutInode(x)
		if string(b) != formOf(x) {
			t.Errorf("PutInode of right inode %d: %x", i, b)
		}
		back, ok := impl.GetInode(b)
		if !ok || told(back) != told(x) || !impl.SameInode(back, x) || !impl.SameInode(x, back) {
			t.Errorf("right inode %d comes back as %s, %v", i, told(back), ok)
		}
		if again := impl.PutInode(back); !bytes.Equal(again, b) {
			t.Errorf("right inode %d is put anew as %x", i, again)
		}
	}
}

// told tells all parts of an inode; an empty list as nil.
func told(x impl.Inode) string {
	s := strconv.Itoa(x.Ino) + " " + strconv.Itoa(x.Kind) + " " + strconv.Itoa(x.Links) + " " + strconv.Quote(string(x.Data))
	for _, e := range x.Ents {
		s += " e" + strconv.Quote(e.Name) + strconv.Itoa(e.Ino)
	}
	for _, a := range x.Attrs {
		s += " a" + strconv.Quote(a.Name) + strconv.Quote(a.Val)
	}
	return s
}

func numForm(n int) string {
	if n < 128 {
		return string([]byte{byte(n)})
	}
	return string([]byte{byte(n&127 | 128)}) + numForm(n>>7)
}

func textForm(s string) string { return numForm(len(s)) + s }

// formOf writes an inode's bytes by the document's words, be it right or not.
func formOf(x impl.Inode) string {
	s := numForm(x.Ino) + numForm(x.Kind) + numForm(x.Links) + textForm(string(x.Data)) + numForm(len(x.Ents))
	for _, e := range x.Ents {
		s += textForm(e.Name) + numForm(e.Ino)
	}
	s += numForm(len(x.Attrs))
	for _, a := range x.Attrs {
		s += textForm(a.Name) + textForm(a.Val)
	}
	return s
}

// cutNum and cutText read by the document's words, and answer what is behind.
func cutNum(s string) (int, string, bool) {
	for k := 1; k <= min(3, len(s)); k++ {
		if n, ok := numOfForm([]byte(s[:k])); ok {
			return n, s[k:], true
		}
	}
	return 0, "", false
}

func cutText(s string) (string, string, bool) {
	n, rest, ok := cutNum(s)
	if !ok || n > len(rest) {
		return "", "", false
	}
	return rest[:n], rest[n:], true
}

// inodeOfForm reads an inode by the document's words, each step asked for.
func inodeOfForm(s string) (impl.Inode, bool) {
	var x impl.Inode
	var n int
	var data string
	var ok bool
	for _, part := range []*int{&x.Ino, &x.Kind, &x.Links} {
		if *part, s, ok = cutNum(s); !ok {
			return impl.Inode{}, false
		}
	}
	if data, s, ok = cutText(s); !ok {
		return impl.Inode{}, false
	}
	x.Data = []byte(data)
	if n, s, ok = cutNum(s); !ok {
		return impl.Inode{}, false
	}
	for range n {
		var e impl.Ent
		if e.Name, s, ok = cutText(s); !ok {
			return impl.Inode{}, false
		}
		if e.Ino, s, ok = cutNum(s); !ok {
			return impl.Inode{}, false
		}
		x.Ents = append(x.Ents, e)
	}
	if n, s, ok = cutNum(s); !ok {
		return impl.Inode{}, false
	}
	for range n {
		var a impl.Attr
		if a.Name, s, ok = cutText(s); !ok {
			return impl.Inode{}, false
		}
		if a.Val, s, ok = cutText(s); !ok {
			return impl.Inode{}, false
		}
		x.Attrs = append(x.Attrs, a)
	}
	if s != "" || !inodeByWords(x) {
		return impl.Inode{}, false
	}
	return x, true
}

// inodeByWords asks what the chapter tells of an inode, by other means than the program's.
func inodeByWords(x impl.Inode) bool {
	names := []string{}
	for _, e := range x.Ents {
		names = append(names, e.Name)
		if e.Ino < 2 || e.Ino > 1000 {
			return false
		}
	}
	keys := []string{}
	for _, a := range x.Attrs {
		keys = append(keys, a.Name)
		if len(a.Val) > 16 {
			return false
		}
	}
	for _, l := range [][]string{names, keys} {
		sorted := slices.Compact(slices.Sorted(slices.Values(l)))
		if !slices.Equal(l, sorted) || slices.ContainsFunc(l, func(s string) bool { return !nameByForm(s) }) {
			return false
		}
	}
	if len(x.Data) > 100 || len(names) > 10 || len(keys) > 4 || x.Ino < 1 || x.Ino > 1000 || x.Links < 0 || x.Links > 1000 || (x.Ino == 1) != (x.Links == 0) {
		return false
	}
	return x.Kind == 1 && len(names) == 0 || x.Kind == 2 && len(x.Data) == 0 && x.Links < 2
}

func TestTheWordsAgree(t *testing.T) {
	for i, x := range rightInodes() {
		if back, ok := inodeOfForm(formOf(x)); !ok || told(back) != told(x) {
			t.Errorf("right inode %d", i)
		}
	}
	for i, x := range wrongInodes() {
		if inodeByWords(x) {
			t.Errorf("wrong inode %d", i)
		}
	}
}

func checkGetInode(t *testing.T, s string) {
	t.Helper()
	want, right := inodeOfForm(s)
	if x, ok := impl.GetInode([]byte(s)); ok != right || told(x) != told(want) {
		t.Errorf("GetInode of %x: %s, %v", s, told(x), ok)
	}
}

func refusedInode(t *testing.T, b []byte) {
	t.Helper()
	x, ok := impl.GetInode(b)
	if ok || told(x) != told(impl.Inode{}) {
		t.Errorf("GetInode of %x: %s, %v", b, told(x), ok)
	}
}

func TestNoInodeOfNoBytes(t *testing.T) {
	refusedInode(t, nil)
	refusedInode(t, []byte{})
}

func TestNoInodeOfBytesThatAreCut(t *testing.T) {
	for _, x := range rightInodes() {
		b := impl.PutInode(x)
		for k := range b {
			refusedInode(t, b[:k:k])
			refusedInode(t, b[:k])
			if k > 0 {
				checkGetInode(t, string(b[k:]))
			}
		}
	}
}

func TestNoInodeWithMoreBehind(t *testing.T) {
	for _, x := range rightInodes() {
		b := impl.PutInode(x)
		for _, more := range []string{"\x00", "\x01", "\x80", "\xff", "\x01a\x01b", string(b)} {
			refusedInode(t, append(slices.Clone(b), more...))
		}
	}
}

func TestNoInodeOfWhatIsNotRight(t *testing.T) {
	for _, x := range wrongInodes() {
		if x.Ino < 0 || x.Kind < 0 || x.Links < 0 || slices.ContainsFunc(x.Ents, func(e impl.Ent) bool { return e.Ino < 0 }) {
			continue
		}
		refusedInode(t, []byte(formOf(x)))
	}
}

func TestNoInodeOfOtherForms(t *testing.T) {
	for _, s := range []string{
		"\x82\x00\x01\x01\x00\x00\x00", "\x02\x81\x00\x01\x00\x00\x00", "\x02\x01\x81\x00\x00\x00\x00", "\x02\x01\x01\x80\x00\x00\x00",
		"\x02\x01\x01\x00\x80\x00\x00", "\x02\x01\x01\x00\x00\x80\x00", "\x02\x01\x01\x81\x00x\x00\x00", "\x02\x02\x01\x00\x01\x01a\x82\x00\x00",
		"\x02\x01\x01\x00\x00\x01\x81\x00a\x00", "\x02\x01\x01\x00\x00\x01\x01a\x80\x00", "\x82\x80\x00\x01\x01\x00\x00\x00",
		"\x02\x01\x01\x00\x00\xc0\x84\x3d", "\x02\x02\x01\x00\xc0\x84\x3d\x00", "\x02\x01\x01\xc0\x84\x3d\x00\x00", "\xc0\x84\x3d\x01\x01\x00\x00\x00",
		"\x02\x01\x01\x00\x00\x01", "\x02\x02\x01\x00\x01", "\x02\x01\x01\x00\x00\x02\x01a\x00", "\x02\x02\x01\x00\x02\x01a\x02\x00",
	} {
		refusedInode(t, []byte(s))
	}
	if _, ok := impl.GetInode([]byte("\x02\x01\x01\x00\x00\x00")); !ok {
		t.Error("what the forms above turn is none itself")
	}
}

func TestInodesOfEveryTurnedByte(t *testing.T) {
	for _, x := range rightInodes() {
		s := formOf(x)
		for i := range len(s) {
			for c := range 256 {
				turned := s[:i] + string([]byte{byte(c)}) + s[i+1:]
				checkGetInode(t, turned)
			}
			checkGetInode(t, s[:i]+s[i+1:])
			for _, more := range []string{"\x00", "\x01", "a", "\x80"} {
				checkGetInode(t, s[:i]+more+s[i:])
			}
		}
	}
}

func TestInodesOfEveryShortBytes(t *testing.T) {
	right := 0
	everyText("\x00\x01\x02a", 9, func(s string) {
		checkGetInode(t, s)
		if _, ok := inodeOfForm(s); ok {
			right++
		}
	})
	everyText("\x00\x01\x02\x03\x80ab", 6, func(s string) { checkGetInode(t, "\x02"+s) })
	everyText("\x00\x01\x02ab", 8, func(s string) { checkGetInode(t, "\x02\x02\x01\x00"+s) })
	if right < 20 {
		t.Error("too few of them are right:", right)
	}
}

func TestEntOf(t *testing.T) {
	x := dir(1, 0, ent("a", 5), ent("aa", 7), ent("b", 2), ent("fourteenbytesx", 1000))
	for name, want := range map[string]int{"a": 5, "aa": 7, "b": 2, "fourteenbytesx": 1000, "": 0, "c": 0, "A": 0, "ab": 0, "a ": 0, "fourteenbytes": 0, ".": 0, "..": 0, "/a": 0} {
		if n := impl.EntOf(x, name); n != want {
			t.Errorf("EntOf of %q: %d", name, n)
		}
	}
	if impl.EntOf(impl.Inode{}, "a") != 0 || impl.EntOf(dir(2, 1), "") != 0 || impl.EntOf(file(2, 1, "a", attr("a", "5")), "a") != 0 {
		t.Error("of nothing something is found")
	}
}

func TestEntOfTheFirst(t *testing.T) {
	for _, x := range []impl.Inode{
		dir(1, 0, ent("a", 5), ent("a", 6)),
		dir(1, 0, ent("b", 2), ent("a", 5), ent("a", 6), ent("a", 7)),
		{Kind: impl.InFile, Ents: []impl.Ent{ent("z", 1), ent("a", 5), ent("b", 2), ent("a", 6)}},
	} {
		if n := impl.EntOf(x, "a"); n != 5 {
			t.Errorf("of %s %d", told(x), n)
		}
	}
	odd := impl.Inode{Ents: []impl.Ent{ent("", 3), ent("NO NAME", -4), ent("a", 0), ent("a", 9)}}
	if impl.EntOf(odd, "") != 3 || impl.EntOf(odd, "NO NAME") != -4 || impl.EntOf(odd, "a") != 0 {
		t.Error("of what is not right")
	}
}

// turns are inodes that each have one part other than x.
func turns(x impl.Inode) []impl.Inode {
	l := []impl.Inode{x, x, x, x, x, x, x, x, x, x, x, x, x, x}
	l[0].Ino++
	l[1].Kind = 3 - x.Kind
	l[2].Links++
	l[3].Data = append(slices.Clone(x.Data), 0)
	l[4].Data = slices.Clone(x.Data)
	l[4].Data[len(x.Data)-1] ^= 0x80
	l[5].Data = x.Data[:len(x.Data)-1]
	for i := 6; i < 10; i++ {
		l[i].Ents = slices.Clone(x.Ents)
	}
	l[6].Ents[1].Name += "x"
	l[7].Ents[0].Ino++
	l[8].Ents = append(l[8].Ents, ent("z", 9))
	l[9].Ents = l[9].Ents[:1]
	for i := 10; i < 14; i++ {
		l[i].Attrs = slices.Clone(x.Attrs)
	}
	l[10].Attrs[1].Name += "x"
	l[11].Attrs[0].Val += "x"
	l[12].Attrs = append(l[12].Attrs, attr("z", ""))
	l[13].Attrs = l[13].Attrs[:1]
	swapped := x
	swapped.Ents = []impl.Ent{x.Ents[1], x.Ents[0]}
	l = append(l, swapped)
	swapped = x
	swapped.Attrs = []impl.Attr{x.Attrs[1], x.Attrs[0]}
	l = append(l, swapped)
	bare := x
	bare.Data = nil
	l = append(l, bare)
	bare = x
	bare.Ents = nil
	l = append(l, bare)
	bare = x
	bare.Attrs = nil
	return append(l, bare)
}

func TestSameInodeTurnsWithEachPart(t *testing.T) {
	for _, x := range []impl.Inode{
		{Ino: 5, Kind: impl.InFile, Links: 2, Data: []byte("data"), Ents: entsOf(2), Attrs: attrsOf(2)},
		{Ino: -5, Kind: impl.InDir, Links: 0, Data: []byte{0}, Ents: []impl.Ent{ent("b", -2), ent("a", 0)}, Attrs: []impl.Attr{attr("", ""), attr("A", "v")}},
	} {
		if !impl.SameInode(x, x) || impl.SameInode(x, impl.Inode{}) || impl.SameInode(impl.Inode{}, x) {
			t.Errorf("of %s itself, or the zero one", told(x))
		}
		for i, y := range turns(x) {
			if impl.SameInode(x, y) || impl.SameInode(y, x) {
				t.Errorf("turn %d: %s is the same as %s", i, told(x), told(y))
			}
		}
	}
}

func TestSameInodeOfEachTwo(t *testing.T) {
	l := append(rightInodes(), wrongInodes()...)
	for i, x := range l {
		for k, y := range l {
			if impl.SameInode(x, y) != (told(x) == told(y)) {
				t.Errorf("the inodes %d and %d: %s, %s", i, k, told(x), told(y))
			}
		}
	}
}

func TestAnEmptyListIsNil(t *testing.T) {
	bare := impl.Inode{Ino: 2, Kind: impl.InFile, Links: 1}
	full := impl.Inode{Ino: 2, Kind: impl.InFile, Links: 1, Data: []byte{}, Ents: []impl.Ent{}, Attrs: []impl.Attr{}}
	roomy := impl.Inode{Ino: 2, Kind: impl.InFile, Links: 1, Data: []byte("room")[:0], Ents: entsOf(3)[:0], Attrs: attrsOf(3)[:0]}
	l := []impl.Inode{bare, full, roomy}
	for _, x := range l {
		for _, y := range l {
			if !impl.SameInode(x, y) {
				t.Error("an empty list is not nil")
			}
		}
		if !impl.InodeOk(x) || string(impl.PutInode(x)) != "\x02\x01\x01\x00\x00\x00" {
			t.Error("an empty list is not right")
		}
	}
	if !impl.SameInode(impl.Inode{}, impl.Inode{Data: []byte{}, Ents: []impl.Ent{}, Attrs: []impl.Attr{}}) {
		t.Error("the zero one with empty lists")
	}
}
