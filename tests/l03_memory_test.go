package tests

import (
	"bytes"
	"slices"
	"strings"
	"testing"

	"loop.example/g00285/impl"
)

// roomyInode answers x with its lists within longer ones, and all of that memory.
func roomyInode(x impl.Inode) (impl.Inode, impl.Inode) {
	whole := impl.Inode{
		Data:  append(slices.Clone(x.Data), bytes.Repeat([]byte{0xa5}, 200)...),
		Ents:  append(slices.Clone(x.Ents), slices.Repeat([]impl.Ent{ent("ROOM", -1)}, 20)...),
		Attrs: append(slices.Clone(x.Attrs), slices.Repeat([]impl.Attr{attr("ROOM", strings.Repeat("r", 20))}, 20)...),
	}
	in := x
	in.Data = whole.Data[:len(x.Data)]
	in.Ents = whole.Ents[:len(x.Ents)]
	in.Attrs = whole.Attrs[:len(x.Attrs)]
	return in, whole
}

func overwrite(x impl.Inode) {
	clear(x.Data[:cap(x.Data)])
	clear(x.Ents[:cap(x.Ents)])
	clear(x.Attrs[:cap(x.Attrs)])
}

func TestInodeCallsReadAndWriteNoSpareRoom(t *testing.T) {
	for i, x := range append(rightInodes(), wrongInodes()...) {
		in, whole := roomyInode(x)
		kept := told(whole)
		if impl.InodeOk(in) != impl.InodeOk(x) || !bytes.Equal(impl.PutInode(in), impl.PutInode(x)) {
			t.Errorf("inode %d: what lies behind its lists counts", i)
		}
		if !impl.SameInode(in, x) || !impl.SameInode(x, in) || impl.EntOf(in, "ROOM") != 0 {
			t.Errorf("inode %d: what lies behind its lists is read", i)
		}
		impl.EntOf(in, "ea")
		if told(whole) != kept || told(in) != told(x) {
			t.Errorf("inode %d: an argument, or what lies behind it, was written", i)
		}
	}
}

func TestPutInodeAnswersNewMemory(t *testing.T) {
	for i, x := range rightInodes() {
		in, whole := roomyInode(x)
		kept := told(whole)
		first, second := impl.PutInode(in), impl.PutInode(in)
		want := string(second)
		clear(first[:cap(first)])
		if told(whole) != kept {
			t.Errorf("inode %d: the answer shares memory with the argument", i)
		}
		if string(second) != want || string(impl.PutInode(in)) != want {
			t.Errorf("inode %d: two answers share memory", i)
		}
		overwrite(whole)
		if string(second) != want {
			t.Errorf("inode %d: the answer turns with the argument", i)
		}
	}
}

func TestGetInodeAnswersNewMemory(t *testing.T) {
	for i, x := range rightInodes() {
		put := []byte(formOf(x))
		whole := append(slices.Clone(put), bytes.Repeat([]byte{0xa5}, 100)...)
		b := whole[:len(put):len(whole)]
		kept := string(whole)
		first, _ := impl.GetInode(b)
		second, ok := impl.GetInode(b)
		if !ok || string(whole) != kept {
			t.Fatalf("inode %d: what lies behind is read, or something is written", i)
		}
		overwrite(first)
		if string(whole) != kept {
			t.Errorf("inode %d: the answer shares memory with the argument", i)
		}
		if told(second) != told(x) {
			t.Errorf("inode %d: two answers share memory", i)
		}
		clear(whole)
		if told(second) != told(x) {
			t.Errorf("inode %d: the answer turns with the argument", i)
		}
	}
}

// TestListsOfOneInodeShareNone writes over each list of an answer, spare room and all: the others must stay.
func TestListsOfOneInodeShareNone(t *testing.T) {
	for i, x := range rightInodes() {
		b := []byte(formOf(x))
		back, _ := impl.GetInode(b)
		clear(back.Data[:cap(back.Data)])
		if !slices.Equal(back.Ents, x.Ents) || !slices.Equal(back.Attrs, x.Attrs) {
			t.Errorf("inode %d: its bytes share memory with another list", i)
		}
		back, _ = impl.GetInode(b)
		clear(back.Ents[:cap(back.Ents)])
		if !bytes.Equal(back.Data, x.Data) || !slices.Equal(back.Attrs, x.Attrs) {
			t.Errorf("inode %d: its entries share memory with another list", i)
		}
		back, _ = impl.GetInode(b)
		clear(back.Attrs[:cap(back.Attrs)])
		if !bytes.Equal(back.Data, x.Data) || !slices.Equal(back.Ents, x.Ents) {
			t.Errorf("inode %d: its attributes share memory with another list", i)
		}
	}
}

func TestInodesKeepNothing(t *testing.T) {
	x := withAttrs(dir(7, 1, ent("a", 2), ent("b", 3)), attr("k", "v"))
	for range 3 {
		refusedInode(t, []byte("\x02\x01\x01\x80"))
		refusedInode(t, []byte("\x02\x01\x01\x00\x00\x00\x00"))
		impl.PutInode(impl.Inode{})
		if b := impl.PutInode(x); string(b) != "\x07\x02\x01\x00\x02\x01a\x02\x01b\x03\x01\x01k\x01v" {
			t.Errorf("PutInode hangs on the calls ahead: %x", b)
		}
		if back, ok := impl.GetInode(impl.PutInode(x)); !ok || told(back) != told(x) {
			t.Errorf("GetInode hangs on the calls ahead: %s", told(back))
		}
	}
}
