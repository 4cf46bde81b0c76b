package tests

import (
	"bytes"
	"strings"
	"testing"

	"loop.example/g00285/impl"
)

// putters are all calls of chapter 1 that answer bytes.
var putters = []struct {
	name string
	put  func(b []byte) []byte
}{
	{"PutNum of 0", func(b []byte) []byte { return impl.PutNum(b, 0) }},
	{"PutNum below 0", func(b []byte) []byte { return impl.PutNum(b, -5) }},
	{"PutNum of two bytes", func(b []byte) []byte { return impl.PutNum(b, 300) }},
	{"PutNum of MaxNum", func(b []byte) []byte { return impl.PutNum(b, impl.MaxNum) }},
	{"PutText of nothing", func(b []byte) []byte { return impl.PutText(b, "") }},
	{"PutText of xyz", func(b []byte) []byte { return impl.PutText(b, "xyz") }},
	{"PutText of 200 bytes", func(b []byte) []byte { return impl.PutText(b, strings.Repeat("t", 200)) }},
}

// inRoom answers n bytes with room behind them, and all of that memory.
func inRoom(n int) ([]byte, []byte) {
	whole := bytes.Repeat([]byte{0xa5}, n+400)
	return whole[:n], whole
}

func untouched(whole []byte) bool {
	return bytes.Count(whole, []byte{0xa5}) == len(whole)
}

func TestPutWritesIntoNoArgument(t *testing.T) {
	for _, p := range putters {
		for _, n := range []int{0, 1, 7, 64} {
			b, whole := inRoom(n)
			p.put(b)
			if !untouched(whole) {
				t.Errorf("%s wrote into its argument of %d bytes, or behind it", p.name, n)
			}
		}
	}
}

func TestPutAnswersNewMemory(t *testing.T) {
	for _, p := range putters {
		for _, n := range []int{0, 1, 7, 64} {
			b, whole := inRoom(n)
			first, second := p.put(b), p.put(b)
			kept := string(second)
			all := first[:cap(first)]
			for i := range all {
				all[i] = 1
			}
			if !untouched(whole) {
				t.Errorf("the answer of %s shares memory with its argument of %d bytes", p.name, n)
			}
			if string(second) != kept {
				t.Errorf("two answers of %s share memory", p.name)
			}
			for i := range whole {
				whole[i] = 2
			}
			if string(second) != kept {
				t.Errorf("the answer of %s turns with its argument", p.name)
			}
		}
	}
}

func TestGetWritesIntoNoArgument(t *testing.T) {
	b, whole := inRoom(64)
	impl.GetNum(b, 0)
	impl.GetNum(b, 63)
	impl.GetText(b, 0)
	impl.Crc(b)
	if !untouched(whole) {
		t.Error("a call that reads wrote")
	}
	put := impl.PutText(nil, "some text")
	kept := string(put)
	impl.GetText(put, 0)
	impl.GetNum(put, 0)
	impl.Crc(put)
	if string(put) != kept {
		t.Error("a call that reads wrote into what was put")
	}
}

func TestGetTextAnswersNewMemory(t *testing.T) {
	b := impl.PutText(nil, "some text")
	s, _, _ := impl.GetText(b, 0)
	clear(b)
	if s != "some text" {
		t.Errorf("the text turns with its bytes: %q", s)
	}
}

func TestNothingIsKept(t *testing.T) {
	for range 3 {
		refusedNum(t, []byte{0x80}, 0)
		refusedText(t, []byte{5, 'a'}, 0)
		if b := impl.PutText(impl.PutNum(nil, 300), "ab"); string(b) != "\xac\x02\x02ab" {
			t.Errorf("%x", b)
		}
		if impl.Crc([]byte("a")) != 0xc1d04330 {
			t.Error("the sum hangs on the calls ahead")
		}
	}
}
