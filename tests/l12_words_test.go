package tests

import (
	"fmt"
	"hash/crc32"
	"slices"

	"loop.example/g00285/impl"
)

func rec(kind, seq int, body string) impl.Rec {
	return impl.Rec{Kind: kind, Seq: seq, Body: []byte(body)}
}

func sameRec(a, b impl.Rec) bool {
	return a.Kind == b.Kind && a.Seq == b.Seq && string(a.Body) == string(b.Body)
}

func toldRec(r impl.Rec) string {
	if len(r.Body) > 20 {
		return fmt.Sprintf("record of kind %d, %d, %d bytes", r.Kind, r.Seq, len(r.Body))
	}
	return fmt.Sprintf("record of kind %d, %d, %q", r.Kind, r.Seq, r.Body)
}

// The words of chapter 12, by other means than the program's.

func recByWords(r impl.Rec) bool {
	kinds := []int{impl.RecNode, impl.RecMap, impl.RecTable, impl.RecRoot}
	return slices.Contains(kinds, r.Kind) && fromNoughtTo(r.Seq, 1000000) && fromNoughtTo(len(r.Body), 380)
}

// sumForm is the sum of these bytes as the library has it, the highest byte first.
func sumForm(s string) string {
	sum := crc32.Checksum([]byte(s), crc32.MakeTable(crc32.Castagnoli))
	form := ""
	for range 4 {
		form = string([]byte{byte(sum)}) + form
		sum >>= 8
	}
	return form
}

func withItsSum(s string) string { return s + sumForm(s) }

// recForm writes a record's bytes, be it right or not, as long as its numbers are not below 0.
func recForm(r impl.Rec) string {
	return withItsSum(numForm(r.Kind) + numForm(r.Seq) + textForm(string(r.Body)))
}

// recOfForm reads a record from its end on: the sum first, and each step asked for.
func recOfForm(s string) (impl.Rec, bool) {
	if len(s) < 4 || withItsSum(s[:len(s)-4]) != s {
		return impl.Rec{}, false
	}
	kind, s, ok := cutNum(s[:len(s)-4])
	if !ok {
		return impl.Rec{}, false
	}
	seq, s, ok := cutNum(s)
	if !ok {
		return impl.Rec{}, false
	}
	body, s, ok := cutText(s)
	if r := rec(kind, seq, body); ok && s == "" && recByWords(r) {
		return r, true
	}
	return impl.Rec{}, false
}
