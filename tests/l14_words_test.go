package tests

import (
	"fmt"
	"slices"

	"loop.example/g00285/impl"
)

func place(ino, addr int) impl.Place { return impl.Place{Ino: ino, Addr: addr} }

func mapOf(next int, l ...impl.Place) impl.Map { return impl.Map{Next: next, Places: l} }

// sameMap takes an empty list as nil.
func sameMap(a, b impl.Map) bool { return toldMap(a) == toldMap(b) }

func toldMap(m impl.Map) string {
	s := fmt.Sprintf("map of next %d", m.Next)
	for _, p := range m.Places {
		s += fmt.Sprintf(", %d at %d", p.Ino, p.Addr)
	}
	return s
}

// The words of chapter 14, by other means than the program's.

func mapByWords(m impl.Map) bool {
	numbers := []int{}
	for _, p := range m.Places {
		numbers = append(numbers, p.Ino)
		if !fromNoughtTo(p.Addr, 191) || !fromNoughtTo(p.Ino-1, 999) || !fromNoughtTo(m.Next-1-p.Ino, 999) {
			return false
		}
	}
	// In order, and each once, they are as they stand.
	ordered := slices.Compact(slices.Sorted(slices.Values(numbers)))
	return slices.Equal(numbers, ordered) && len(numbers) <= 30 && fromNoughtTo(m.Next-2, 998)
}

// mapForm writes a map's bytes, be it right or not, as long as its numbers are not below 0.
func mapForm(m impl.Map) string {
	places := ""
	for i := len(m.Places) - 1; i >= 0; i-- {
		places = numForm(m.Places[i].Ino) + numForm(m.Places[i].Addr) + places
	}
	return numForm(m.Next) + numForm(len(m.Places)) + places
}

// numsOfForm reads numbers one behind the other, to the end of the bytes.
func numsOfForm(s string) ([]int, bool) {
	l := []int{}
	for s != "" {
		n, rest, ok := cutNum(s)
		if !ok {
			return nil, false
		}
		l, s = append(l, n), rest
	}
	return l, true
}

// mapOfForm reads all numbers first, and asks then whether they are as many as a map of that count has.
func mapOfForm(s string) (impl.Map, bool) {
	l, ok := numsOfForm(s)
	if !ok || len(l) < 2 || len(l) != 2+2*l[1] {
		return impl.Map{}, false
	}
	m := mapOf(l[0])
	for pair := range slices.Chunk(l[2:], 2) {
		m.Places = append(m.Places, place(pair[0], pair[1]))
	}
	if !mapByWords(m) {
		return impl.Map{}, false
	}
	return m, true
}

// addrByWords goes through the places from the last on, so that the first one is what is left.
func addrByWords(m impl.Map, ino int) int {
	addr := -1
	for _, p := range slices.Backward(m.Places) {
		if p.Ino == ino {
			addr = p.Addr
		}
	}
	return addr
}
