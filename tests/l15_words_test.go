package tests

import (
	"fmt"
	"slices"

	"loop.example/g00285/impl"
)

func row(id int, name string, ro bool, limit, at int) impl.Row {
	return impl.Row{Id: id, Name: name, Ro: ro, Limit: limit, Map: at}
}

func tableOf(next int, l ...impl.Row) impl.Table { return impl.Table{Next: next, Rows: l} }

// sameTable takes an empty list as nil.
func sameTable(a, b impl.Table) bool { return a.Next == b.Next && slices.Equal(a.Rows, b.Rows) }

func toldTable(x impl.Table) string {
	s := fmt.Sprintf("table of next %d", x.Next)
	for _, r := range x.Rows {
		s += fmt.Sprintf(", %d %q ro %v limit %d at %d", r.Id, r.Name, r.Ro, r.Limit, r.Map)
	}
	return s
}

// The words of chapter 15, by other means than the program's.

func tableByWords(x impl.Table) bool {
	ids, names := []int{}, map[string]int{}
	for _, r := range x.Rows {
		ids = append(ids, r.Id)
		names[r.Name]++
		if !fromNoughtTo(r.Id-1, 97) || !fromNoughtTo(x.Next-1-r.Id, 98) || !nameByForm(r.Name) || !fromNoughtTo(r.Limit-32, 3968) || !fromNoughtTo(r.Map, 191) {
			return false
		}
	}
	// In order, and each once, they are as they stand.
	ordered := slices.Compact(slices.Sorted(slices.Values(ids)))
	return slices.Equal(ids, ordered) && len(names) == len(ids) && len(ids) <= 6 && fromNoughtTo(x.Next-1, 98)
}

func roForm(ro bool) string { return map[bool]string{false: "\x00", true: "\x01"}[ro] }

func rowForm(r impl.Row) string {
	return numForm(r.Id) + textForm(r.Name) + roForm(r.Ro) + numForm(r.Limit) + numForm(r.Map)
}

func rowsForm(l []impl.Row) string {
	s := ""
	for _, r := range slices.Backward(l) {
		s = rowForm(r) + s
	}
	return s
}

// tableForm writes a table's bytes, be it right or not, as long as its numbers are not below 0.
func tableForm(x impl.Table) string {
	return numForm(x.Next) + numForm(len(x.Rows)) + rowsForm(x.Rows)
}

// cutRow reads a row by the document's words, and answers what is behind. A Ro is one byte, which is one of two.
func cutRow(s string) (impl.Row, string, bool) {
	id, s, ok := cutNum(s)
	if !ok {
		return impl.Row{}, "", false
	}
	name, s, ok := cutText(s)
	if !ok || s == "" || s[0] != '\x00' && s[0] != '\x01' {
		return impl.Row{}, "", false
	}
	r := row(id, name, s[0] == '\x01', 0, 0)
	if r.Limit, s, ok = cutNum(s[1:]); !ok {
		return impl.Row{}, "", false
	}
	if r.Map, s, ok = cutNum(s); !ok {
		return impl.Row{}, "", false
	}
	return r, s, true
}

// tableOfForm reads rows to the end of the bytes, and asks then whether they are as many as was promised.
func tableOfForm(s string) (impl.Table, bool) {
	next, s, ok := cutNum(s)
	if !ok {
		return impl.Table{}, false
	}
	count, s, ok := cutNum(s)
	x := tableOf(next)
	for ok && s != "" {
		r := impl.Row{}
		r, s, ok = cutRow(s)
		x.Rows = append(x.Rows, r)
	}
	if !ok || count != len(x.Rows) || !tableByWords(x) {
		return impl.Table{}, false
	}
	return x, true
}
