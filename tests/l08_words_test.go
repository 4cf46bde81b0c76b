package tests

import (
	"fmt"
	"maps"
	"slices"
	"strings"

	"loop.example/g00285/impl"
)

func vol(id int, name string, ro bool, limit int, x impl.Tab) impl.Vol {
	return impl.Vol{Id: id, Name: name, Ro: ro, Limit: limit, T: x}
}

func system(next int, l ...impl.Vol) impl.Fs { return impl.Fs{Vols: l, Next: next} }

func toldVol(v impl.Vol) string {
	return fmt.Sprintf("%d %q %v %d %s", v.Id, v.Name, v.Ro, v.Limit, toldTab(v.T))
}

// toldFs tells all parts of a file system; an empty list as nil.
func toldFs(f impl.Fs) string {
	s := fmt.Sprint("next Id ", f.Next)
	for _, v := range f.Vols {
		s += "\n" + toldVol(v)
	}
	return s
}

// askedVol is a call of chapter 8 that changes a file system, and what that takes.
type askedVol struct {
	call  string
	id    int
	name  string
	limit int
}

func askNew(name string, limit int) askedVol {
	return askedVol{call: "NewVol", name: name, limit: limit}
}
func askSnap(id int, name string) askedVol { return askedVol{call: "SnapVol", id: id, name: name} }
func askClone(id int, name string) askedVol {
	return askedVol{call: "CloneVol", id: id, name: name}
}
func askDrop(id int) askedVol         { return askedVol{call: "DropVol", id: id} }
func askLimit(id, limit int) askedVol { return askedVol{call: "SetLimit", id: id, limit: limit} }

func (a askedVol) String() string {
	return fmt.Sprintf("%s of %d, %q, %d", a.call, a.id, a.name, a.limit)
}

// makes says whether the call makes a volume.
func (a askedVol) makes() bool {
	return slices.Contains([]string{"NewVol", "SnapVol", "CloneVol"}, a.call)
}

// of asks the program; of what answers no Id it is 0.
func (a askedVol) of(f impl.Fs) (impl.Fs, int, int) {
	switch a.call {
	case "NewVol":
		return impl.NewVol(f, a.name, a.limit)
	case "SnapVol":
		return impl.SnapVol(f, a.id, a.name)
	case "CloneVol":
		return impl.CloneVol(f, a.id, a.name)
	case "DropVol":
		g, code := impl.DropVol(f, a.id)
		return g, 0, code
	case "SetLimit":
		g, code := impl.SetLimit(f, a.id, a.limit)
		return g, 0, code
	}
	panic("no such call: " + a.call)
}

// The words of chapter 8, by other means than the program's: volumes stand in a map by their Id, and the codes in a list of reasons.

func fsByWords(f impl.Fs) bool {
	ids, names := []int{}, map[string]int{}
	for _, v := range f.Vols {
		ids = append(ids, v.Id)
		names[v.Name]++
		if v.Id < 1 || v.Id > 99 || v.Id >= f.Next || !nameByForm(v.Name) || v.Limit < 32 || v.Limit > 4000 {
			return false
		}
		if !treeByWords(v.T) || usageByWords(v.T) > v.Limit {
			return false
		}
	}
	ascending := slices.Compact(slices.Sorted(slices.Values(ids)))
	return f.Next >= 1 && f.Next <= 99 && len(ids) <= 6 && len(names) == len(ids) && slices.Equal(ids, ascending)
}

func shelfOf(f impl.Fs) map[int]impl.Vol {
	shelf := map[int]impl.Vol{}
	for _, v := range f.Vols {
		shelf[v.Id] = v
	}
	return shelf
}

func (a askedVol) codeByWords(f impl.Fs) int {
	if !fsByWords(f) {
		return impl.FsForm
	}
	shelf := shelfOf(f)
	of, there := shelf[a.id]
	taken := slices.ContainsFunc(f.Vols, func(v impl.Vol) bool { return strings.Compare(v.Name, a.name) == 0 })
	noName, noLimit, full := !nameByForm(a.name), a.limit < 32 || a.limit > 4000, len(shelf) == 6 || f.Next == 99
	type reason struct {
		code  int
		holds bool
	}
	twin := []reason{{impl.FsForm, noName}, {impl.FsNone, !there}, {impl.FsThere, taken}, {impl.FsFull, full}}
	for _, r := range map[string][]reason{
		"NewVol":   {{impl.FsForm, noName}, {impl.FsForm, noLimit}, {impl.FsThere, taken}, {impl.FsFull, full}},
		"SnapVol":  twin,
		"CloneVol": twin,
		"DropVol":  {{impl.FsNone, !there}},
		"SetLimit": {{impl.FsForm, noLimit}, {impl.FsNone, !there}, {impl.FsQuota, usageByWords(of.T) > a.limit}},
	}[a.call] {
		if r.holds {
			return r.code
		}
	}
	return impl.FsGood
}

// ofWords asks the words.
func (a askedVol) ofWords(f impl.Fs) (impl.Fs, int, int) {
	if code := a.codeByWords(f); code != impl.FsGood {
		return f, 0, code
	}
	shelf, next, id := shelfOf(f), f.Next, 0
	of := shelf[a.id]
	switch a.call {
	case "NewVol":
		shelf[next] = vol(next, a.name, false, a.limit, table(2, dir(1, 0)))
	case "SnapVol", "CloneVol":
		shelf[next] = vol(next, a.name, a.call == "SnapVol", of.Limit, of.T)
	case "DropVol":
		delete(shelf, a.id)
	case "SetLimit":
		shelf[a.id] = vol(a.id, of.Name, of.Ro, a.limit, of.T)
	}
	if a.makes() {
		id, next = next, next+1
	}
	g := impl.Fs{Next: next}
	for _, at := range slices.Sorted(maps.Keys(shelf)) {
		g.Vols = append(g.Vols, shelf[at])
	}
	return g, id, impl.FsGood
}

// attrsOfUsage are attributes that use n, which is at most 120.
func attrsOfUsage(n int) []impl.Attr {
	l := []impl.Attr{}
	for _, sign := range []string{"a", "b", "c", "d"} {
		if one := min(n, 30); one > 0 {
			l = append(l, attr(strings.Repeat(sign, min(one, 14)), strings.Repeat(sign, max(one-14, 0))))
			n -= one
		}
	}
	return l
}

// treeOfUsage is a tree that uses n, which is 32 to 4000.
func treeOfUsage(n int) impl.Tab {
	x, rest := table(2, dir(1, 0)), n-32
	if rest > 9*252+120 {
		x, rest = table(3, dir(1, 0, ent("d", 2)), dir(2, 1)), rest-32
	}
	for rest > 120 {
		one := min(rest, 252)
		data := min(one-32, 100)
		// The root has nine files at most, and a directory for those that follow.
		above := of(&x, 1)
		if len(above.Ents) == 10 {
			above = of(&x, 2)
		}
		above.Ents = append(above.Ents, ent("n"+string(rune('a'+x.Next)), x.Next))
		slices.SortFunc(above.Ents, func(a, b impl.Ent) int { return strings.Compare(a.Name, b.Name) })
		x.Inodes = append(x.Inodes, file(x.Next, 1, strings.Repeat("x", data), attrsOfUsage(one-32-data)...))
		x.Next++
		rest -= one
	}
	of(&x, 1).Attrs = attrsOfUsage(rest)
	return x
}
