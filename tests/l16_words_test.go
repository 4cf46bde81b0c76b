package tests

import (
	"fmt"
	"slices"
	"strings"

	"loop.example/g00285/impl"
)

func imageOf(f impl.Fs, x impl.Table, at, root int, l ...impl.Map) impl.Image {
	return impl.Image{F: f, T: x, Maps: l, At: at, Root: root}
}

func newImage() impl.Image { return imageOf(system(1), tableOf(1), -1, -1) }

func toldImage(m impl.Image) string {
	s := &strings.Builder{}
	fmt.Fprintf(s, "image of %s\n%s, at %d, root at %d", toldFs(m.F), toldTable(m.T), m.At, m.Root)
	for _, x := range m.Maps {
		fmt.Fprintf(s, "\n%s", toldMap(x))
	}
	return s.String()
}

// sameImage takes an empty list as nil.
func sameImage(a, b impl.Image) bool { return toldImage(a) == toldImage(b) }

// askedSave is a call of Save.
type askedSave struct {
	f     impl.Fs
	avoid int
	spare int
}

func askSave(f impl.Fs) askedSave { return askedSave{f, -1, 1} }

func (a askedSave) String() string {
	return fmt.Sprintf("Save of %s, avoid %d, spare %d", toldFs(a.f), a.avoid, a.spare)
}

func (a askedSave) of(l impl.Log, m impl.Image) (impl.Log, impl.Image, int) {
	return impl.Save(l, m, a.f, a.avoid, a.spare)
}

// The words of chapter 16, by other means than the program's: what an image needs is a list of records, and what is there already is looked for in lists.

// wantedRec is a record that an image needs.
type wantedRec struct {
	addr, kind int
	body       string
}

// partsByWords asks whether the parts of an image are of each other: a row a volume, a map a row, a place an inode.
func partsByWords(m impl.Image) bool {
	rows := []impl.Row{}
	if len(m.T.Rows) != len(m.F.Vols) || len(m.Maps) != len(m.F.Vols) {
		return false
	}
	for i, v := range m.F.Vols {
		rows = append(rows, row(v.Id, v.Name, v.Ro, v.Limit, m.T.Rows[i].Map))
		if len(m.Maps[i].Places) != len(v.T.Inodes) {
			return false
		}
		want := mapOf(v.T.Next)
		for k, x := range v.T.Inodes {
			want.Places = append(want.Places, place(x.Ino, m.Maps[i].Places[k].Addr))
		}
		if !sameMap(want, m.Maps[i]) {
			return false
		}
	}
	return sameTable(tableOf(m.F.Next, rows...), m.T)
}

// wantedByWords takes an image whose parts are of each other.
func wantedByWords(m impl.Image) []wantedRec {
	l := []wantedRec{{m.Root, impl.RecRoot, numForm(m.At)}, {m.At, impl.RecTable, tableForm(m.T)}}
	for i, v := range m.F.Vols {
		l = append(l, wantedRec{m.T.Rows[i].Map, impl.RecMap, mapForm(m.Maps[i])})
		for k, x := range v.T.Inodes {
			l = append(l, wantedRec{m.Maps[i].Places[k].Addr, impl.RecNode, formOf(x)})
		}
	}
	return l
}

func imageByWords(l impl.Log, m impl.Image) bool {
	if !fsByWords(m.F) || !partsByWords(m) {
		return false
	}
	if sameImage(m, newImage()) {
		return true
	}
	records := recordsByWords(l)
	return !slices.ContainsFunc(wantedByWords(m), func(w wantedRec) bool {
		r, there := records[w.addr]
		return !there || r.Kind != w.kind || string(r.Body) != w.body
	})
}

// savedVol is a volume all of which has its address.
type savedVol struct {
	inodes []string
	m      impl.Map
	at     int
}

// wordsOfSave is a Save in its midst. Once a code is not FsGood nothing happens any more.
type wordsOfSave struct {
	askedSave
	l    impl.Log
	done []savedVol
	code int
}

func (s *wordsOfSave) write(kind int, body string) int {
	if s.code != impl.FsGood {
		return -1
	}
	e, addr, code := askedWrite{kind, body, s.spare}.ofWords(s.l)
	s.l, s.code = e, code
	return addr
}

// avoids asks for blocks that a chip may have: no other one has an address.
func (s *wordsOfSave) avoids(addr int) bool {
	return fromNoughtTo(s.avoid, 23) && fromNoughtTo(addr-8*s.avoid, 7)
}

func (s *wordsOfSave) inode(form string) int {
	for _, v := range s.done {
		for i, there := range v.inodes {
			if there == form && !s.avoids(v.m.Places[i].Addr) {
				return v.m.Places[i].Addr
			}
		}
	}
	return s.write(impl.RecNode, form)
}

func (s *wordsOfSave) mapAddr(m impl.Map) int {
	for _, v := range s.done {
		if sameMap(v.m, m) && !s.avoids(v.at) {
			return v.at
		}
	}
	return s.write(impl.RecMap, mapForm(m))
}

func (s *wordsOfSave) vol(v impl.Vol) savedVol {
	now := savedVol{m: mapOf(v.T.Next)}
	for _, x := range v.T.Inodes {
		now.inodes = append(now.inodes, formOf(x))
		now.m.Places = append(now.m.Places, place(x.Ino, s.inode(formOf(x))))
	}
	now.at = s.mapAddr(now.m)
	return now
}

func savedVols(m impl.Image) []savedVol {
	l := []savedVol{}
	for i, v := range m.F.Vols {
		now := savedVol{m: m.Maps[i], at: m.T.Rows[i].Map}
		for _, x := range v.T.Inodes {
			now.inodes = append(now.inodes, formOf(x))
		}
		l = append(l, now)
	}
	return l
}

func (a askedSave) ofWords(l impl.Log, m impl.Image) (impl.Log, impl.Image, int) {
	switch {
	case !logByWords(l), !imageByWords(l, m), !fsByWords(a.f):
		return l, m, impl.FsForm
	case a.avoid == -1 && toldFs(a.f) == toldFs(m.F):
		return l, m, impl.FsGood
	}
	s := &wordsOfSave{askedSave: a, l: l, done: savedVols(m)}
	n := imageOf(a.f, tableOf(a.f.Next), 0, 0)
	for _, v := range a.f.Vols {
		now := s.vol(v)
		s.done = append(s.done, now)
		n.Maps = append(n.Maps, now.m)
		n.T.Rows = append(n.T.Rows, row(v.Id, v.Name, v.Ro, v.Limit, now.at))
	}
	n.At = s.write(impl.RecTable, tableForm(n.T))
	n.Root = s.write(impl.RecRoot, numForm(n.At))
	if s.code != impl.FsGood {
		return s.l, m, s.code
	}
	return s.l, n, impl.FsGood
}
