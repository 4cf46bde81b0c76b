package tests

import (
	"maps"
	"slices"
	"testing"

	"loop.example/g00285/impl"
)

// The words of chapter 17, by other means than the program's: all records stand in a map, and each form is read to its end ahead of what it leads to.

// rootsByWords takes the first of those that are left, again and again.
func rootsByWords(l impl.Log) []int {
	left := map[int]int{}
	for addr, r := range recordsByWords(l) {
		if r.Kind == impl.RecRoot {
			left[addr] = r.Seq
		}
	}
	roots := []int{}
	for len(left) > 0 {
		greatest := slices.Max(slices.Collect(maps.Values(left)))
		for _, addr := range slices.Sorted(maps.Keys(left)) {
			if left[addr] == greatest {
				roots = append(roots, addr)
				delete(left, addr)
			}
		}
	}
	return roots
}

// chipRecords are all records of a log, by their addresses.
type chipRecords map[int]impl.Rec

// body is of the record there of this kind.
func (c chipRecords) body(addr, kind int) (string, bool) {
	r, there := c[addr]
	return string(r.Body), there && r.Kind == kind
}

func (c chipRecords) tree(m impl.Map) (impl.Tab, bool) {
	x := table(m.Next)
	for _, p := range m.Places {
		body, there := c.body(p.Addr, impl.RecNode)
		y, ok := inodeOfForm(body)
		if !there || !ok {
			return impl.Tab{}, false
		}
		x.Inodes = append(x.Inodes, y)
	}
	return x, true
}

// led is what a root leads to, be it an image or not.
func (c chipRecords) led(addr int) (impl.Image, bool) {
	body, isRoot := c.body(addr, impl.RecRoot)
	at, ok := numsOfForm(body)
	if !isRoot || !ok || len(at) != 1 {
		return impl.Image{}, false
	}
	body, isTable := c.body(at[0], impl.RecTable)
	x, ok := tableOfForm(body)
	if !isTable || !ok {
		return impl.Image{}, false
	}
	m := imageOf(system(x.Next), x, at[0], addr)
	for _, r := range x.Rows {
		body, isMap := c.body(r.Map, impl.RecMap)
		y, ok := mapOfForm(body)
		if !isMap || !ok {
			return impl.Image{}, false
		}
		tree, ok := c.tree(y)
		if !ok {
			return impl.Image{}, false
		}
		m.Maps, m.F.Vols = append(m.Maps, y), append(m.F.Vols, vol(r.Id, r.Name, r.Ro, r.Limit, tree))
	}
	return m, true
}

func loadByWords(l impl.Log, addr int) (impl.Image, bool) {
	m, led := chipRecords(recordsByWords(l)).led(addr)
	if !led || !imageByWords(l, m) {
		return newImage(), false
	}
	return m, true
}

func mountByWords(l impl.Log) (impl.Log, impl.Image) {
	greatest := -1
	for _, r := range recordsByWords(l) {
		greatest = max(greatest, r.Seq)
	}
	own := logOf(dev(l.D.C, l.D.Ops, l.D.Faults...), min(greatest+1, 1000000))
	for _, addr := range rootsByWords(l) {
		if m, ok := loadByWords(l, addr); ok {
			return own, m
		}
	}
	return own, newImage()
}

// checkRoots holds RootsOf against the words.
func checkRoots(t *testing.T, l impl.Log) []int {
	t.Helper()
	got, want := impl.RootsOf(l), rootsByWords(l)
	if !slices.Equal(got, want) {
		t.Fatalf("the roots are %v, not %v, of %s", got, want, toldLog(l))
	}
	return got
}

// checkLoad holds LoadAt against the words.
func checkLoad(t *testing.T, l impl.Log, addr int) (impl.Image, bool) {
	t.Helper()
	m, ok := impl.LoadAt(l, addr)
	if want, wantOk := loadByWords(l, addr); ok != wantOk || !sameImage(m, want) {
		t.Fatalf("at %d is %s, %v, not %s, %v, of %s", addr, toldImage(m), ok, toldImage(want), wantOk, toldLog(l))
	}
	return m, ok
}

// checkMount holds Mount against the words, and against what follows of them, and answers what the program answers.
func checkMount(t *testing.T, l impl.Log) (impl.Log, impl.Image) {
	t.Helper()
	was := clonedLog(l)
	want, wantImage := mountByWords(l)
	e, m := impl.Mount(l)
	if !sameLog(e, want) || !sameImage(m, wantImage) {
		t.Fatalf("mounted is %s, not %s, and %s, not %s, of %s", toldImage(m), toldImage(wantImage), toldLog(e), toldLog(want), toldLog(was))
	}
	if !sameLog(l, was) {
		t.Fatalf("the argument is other now: %s, not %s", toldLog(l), toldLog(was))
	}
	if !impl.ImageOk(e, m) || e.D.Down || e.D.Ops != l.D.Ops || impl.DevOk(e.D) != impl.DevOk(l.D) {
		t.Fatalf("mounted is what is not right: %s, %s", toldImage(m), toldLog(e))
	}
	return e, m
}

// wantMount asks for this image.
func wantMount(t *testing.T, l impl.Log, want impl.Image) impl.Log {
	t.Helper()
	e, m := checkMount(t, l)
	if !sameImage(m, want) {
		t.Fatalf("mounted is %s, not %s, of %s", toldImage(m), toldImage(want), toldLog(l))
	}
	return e
}
