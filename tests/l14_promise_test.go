package tests

import (
	"fmt"
	"math/rand/v2"
	"slices"
	"testing"

	"loop.example/g00285/impl"
)

// Promise 14: maps come back of their bytes.

func checkMapComesBack(t *testing.T, m impl.Map) {
	t.Helper()
	b := impl.PutMap(m)
	if string(b) != mapForm(m) {
		t.Fatalf("PutMap of %s: %x", toldMap(m), b)
	}
	back, ok := impl.GetMap(b)
	if !ok || !sameMap(back, m) || !impl.MapOk(back) {
		t.Fatalf("%s comes back as %s, %v", toldMap(m), toldMap(back), ok)
	}
	if string(impl.PutMap(back)) != string(b) {
		t.Fatalf("%s is put anew as other bytes", toldMap(m))
	}
}

func TestMapsComeBack(t *testing.T) {
	for _, m := range rightMaps() {
		checkMapComesBack(t, m)
	}
}

// TestMapsOfEveryPlaceComeBack: all inodes at some addresses, and some inodes at all.
func TestMapsOfEveryPlaceComeBack(t *testing.T) {
	for ino := 1; ino <= 999; ino++ {
		for _, addr := range []int{0, 1, 126, 127, 128, 129, 190, 191, ino % 192} {
			checkMapComesBack(t, mapOf(1000, place(ino, addr)))
			checkMapComesBack(t, mapOf(ino+1, place(ino, addr)))
		}
	}
	for _, ino := range []int{1, 2, 126, 127, 128, 129, 255, 256, 998, 999} {
		for addr := range 192 {
			checkMapComesBack(t, mapOf(1000, place(ino, addr)))
		}
	}
}

// anyMap is a right one.
func anyMap(r *rand.Rand) impl.Map {
	next := 2 + r.IntN(999)
	if r.IntN(3) == 0 {
		next = 2 + r.IntN(40)
	}
	numbers := r.Perm(next - 1)[:r.IntN(min(next-1, 30)+1)]
	slices.Sort(numbers)
	m := mapOf(next)
	for _, n := range numbers {
		m.Places = append(m.Places, place(n+1, r.IntN(192)))
	}
	return m
}

func TestAnyMapsComeBack(t *testing.T) {
	r := rand.New(rand.NewPCG(14, 1))
	counts := map[int]int{}
	for range 30000 {
		m := anyMap(r)
		checkMapComesBack(t, m)
		counts[len(m.Places)]++
		for range 5 {
			if ino := r.IntN(m.Next + 2); impl.AddrOf(m, ino) != addrByWords(m, ino) {
				t.Fatalf("of %d: %d, in %s", ino, impl.AddrOf(m, ino), toldMap(m))
			}
		}
	}
	for n := range 31 {
		if counts[n] < 100 {
			t.Errorf("too few maps of %d places: %d", n, counts[n])
		}
	}
}

// turnedMap has one part, or two, other than m, and is often wrong.
func turnedMap(r *rand.Rand, m impl.Map) impl.Map {
	m.Places = slices.Clone(m.Places)
	for range 1 + r.IntN(2) {
		n := len(m.Places)
		switch by := r.IntN(5) - 2; {
		case n == 0 || r.IntN(6) == 0:
			m.Next += by
		case r.IntN(4) == 0:
			m.Places[r.IntN(n)].Addr += by * 96
		case r.IntN(3) == 0:
			m.Places[r.IntN(n)].Ino += by
		case r.IntN(2) == 0:
			i, k := r.IntN(n), r.IntN(n)
			m.Places[i], m.Places[k] = m.Places[k], m.Places[i]
		default:
			m.Places = slices.Insert(m.Places, r.IntN(n+1), m.Places[r.IntN(n)])
		}
	}
	return m
}

// TestAnyMapsThatAreTurned: they come back just when they are right.
func TestAnyMapsThatAreTurned(t *testing.T) {
	r := rand.New(rand.NewPCG(14, 2))
	right := 0
	for range 60000 {
		m := turnedMap(r, anyMap(r))
		checkMap(t, m)
		if impl.MapOk(m) {
			right++
		}
	}
	if right < 5000 || right > 55000 {
		t.Error("right are", right)
	}
}

// TestWhatIsReadAsAMapIsPutAsTheSameBytes: no two forms are read as one map.
func TestWhatIsReadAsAMapIsPutAsTheSameBytes(t *testing.T) {
	r := rand.New(rand.NewPCG(14, 3))
	read := map[int]int{}
	for range 400000 {
		b := make([]byte, r.IntN(10))
		for i := range b {
			b[i] = "\x00\x01\x02\x03\x04\x05\x7f\x80\xbf\xe8"[r.IntN(10)]
		}
		if len(b) > 1 && r.IntN(2) == 0 {
			b[1] = byte((len(b) - 2) / 2)
		}
		checkGetMap(t, string(b))
		if m, ok := impl.GetMap(b); ok {
			read[len(m.Places)]++
			if !impl.MapOk(m) || string(impl.PutMap(m)) != string(b) {
				t.Fatalf("%x is read as %s, which is put as %x", b, toldMap(m), impl.PutMap(m))
			}
		}
	}
	for n := range 3 {
		if read[n] < 200 {
			t.Error("too few of them are maps:", read)
		}
	}
}

// TestAnyBytesAreAMapOrNot: bytes of any kind, and those of maps with some of them struck.
func TestAnyBytesAreAMapOrNot(t *testing.T) {
	r := rand.New(rand.NewPCG(14, 4))
	for range 100000 {
		checkGetMap(t, anyBytes(r, r.IntN(130)))
		b := []byte(mapForm(anyMap(r)))
		for range 1 + r.IntN(3) {
			b[r.IntN(len(b))] = byte(r.IntN(256))
		}
		checkGetMap(t, string(b))
	}
}

// TestNoTwoMapsHaveOneForm: what differs in any part differs in its bytes.
func TestNoTwoMapsHaveOneForm(t *testing.T) {
	forms := map[string]string{}
	r := rand.New(rand.NewPCG(14, 5))
	l := rightMaps()
	for range 20000 {
		l = append(l, anyMap(r))
	}
	for _, m := range l {
		s := string(impl.PutMap(m))
		if was, there := forms[s]; there && was != toldMap(m) {
			t.Errorf("%s and %s are put as %x", was, toldMap(m), s)
		}
		forms[s] = toldMap(m)
	}
}

// TestMapsFitIntoRecords: the longest one is written to a log, and comes back of it.
func TestMapsFitIntoRecords(t *testing.T) {
	longest := 0
	for _, m := range rightMaps() {
		longest = max(longest, len(impl.PutMap(m)))
		l, addr, code := impl.Write(newLog(3), impl.RecMap, impl.PutMap(m), 1)
		if code != impl.FsGood {
			t.Fatalf("%s: the code %d", toldMap(m), code)
		}
		r, _ := impl.ReadAt(l, addr, impl.RecMap)
		if back, ok := impl.GetMap(r.Body); !ok || !sameMap(back, m) {
			t.Errorf("%s comes back of a log as %s, %v", toldMap(m), toldMap(back), ok)
		}
	}
	if full := mapOf(1000, placesOf(30, 128, 1)...); len(impl.PutMap(full)) > 123 || longest > 123 || longest < 100 {
		t.Error("the longest map has", longest)
	}
}

// TestAMapLeadsToTheInodesOfATree: what is written where a map has it is read there again, through the map's own bytes.
func TestAMapLeadsToTheInodesOfATree(t *testing.T) {
	for i, x := range rightTrees() {
		l, m := newLog(24), mapOf(x.Next)
		for _, y := range x.Inodes {
			addr, code := 0, 0
			if l, addr, code = impl.Write(l, impl.RecNode, impl.PutInode(y), 1); code != impl.FsGood {
				t.Fatalf("tree %d: the code %d", i, code)
			}
			m.Places = append(m.Places, place(y.Ino, addr))
		}
		back, ok := impl.GetMap(impl.PutMap(m))
		if !ok {
			t.Fatalf("tree %d: %s does not come back", i, toldMap(m))
		}
		for _, y := range x.Inodes {
			r, _ := impl.ReadAt(l, impl.AddrOf(back, y.Ino), impl.RecNode)
			if got, ok := impl.GetInode(r.Body); !ok || !impl.SameInode(got, y) {
				t.Errorf("tree %d: %s is read as %s", i, told(y), told(got))
			}
		}
		if impl.AddrOf(back, x.Next) != -1 {
			t.Errorf("tree %d: the next one has a place", i)
		}
	}
}

func TestMapsKeepNothing(t *testing.T) {
	wants := map[string]string{}
	for range 3 {
		for i, m := range append(rightMaps()[:100], wrongMaps()...) {
			back, ok := impl.GetMap(impl.PutMap(m))
			s := fmt.Sprintf("%v %x %s %v %d %d", impl.MapOk(m), impl.PutMap(m), toldMap(back), ok, impl.AddrOf(m, 1), impl.AddrOf(m, 4))
			name := fmt.Sprint(i, toldMap(m))
			if want, was := wants[name]; was && s != want {
				t.Errorf("%s hangs on the calls ahead: %s, not %s", toldMap(m), s, want)
			}
			wants[name] = s
			impl.GetMap([]byte("\x05\x02\x01\x07\x80"))
			impl.GetMap(nil)
			impl.PutMap(impl.Map{})
		}
	}
}
