package tests

import (
	"math"
	"slices"
	"strings"
	"testing"

	"loop.example/g00285/impl"
)

var (
	_ func(impl.Map) bool           = impl.MapOk
	_ func(impl.Map) []byte         = impl.PutMap
	_ func([]byte) (impl.Map, bool) = impl.GetMap
	_ func(impl.Map, int) int       = impl.AddrOf
	_ struct {
		Ino  int
		Addr int
	} = impl.Place{}
	_ struct {
		Next   int
		Places []impl.Place
	} = impl.Map{}
)

// TestMapConstants: the last address is the last page of the greatest chip.
func TestMapConstants(t *testing.T) {
	for _, last := range []int{impl.MaxAddr, impl.MaxBlocks*impl.PagesPer - 1} {
		if last != 191 {
			t.Error("the last address is", last)
		}
	}
}

// placesOf are n places whose numbers begin at one and ascend by a step; their addresses jump.
func placesOf(n, from, step int) []impl.Place {
	l := []impl.Place{}
	for i := range n {
		l = append(l, place(from+i*step, (i*67+from)%192))
	}
	return l
}

func rightMaps() []impl.Map {
	l := []impl.Map{}
	for n := range 31 {
		l = append(l,
			mapOf(max(n+1, 2), placesOf(n, 1, 1)...), mapOf(1000, placesOf(n, 1000-n, 1)...), mapOf(1000, placesOf(n, 1, 33)...),
			mapOf(500, placesOf(n, 113, 1)...), mapOf(128, placesOf(n, 2, 4)...), mapOf(1000, slices.Repeat([]impl.Place{place(n+1, 191-n)}, 1)...))
	}
	for _, next := range []int{2, 3, 100, 126, 127, 128, 129, 130, 255, 256, 257, 999, 1000} {
		l = append(l, mapOf(next), mapOf(next, place(1, 0)), mapOf(next, place(next-1, 191)))
	}
	for addr := range 192 {
		l = append(l, mapOf(2, place(1, addr)), mapOf(1000, place(1, 191-addr), place(128, addr), place(999, addr)))
	}
	return l
}

// shortMaps are those of rightMaps whose every byte can be turned in little time, and some of the longest.
func shortMaps() []impl.Map {
	l := slices.DeleteFunc(rightMaps(), func(m impl.Map) bool { return len(m.Places) > 2 })
	return append(l, mapOf(1000, placesOf(30, 970, 1)...), mapOf(31, placesOf(30, 1, 1)...), mapOf(200, placesOf(9, 123, 1)...))
}

// wrongNexts are those that no map has, among them some that a narrower number would take for a right one.
func wrongNexts() []int {
	return []int{math.MinInt, math.MinInt + 2, -1 << 32, -1000, -128, -2, -1, 0, 1, 1001, 1002, 1024, 16384, 1000000, 1000001, 1 << 32, 1<<32 + 5, 1<<32 + 1000, math.MaxInt - 1, math.MaxInt}
}

// wrongInos are those that no place has, whatever the Next.
func wrongInos() []int {
	return []int{math.MinInt, math.MinInt + 1, -1 << 32, -1000, -256 + 1, -2, -1, 0, 1000, 1001, 1<<16 + 1, 1000000, 1<<32 + 1, math.MaxInt}
}

func wrongAddrs() []int {
	return []int{math.MinInt, math.MinInt + 5, -1 << 32, -192, -2, -1, 192, 193, 200, 255, 256, 1 << 16, 1000000, 1000001, 1 << 32, 1<<32 + 5, math.MaxInt}
}

// wrongMaps are wrong by one of their parts, and by several.
func wrongMaps() []impl.Map {
	l := []impl.Map{{}, {Places: placesOf(3, 1, 1)}}
	for _, next := range wrongNexts() {
		l = append(l, mapOf(next), mapOf(next, place(1, 5)), mapOf(next, placesOf(4, 1, 200)...), mapOf(next, place(next-1, 0)))
	}
	for _, ino := range wrongInos() {
		l = append(l, mapOf(1000, place(ino, 5)), mapOf(1000, place(ino, 5), place(2, 6)), mapOf(1000, place(1, 5), place(ino, 6)), mapOf(1000, place(1, 5), place(2, 6), place(ino, 7)))
	}
	for _, next := range []int{2, 3, 127, 128, 129, 500, 999} {
		l = append(l, mapOf(next, place(next, 0)), mapOf(next, place(next+1, 0)), mapOf(next, place(1, 0), place(next, 0)), mapOf(next, place(1000, 0)), mapOf(next, place(next+128, 0)))
	}
	for _, addr := range wrongAddrs() {
		l = append(l, mapOf(1000, place(1, addr)), mapOf(2, place(1, addr)), mapOf(9, place(1, addr), place(2, 5)), mapOf(9, place(1, 5), place(2, addr)), mapOf(9, place(1, 5), place(2, addr), place(3, 5)))
	}
	for _, n := range []int{31, 32, 33, 60, 127, 128, 500} {
		l = append(l, mapOf(1000, placesOf(n, 1, 1)...), mapOf(1000, placesOf(n, 1000-n, 1)...))
	}
	l = append(l,
		mapOf(9, place(1, 5), place(1, 5)), mapOf(9, place(1, 5), place(1, 6)), mapOf(9, place(2, 5), place(1, 6)), mapOf(9, place(8, 0), place(1, 0)),
		mapOf(9, place(1, 0), place(2, 1), place(2, 2)), mapOf(9, place(1, 0), place(3, 1), place(2, 2)), mapOf(9, place(2, 0), place(1, 1), place(3, 2)), mapOf(9, place(1, 0), place(2, 1), place(1, 2)),
		mapOf(1000, place(128, 0), place(1, 1)), mapOf(1000, place(256, 0), place(255, 1)), mapOf(1000, slices.Repeat(placesOf(3, 1, 1), 9)...),
	)
	backwards := placesOf(30, 1, 1)
	slices.Reverse(backwards)
	twice := append(placesOf(29, 1, 1), place(29, 0))
	return append(l, mapOf(1000, backwards...), mapOf(1000, twice...))
}

func TestMapsThatAreRight(t *testing.T) {
	for _, m := range rightMaps() {
		if !impl.MapOk(m) || !mapByWords(m) {
			t.Errorf("not right: %s", toldMap(m))
		}
	}
	for _, m := range wrongMaps() {
		if impl.MapOk(m) || mapByWords(m) {
			t.Errorf("right: %s", toldMap(m))
		}
	}
}

func TestNothingIsPutOfWhatIsNoMap(t *testing.T) {
	for _, m := range wrongMaps() {
		if b := impl.PutMap(m); len(b) != 0 {
			t.Errorf("of %s is put %x", toldMap(m), b)
		}
	}
}

// checkMap asks whether a map is right, and comes back, just when the words have it so.
func checkMap(t *testing.T, m impl.Map) {
	t.Helper()
	right := mapByWords(m)
	b := impl.PutMap(m)
	if impl.MapOk(m) != right || (len(b) > 0) != right || right && string(b) != mapForm(m) {
		t.Errorf("right: %v, and %x, of %s", impl.MapOk(m), b, toldMap(m))
	}
	back, ok := impl.GetMap(b)
	if ok != right || right && !sameMap(back, m) || !right && !sameMap(back, impl.Map{}) {
		t.Errorf("%s comes back as %s, %v", toldMap(m), toldMap(back), ok)
	}
}

func TestMapsAtTheirEdges(t *testing.T) {
	for _, k := range []struct {
		m     impl.Map
		right bool
	}{
		{mapOf(1), false}, {mapOf(2), true}, {mapOf(1000), true}, {mapOf(1001), false},
		{mapOf(1, place(1, 0)), false}, {mapOf(2, place(0, 0)), false}, {mapOf(2, place(1, 0)), true}, {mapOf(2, place(2, 0)), false},
		{mapOf(1000, place(998, 0)), true}, {mapOf(1000, place(999, 0)), true}, {mapOf(1000, place(1000, 0)), false}, {mapOf(1000, place(1001, 0)), false}, {mapOf(1001, place(1000, 0)), false},
		{mapOf(300, place(298, 0)), true}, {mapOf(300, place(299, 0)), true}, {mapOf(300, place(300, 0)), false}, {mapOf(300, place(301, 0)), false},
		{mapOf(9, place(5, -1)), false}, {mapOf(9, place(5, 0)), true}, {mapOf(9, place(5, 191)), true}, {mapOf(9, place(5, 192)), false},
		{mapOf(9, place(5, 3), place(6, 3)), true}, {mapOf(9, place(5, 3), place(5, 4)), false}, {mapOf(9, place(5, 3), place(4, 3)), false},
		{mapOf(1000, placesOf(29, 1, 1)...), true}, {mapOf(1000, placesOf(30, 1, 1)...), true}, {mapOf(1000, placesOf(31, 1, 1)...), false},
		{mapOf(31, placesOf(30, 1, 1)...), true}, {mapOf(30, placesOf(30, 1, 1)...), false}, {mapOf(1000, placesOf(30, 970, 1)...), true}, {mapOf(1000, placesOf(30, 971, 1)...), false},
		{impl.Map{}, false},
	} {
		if impl.MapOk(k.m) != k.right {
			t.Errorf("right: %v, of %s", !k.right, toldMap(k.m))
		}
		checkMap(t, k.m)
	}
}

// TestMapsOfEveryNumber: each number about the right ones, in each of the three parts, beside some of the others.
func TestMapsOfEveryNumber(t *testing.T) {
	for n := -3; n < 1100; n++ {
		checkMap(t, mapOf(n))
		checkMap(t, mapOf(n, place(1, 0)))
		checkMap(t, mapOf(n, place(500, 130)))
		checkMap(t, mapOf(n, place(n-1, 0)))
		checkMap(t, mapOf(n, place(n, 0)))
		checkMap(t, mapOf(1000, place(n, 7)))
		checkMap(t, mapOf(500, place(200, 1), place(n, 7)))
		checkMap(t, mapOf(9, place(3, n)))
		checkMap(t, mapOf(1000, place(1, 4), place(999, n)))
	}
}

// TestVeryLargeAndVerySmallNumbersInAMap: each number beside each other one, in all three parts.
func TestVeryLargeAndVerySmallNumbersInAMap(t *testing.T) {
	nexts, inos, addrs := append(wrongNexts(), 2, 128, 1000), append(wrongInos(), 1, 127, 999), append(wrongAddrs(), 0, 128, 191)
	for _, next := range nexts {
		for _, ino := range inos {
			for _, addr := range addrs {
				checkMap(t, mapOf(next, place(ino, addr)))
				checkMap(t, mapOf(next, place(1, 0), place(ino, addr)))
			}
		}
	}
}

// TestMapsOfEveryOrder: all lists of at most four out of six numbers, at each Next about them.
func TestMapsOfEveryOrder(t *testing.T) {
	right := 0
	everyText("\x00\x01\x02\x03\x04\x05", 4, func(s string) {
		l := []impl.Place{}
		for i := range len(s) {
			l = append(l, place(int(s[i]), 50*i))
		}
		for next := 1; next <= 7; next++ {
			m := mapOf(next, l...)
			checkMap(t, m)
			if impl.MapOk(m) {
				right++
			}
		}
	})
	// Of each Next from 2 to 7 the choices of at most four out of the numbers ahead of it, 5 at most.
	if right != 2+4+8+16+31+31 {
		t.Error("right are", right)
	}
}

func TestMapsOfEveryCount(t *testing.T) {
	for n := range 400 {
		if impl.MapOk(mapOf(1000, placesOf(n, 1, 1)...)) != (n <= 30) {
			t.Errorf("%d places", n)
		}
		checkMap(t, mapOf(1000, placesOf(n, 1, 1)...))
		checkMap(t, mapOf(1000, placesOf(n, 999-n, 1)...))
	}
}

func TestKnownMaps(t *testing.T) {
	for _, k := range []struct {
		m    impl.Map
		form string
	}{
		{mapOf(2), "\x02\x00"},
		{mapOf(127), "\x7f\x00"},
		{mapOf(128), "\x80\x01\x00"},
		{mapOf(1000), "\xe8\x07\x00"},
		{mapOf(2, place(1, 0)), "\x02\x01\x01\x00"},
		{mapOf(5, place(1, 130), place(4, 0)), "\x05\x02\x01\x82\x01\x04\x00"},
		{mapOf(128, place(127, 127)), "\x80\x01\x01\x7f\x7f"},
		{mapOf(129, place(127, 128), place(128, 127)), "\x81\x01\x02\x7f\x80\x01\x80\x01\x7f"},
		{mapOf(300, place(1, 130), place(200, 0)), "\xac\x02\x02\x01\x82\x01\xc8\x01\x00"},
		{mapOf(1000, place(999, 191)), "\xe8\x07\x01\xe7\x07\xbf\x01"},
		{mapOf(9, place(2, 9), place(3, 9), place(8, 1)), "\x09\x03\x02\x09\x03\x09\x08\x01"},
	} {
		if b := impl.PutMap(k.m); string(b) != k.form {
			t.Errorf("PutMap of %s: %x", toldMap(k.m), b)
		}
		if m, ok := impl.GetMap([]byte(k.form)); !ok || !sameMap(m, k.m) {
			t.Errorf("GetMap of %x: %s, %v", k.form, toldMap(m), ok)
		}
	}
}

// TestMapsArePutOfTheirParts: the bytes are those that the calls of chapter 1 put, one behind the other.
func TestMapsArePutOfTheirParts(t *testing.T) {
	for _, m := range rightMaps() {
		want := impl.PutNum(impl.PutNum(nil, m.Next), len(m.Places))
		for _, p := range m.Places {
			want = impl.PutNum(impl.PutNum(want, p.Ino), p.Addr)
		}
		if b := impl.PutMap(m); string(b) != string(want) {
			t.Errorf("PutMap of %s: %x", toldMap(m), b)
		}
	}
}

func refusedGetMap(t *testing.T, s string) {
	t.Helper()
	if m, ok := impl.GetMap([]byte(s)); ok || !sameMap(m, impl.Map{}) {
		t.Errorf("GetMap of %x: %s, %v", s, toldMap(m), ok)
	}
}

func checkGetMap(t *testing.T, s string) {
	t.Helper()
	want, right := mapOfForm(s)
	if m, ok := impl.GetMap([]byte(s)); ok != right || !sameMap(m, want) {
		t.Errorf("GetMap of %x: %s, %v, not %s, %v", s, toldMap(m), ok, toldMap(want), right)
	}
}

func TestNoMapOfFewBytes(t *testing.T) {
	if m, ok := impl.GetMap(nil); ok || !sameMap(m, impl.Map{}) {
		t.Error("of nil:", toldMap(m), ok)
	}
	refusedGetMap(t, "")
	for c := range 256 {
		one := string([]byte{byte(c)})
		refusedGetMap(t, one)
		for d := range 256 {
			checkGetMap(t, one+string([]byte{byte(d)}))
		}
	}
}

func TestNoMapOfBytesThatEndTooEarly(t *testing.T) {
	for _, m := range rightMaps() {
		b := impl.PutMap(m)
		for k := range b {
			refusedGetMap(t, string(b[:k]))
			for _, part := range [][]byte{b[:k], b[:k:k]} {
				if back, ok := impl.GetMap(part); ok || !sameMap(back, impl.Map{}) {
					t.Errorf("%d bytes of %s are read as %s, %v", k, toldMap(m), toldMap(back), ok)
				}
			}
		}
	}
}

func TestNoMapWithMoreBehindOrAhead(t *testing.T) {
	for _, m := range rightMaps() {
		s := mapForm(m)
		for _, more := range []string{"\x00", "\x01", "\x80", "\xff", "\x01\x00", "\x80\x01", s, strings.Repeat("\x00", 62), numForm(m.Next) + "\x00"} {
			refusedGetMap(t, s+more)
		}
		for _, ahead := range []string{"\x00", "\x01", "\x02", "\x05", "\x80", "\xff", "\xe8\x07", s} {
			checkGetMap(t, ahead+s)
		}
		for k := range s {
			checkGetMap(t, s[k:])
		}
	}
}

// TestNoMapOfACountThatLies: it promises more places than there are, or fewer, by one and by many.
func TestNoMapOfACountThatLies(t *testing.T) {
	counts := []int{0, 1, 2, 3, 15, 29, 30, 31, 32, 60, 61, 127, 128, 16383, 16384, 999999, 1000000}
	for _, m := range rightMaps() {
		s := mapForm(m)
		places := s[len(numForm(m.Next)+numForm(len(m.Places))):]
		for _, n := range append(counts, len(m.Places)-1, len(m.Places)+1, len(places)) {
			if n >= 0 && n != len(m.Places) {
				refusedGetMap(t, numForm(m.Next)+numForm(n)+places)
			}
		}
	}
	for _, n := range counts {
		checkGetMap(t, "\x05"+numForm(n))
		checkGetMap(t, "\x05"+numForm(n)+"\x01")
		checkGetMap(t, "\x05"+numForm(n)+"\x01\x00")
		refusedGetMap(t, "\xe8\x07"+numForm(n)+strings.Repeat("\x01\x00", 100000))
	}
	// More places than a map may have, as many as are promised, and one more or fewer.
	for n := 29; n < 35; n++ {
		for more := -2; more <= 2; more++ {
			checkGetMap(t, "\xe8\x07"+numForm(n+more)+mapForm(mapOf(1000, placesOf(n, 1, 1)...))[3:])
		}
	}
}

func TestNoMapOfOtherForms(t *testing.T) {
	for _, s := range []string{
		// A needless byte in each number, and two.
		"\x85\x00\x02\x01\x02\x04\x00", "\x05\x82\x00\x01\x02\x04\x00", "\x05\x02\x81\x00\x02\x04\x00", "\x05\x02\x01\x82\x00\x04\x00", "\x05\x02\x01\x02\x84\x00\x00", "\x05\x02\x01\x02\x04\x80\x00",
		"\x85\x80\x00\x02\x01\x02\x04\x00", "\x05\x82\x80\x00\x01\x02\x04\x00", "\x05\x02\x81\x80\x00\x02\x04\x00", "\x05\x02\x01\x82\x80\x00\x04\x00", "\x05\x02\x01\x02\x04\x80\x80\x00", "\x05\x80\x00", "\x05\x80\x80\x00", "\xe8\x87\x00\x00",
		// Numbers above MaxNum, and of four bytes.
		"\xc1\x84\x3d\x00", "\xff\xff\x7f\x00", "\x80\x80\x80\x01\x00", "\x85\x80\x80\x00\x00", "\x05\xc1\x84\x3d", "\x05\x80\x80\x80\x00", "\x05\x01\x01\xff\xff\x7f", "\x05\x01\x81\x80\x80\x00\x00", "\x05\x01\x01\x80\x80\x80\x00",
		// Numbers that go on behind the end.
		"\x85", "\x05\x82", "\x05\x02\x01\x02\x04\x80", "\x05\x02\x01\x02\x84", "\x05\x01\x01\x80", "\x05\x01\x81",
	} {
		refusedGetMap(t, s)
		checkGetMap(t, s)
	}
	for _, s := range []string{"\x05\x02\x01\x02\x04\x00", "\x05\x00", "\xe8\x07\x00"} {
		if _, ok := impl.GetMap([]byte(s)); !ok {
			t.Errorf("what the forms above turn is none itself: %x", s)
		}
	}
}

// TestNoMapOfWrongOnes: their bytes are well formed, but not of what is right.
func TestNoMapOfWrongOnes(t *testing.T) {
	asked := 0
	for _, m := range wrongMaps() {
		below := m.Next < 0 || slices.ContainsFunc(m.Places, func(p impl.Place) bool { return p.Ino < 0 || p.Addr < 0 })
		if !below {
			refusedGetMap(t, mapForm(m))
			asked++
		}
	}
	if asked < 100 {
		t.Error("too few of them have a form:", asked)
	}
}

func TestMapsOfEveryTurnedByte(t *testing.T) {
	for _, m := range shortMaps() {
		s := mapForm(m)
		for i := range len(s) {
			for c := range 256 {
				checkGetMap(t, s[:i]+string([]byte{byte(c)})+s[i+1:])
			}
			checkGetMap(t, s[:i]+s[i+1:])
			for _, more := range []string{"\x00", "\x01", "\x05", "\x7f", "\x80", "\xff"} {
				checkGetMap(t, s[:i]+more+s[i:])
			}
		}
	}
}

// TestMapsOfEveryShortBytes: all bytes up to a length.
func TestMapsOfEveryShortBytes(t *testing.T) {
	right := map[int]int{}
	for _, signs := range []string{"\x00\x01\x02\x03\x05", "\x00\x01\x02\x07\x80\xe8", "\x00\x01\x02\x7f\x80\xbf"} {
		everyText(signs, 7, func(s string) {
			checkGetMap(t, s)
			if m, ok := mapOfForm(s); ok {
				right[len(m.Places)]++
			}
		})
	}
	for n := range 3 {
		if right[n] < 10 {
			t.Error("too few of them are right:", right)
		}
	}
}

func TestAnEmptyListIsNilInAMap(t *testing.T) {
	for next := -1; next < 5; next++ {
		for _, none := range [][]impl.Place{nil, {}, placesOf(3, 1, 1)[:0]} {
			m := impl.Map{Next: next, Places: none}
			if impl.MapOk(m) != (next >= 2) || string(impl.PutMap(m)) != string(impl.PutMap(impl.Map{Next: next})) || impl.AddrOf(m, 1) != -1 {
				t.Error("nil and no places are told apart, of the next", next)
			}
		}
	}
	if back, ok := impl.GetMap([]byte("\x05\x00")); !ok || len(back.Places) != 0 || back.Next != 5 {
		t.Error("no places come back as", toldMap(back), ok)
	}
}

// TestVeryManyBytesAndPlacesAreNoMap: however much is handed in, it is answered.
func TestVeryManyBytesAndPlacesAreNoMap(t *testing.T) {
	for _, n := range []int{124, 381, 1000, 3000000} {
		for _, c := range []string{"\x00", "\x01", "\x02", "\x7f", "\x80", "\xff", "\x1e\x01"} {
			refusedGetMap(t, strings.Repeat(c, n))
			refusedGetMap(t, "\x05\xc0\x84\x3d"+strings.Repeat(c, n))
		}
	}
	many := mapOf(1000, placesOf(2000000, 1, 1)...)
	if impl.MapOk(many) || len(impl.PutMap(many)) != 0 || impl.AddrOf(many, 2000000) != addrByWords(many, 2000000) || impl.AddrOf(many, 2000001) != -1 {
		t.Error("two million places")
	}
}

func TestAddrOf(t *testing.T) {
	m := mapOf(1000, place(1, 130), place(4, 0), place(127, 1), place(128, 191), place(999, 7))
	for ino, want := range map[int]int{1: 130, 4: 0, 127: 1, 128: 191, 999: 7, 0: -1, 2: -1, 3: -1, 5: -1, 7: -1, 130: -1, 191: -1, 255: -1, 256 + 1: -1, 998: -1, 1000: -1, 1001: -1} {
		if addr := impl.AddrOf(m, ino); addr != want {
			t.Errorf("of %d: %d", ino, addr)
		}
	}
	for _, ino := range []int{math.MinInt, math.MinInt + 1, -1 << 32, -1000, -128, -4, -1, 0, 1 << 16, 1<<16 + 1, 1 << 32, 1<<32 + 1, 1<<32 + 4, math.MaxInt - 1, math.MaxInt} {
		if addr := impl.AddrOf(m, ino); addr != -1 {
			t.Errorf("of %d: %d", ino, addr)
		}
		if impl.AddrOf(mapOf(1000), ino) != -1 || impl.AddrOf(impl.Map{}, ino) != -1 {
			t.Errorf("of %d, in a map of no places, something is found", ino)
		}
	}
	for ino := range 40 {
		if impl.AddrOf(impl.Map{}, ino) != -1 || impl.AddrOf(mapOf(2), ino) != -1 {
			t.Errorf("of %d, in a map of no places, something is found", ino)
		}
	}
}

// TestAddrOfEachPlace: whatever the map, each number about those that it has.
func TestAddrOfEachPlace(t *testing.T) {
	for _, m := range append(rightMaps(), wrongMaps()...) {
		for _, p := range m.Places {
			for _, ino := range []int{p.Ino, p.Ino - 1, p.Ino + 1, p.Addr, -p.Ino, p.Ino + 256, p.Ino + 1<<32} {
				if addr := impl.AddrOf(m, ino); addr != addrByWords(m, ino) {
					t.Errorf("of %d: %d, in %s", ino, addr, toldMap(m))
				}
			}
		}
		for ino := -1; ino <= 40; ino++ {
			if addr := impl.AddrOf(m, ino); addr != addrByWords(m, ino) {
				t.Errorf("of %d: %d, in %s", ino, addr, toldMap(m))
			}
		}
	}
}

// TestAddrOfTheFirst: where an inode has two places, that of the first one, in whatever order they stand.
func TestAddrOfTheFirst(t *testing.T) {
	for _, m := range []impl.Map{
		mapOf(9, place(4, 7), place(4, 8)), mapOf(9, place(4, 7), place(4, 6)), mapOf(9, place(4, 7), place(4, 7)),
		mapOf(9, place(8, 1), place(4, 7), place(2, 2), place(4, 3)), mapOf(9, place(8, 1), place(5, 0), place(4, 7), place(4, 0), place(4, 9)),
		{Places: []impl.Place{place(0, 0), place(4, 7), place(1, 1), place(4, 5)}}, {Next: -1, Places: []impl.Place{place(9, 9), place(-4, 1), place(4, 7), place(4, -1)}},
	} {
		if addr := impl.AddrOf(m, 4); addr != 7 {
			t.Errorf("%d, in %s", addr, toldMap(m))
		}
	}
	odd := impl.Map{Places: []impl.Place{place(0, 3), place(-5, -9), place(math.MaxInt, math.MinInt), place(1, 500), place(0, 4)}}
	if impl.AddrOf(odd, 0) != 3 || impl.AddrOf(odd, -5) != -9 || impl.AddrOf(odd, math.MaxInt) != math.MinInt || impl.AddrOf(odd, 1) != 500 || impl.AddrOf(odd, 2) != -1 {
		t.Error("of what is not right")
	}
}
