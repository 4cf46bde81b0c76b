package tests

import (
	"bytes"
	"slices"
	"testing"

	"loop.example/g00285/impl"
)

// roomyMap answers m with its places within a longer list, and all of that memory. The room behind goes on as a right map would.
func roomyMap(m impl.Map) (impl.Map, []impl.Place) {
	whole := slices.Clone(m.Places)
	for i := range 40 {
		whole = append(whole, place(960+i, i))
	}
	m.Places = whole[:len(m.Places)]
	return m, whole
}

func TestMapsReadAndWriteNoSpareRoom(t *testing.T) {
	for _, m := range append(rightMaps(), wrongMaps()...) {
		in, whole := roomyMap(m)
		kept := slices.Clone(whole)
		if impl.MapOk(in) != impl.MapOk(m) || !bytes.Equal(impl.PutMap(in), impl.PutMap(m)) {
			t.Errorf("%s: what lies behind its places counts", toldMap(m))
		}
		for _, ino := range []int{1, 4, 960, 999, 0, -1} {
			if impl.AddrOf(in, ino) != addrByWords(m, ino) {
				t.Errorf("%s: %d is found behind its places", toldMap(m), ino)
			}
		}
		if !slices.Equal(whole, kept) || !sameMap(in, m) {
			t.Fatalf("%s: its places, or what lies behind them, were written", toldMap(m))
		}
	}
}

// TestGetMapReadsAndWritesNoSpareRoom: a beginning with the rest of the map behind it is none, and the map is one whatever is behind.
func TestGetMapReadsAndWritesNoSpareRoom(t *testing.T) {
	for _, m := range rightMaps() {
		b, whole := roomyText(mapForm(m))
		kept := string(whole)
		for k := range len(b) + 1 {
			back, ok := impl.GetMap(b[:k])
			if ok != (k == len(b)) || ok && !sameMap(back, m) || !ok && !sameMap(back, impl.Map{}) {
				t.Fatalf("%s: %d bytes are read as %s, %v", toldMap(m), k, toldMap(back), ok)
			}
			if string(whole) != kept {
				t.Fatalf("%s: of %d bytes some, or what lies behind them, were written", toldMap(m), k)
			}
		}
		impl.GetMap(whole)
		impl.GetMap(whole[1:])
		if string(whole) != kept {
			t.Fatalf("%s: bytes that go on were written", toldMap(m))
		}
	}
}

func TestPutMapAnswersNewMemory(t *testing.T) {
	for _, m := range append(rightMaps(), wrongMaps()...) {
		in, whole := roomyMap(m)
		kept := slices.Clone(whole)
		first, second := impl.PutMap(in), impl.PutMap(in)
		want := string(second)
		clear(first[:cap(first)])
		if !slices.Equal(whole, kept) {
			t.Errorf("%s: the answer shares memory with the argument", toldMap(m))
		}
		if string(second) != want || string(impl.PutMap(in)) != want {
			t.Errorf("%s: two answers share memory", toldMap(m))
		}
		clear(whole)
		if string(second) != want {
			t.Errorf("%s: the answer turns with the argument", toldMap(m))
		}
	}
}

func TestGetMapAnswersNewMemory(t *testing.T) {
	for _, m := range rightMaps() {
		b, whole := roomyText(mapForm(m))
		kept := string(whole)
		first, _ := impl.GetMap(b)
		second, ok := impl.GetMap(b)
		if !ok || !sameMap(second, m) {
			t.Fatalf("%s comes back as %s, %v", toldMap(m), toldMap(second), ok)
		}
		// The room behind the places holds none.
		if behind := second.Places[len(second.Places):cap(second.Places)]; slices.ContainsFunc(behind, func(p impl.Place) bool { return p != place(0, 0) }) {
			t.Errorf("%s: %v, behind the places, is handed out", toldMap(m), behind)
		}
		for i := range first.Places[:cap(first.Places)] {
			first.Places[:cap(first.Places)][i] = place(-7, -7)
		}
		if string(whole) != kept {
			t.Errorf("%s: the answer shares memory with the argument", toldMap(m))
		}
		if !sameMap(second, m) {
			t.Errorf("%s: two answers share memory", toldMap(m))
		}
		clear(whole)
		if !sameMap(second, m) {
			t.Errorf("%s: the answer turns with the argument", toldMap(m))
		}
	}
}

// TestAMapThatIsRefusedHandsOutNothing: not even room.
func TestAMapThatIsRefusedHandsOutNothing(t *testing.T) {
	for _, m := range rightMaps() {
		s := mapForm(m)
		for _, wrong := range []string{s + "\x00", s[:len(s)-1], "\x01" + s[1:], "\xe9\x07" + s} {
			b, whole := roomyText(wrong)
			kept := string(whole)
			back, ok := impl.GetMap(b)
			if ok || len(back.Places) != 0 || cap(back.Places) != 0 || back.Next != 0 {
				t.Fatalf("%x is read as %s, %v", wrong, toldMap(back), ok)
			}
			if string(whole) != kept {
				t.Errorf("%x was written", wrong)
			}
		}
	}
}
