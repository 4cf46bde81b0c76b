package tests

import (
	"slices"
	"strings"
	"testing"

	"loop.example/g00285/impl"
)

// What GetTable takes, and what it refuses.

func refusedGetTable(t *testing.T, s string) {
	t.Helper()
	if x, ok := impl.GetTable([]byte(s)); ok || !sameTable(x, impl.Table{}) {
		t.Errorf("GetTable of %x: %s, %v", s, toldTable(x), ok)
	}
}

func checkGetTable(t *testing.T, s string) {
	t.Helper()
	want, right := tableOfForm(s)
	if x, ok := impl.GetTable([]byte(s)); ok != right || !sameTable(x, want) {
		t.Errorf("GetTable of %x: %s, %v, not %s, %v", s, toldTable(x), ok, toldTable(want), right)
	}
}

func TestNoTableOfVolumesOfFewBytes(t *testing.T) {
	if x, ok := impl.GetTable(nil); ok || !sameTable(x, impl.Table{}) {
		t.Error("of nil:", toldTable(x), ok)
	}
	refusedGetTable(t, "")
	for c := range 256 {
		one := string([]byte{byte(c)})
		refusedGetTable(t, one)
		for d := range 256 {
			checkGetTable(t, one+string([]byte{byte(d)}))
		}
	}
}

func TestNoTableOfVolumesOfBytesThatEndTooEarly(t *testing.T) {
	for _, x := range append(rightTables(), shortTables()...) {
		b := impl.PutTable(x)
		for k := range b {
			refusedGetTable(t, string(b[:k]))
			for _, part := range [][]byte{b[:k], b[:k:k]} {
				if back, ok := impl.GetTable(part); ok || !sameTable(back, impl.Table{}) {
					t.Errorf("%d bytes of %s are read as %s, %v", k, toldTable(x), toldTable(back), ok)
				}
			}
		}
	}
}

func TestNoTableOfVolumesWithMoreBehindOrAhead(t *testing.T) {
	for _, x := range append(rightTables(), shortTables()...) {
		s := tableForm(x)
		for _, more := range []string{"\x00", "\x01", "\x80", "\xff", "\x01\x00", "\x80\x01", s, rowsForm(x.Rows) + "\x00", rowForm(row(98, "y", true, 100, 5)), strings.Repeat("\x00", 40)} {
			refusedGetTable(t, s+more)
		}
		for _, ahead := range []string{"\x00", "\x01", "\x02", "\x63", "\x80", "\xff", "\xe3\x00", s} {
			checkGetTable(t, ahead+s)
		}
		for k := range s {
			checkGetTable(t, s[k:])
		}
	}
}

// TestNoTableOfVolumesOfACountThatLies: it promises more rows than there are, or fewer, by one and by many.
func TestNoTableOfVolumesOfACountThatLies(t *testing.T) {
	counts := []int{0, 1, 2, 3, 5, 6, 7, 8, 12, 13, 127, 128, 129, 16383, 16384, 999999, 1000000}
	for _, x := range append(rightTables(), shortTables()...) {
		rows := rowsForm(x.Rows)
		for _, n := range append(counts, len(x.Rows)-1, len(x.Rows)+1, len(rows)) {
			if n >= 0 && n != len(x.Rows) {
				refusedGetTable(t, numForm(x.Next)+numForm(n)+rows)
			}
		}
	}
	small := rowForm(row(1, "a", false, 32, 0))
	for _, n := range counts {
		for k := range len(small) + 1 {
			checkGetTable(t, "\x05"+numForm(n)+small[:k])
		}
		refusedGetTable(t, "\x63"+numForm(n)+strings.Repeat(small, 100000))
	}
	// More rows than a table may have, as many as are promised, and one more or fewer.
	for n := 4; n < 12; n++ {
		for more := -2; more <= 2; more++ {
			checkGetTable(t, "\x63"+numForm(n+more)+rowsForm(rowsOf(n, 1, 1)))
			if more != 0 || n > 6 {
				refusedGetTable(t, "\x63"+numForm(n+more)+rowsForm(rowsOf(n, 1, 1)))
			}
		}
	}
}

// TestNoTableOfVolumesOfARoThatIsNeither: it is 1 or 0, each in the one form that it has; all else is no flag.
func TestNoTableOfVolumesOfARoThatIsNeither(t *testing.T) {
	ahead, behind := "\x63\x02\x01\x01m", "\x20\x05\x03\x01s"
	for _, ro := range []string{"\x00", "\x01"} {
		if x, ok := impl.GetTable([]byte(ahead + ro + behind + ro + "\x20\x05")); !ok || x.Rows[0].Ro != (ro == "\x01") || x.Rows[1].Ro != x.Rows[0].Ro {
			t.Errorf("a Ro of %x: %s, %v", ro, toldTable(x), ok)
		}
	}
	wrong := []string{"", "\x80\x00", "\x81\x00", "\x80\x80\x00", "\x81\x80\x00", "\x80", "\x81", "\xc1\x84\x3d", "\xff\xff\x7f", "\x81\x80\x80\x00"}
	for n := 2; n < 70000; n++ {
		wrong = append(wrong, numForm(n))
	}
	for _, n := range []int{1 << 17, 1<<17 + 1, 1 << 18, 1<<18 + 1, 1 << 19, 1<<19 + 1, 999999, 1000000} {
		wrong = append(wrong, numForm(n))
	}
	for _, ro := range wrong {
		refusedGetTable(t, ahead+ro+behind+"\x00\x20\x05")
		refusedGetTable(t, ahead+"\x01"+behind+ro+"\x20\x05")
		refusedGetTable(t, "\x63\x01\x01\x01m"+ro+"\x20\x05")
	}
	// In each row of the longest tables.
	for _, x := range shortTables() {
		for i, r := range x.Rows {
			for _, ro := range []string{"\x02", "\x7f", "\x80\x01", "\x81\x02", "\xc0\x84\x3d"} {
				wrongRow := numForm(r.Id) + textForm(r.Name) + ro + numForm(r.Limit) + numForm(r.Map)
				refusedGetTable(t, numForm(x.Next)+numForm(len(x.Rows))+rowsForm(x.Rows[:i])+wrongRow+rowsForm(x.Rows[i+1:]))
			}
		}
	}
}

// TestNoTableOfVolumesOfATextThatLies: it promises more bytes than there are, more than a name has, or fewer than it has.
func TestNoTableOfVolumesOfATextThatLies(t *testing.T) {
	for _, x := range shortTables() {
		for i, r := range x.Rows {
			ahead := numForm(x.Next) + numForm(len(x.Rows)) + rowsForm(x.Rows[:i]) + numForm(r.Id)
			behind := r.Name + rowForm(r)[len(numForm(r.Id)+textForm(r.Name)):] + rowsForm(x.Rows[i+1:])
			for n := range 300 {
				checkGetTable(t, ahead+numForm(n)+behind)
			}
			for _, n := range []int{len(behind), len(behind) + 1, 16384, 999999, 1000000} {
				refusedGetTable(t, ahead+numForm(n)+behind)
			}
			for _, length := range []string{"", "\x80\x00", "\x81\x00", "\x80", "\xff\xff\x7f", "\x80\x80\x80\x00"} {
				refusedGetTable(t, ahead+length+behind)
			}
		}
	}
	for n := range 40 {
		checkGetTable(t, "\x05\x01\x01"+textForm(strings.Repeat("a", n))+"\x00\x20\x00")
	}
	refusedGetTable(t, "\x05\x01\x01"+textForm(strings.Repeat("a", 1000000))+"\x00\x20\x00")
}

func TestNoTableOfVolumesOfOtherForms(t *testing.T) {
	for _, s := range []string{
		// A needless byte in each number, and two.
		"\x83\x00\x01\x02\x01a\x01\x20\x05", "\x03\x81\x00\x02\x01a\x01\x20\x05", "\x03\x01\x82\x00\x01a\x01\x20\x05", "\x03\x01\x02\x81\x00a\x01\x20\x05", "\x03\x01\x02\x01a\x81\x00\x20\x05", "\x03\x01\x02\x01a\x01\xa0\x00\x05", "\x03\x01\x02\x01a\x01\x20\x85\x00",
		"\x83\x80\x00\x01\x02\x01a\x01\x20\x05", "\x03\x81\x80\x00\x02\x01a\x01\x20\x05", "\x03\x01\x82\x80\x00\x01a\x01\x20\x05", "\x03\x01\x02\x81\x80\x00a\x01\x20\x05", "\x03\x01\x02\x01a\x81\x80\x00\x20\x05", "\x03\x01\x02\x01a\x01\xa0\x80\x00\x05", "\x03\x01\x02\x01a\x01\x20\x85\x80\x00",
		"\x03\x80\x00", "\x03\x80\x80\x00", "\x83\x00\x00", "\x03\x01\x02\x01a\x80\x00\x20\x05", "\x03\x01\x02\x01a\x01\xac\x82\x00\x05",
		// Numbers above MaxNum, and of four bytes.
		"\xc1\x84\x3d\x00", "\xff\xff\x7f\x00", "\x83\x80\x80\x00\x00", "\x03\xc1\x84\x3d", "\x03\x80\x80\x80\x00", "\x03\x01\xff\xff\x7f\x01a\x01\x20\x05", "\x03\x01\x02\x01a\x01\xff\xff\x7f\x05", "\x03\x01\x02\x01a\x01\x20\xff\xff\x7f", "\x03\x01\x02\x01a\x01\x20\x85\x80\x80\x00",
		// Numbers that go on behind the end.
		"\x83", "\x03\x81", "\x03\x01\x82", "\x03\x01\x02\x81", "\x03\x01\x02\x01a\x81", "\x03\x01\x02\x01a\x01\xa0", "\x03\x01\x02\x01a\x01\x20\x85",
		// A part left out, and one twice.
		"\x01\x02\x01a\x01\x20\x05", "\x03\x01\x01a\x01\x20\x05", "\x03\x01\x02a\x01\x20\x05", "\x03\x01\x02\x01a\x20\x05", "\x03\x01\x02\x01a\x01\x05", "\x03\x01\x02\x01a\x01\x20", "\x03\x01\x02\x01a\x01\x01\x20\x05", "\x03\x01\x02\x02\x01a\x01\x20\x05",
	} {
		refusedGetTable(t, s)
		checkGetTable(t, s)
	}
	for _, s := range []string{"\x03\x01\x02\x01a\x01\x20\x05", "\x03\x00", "\x03\x01\x02\x01a\x01\xac\x02\x05"} {
		if _, ok := impl.GetTable([]byte(s)); !ok {
			t.Errorf("what the forms above turn is none itself: %x", s)
		}
	}
}

// TestNoTableOfVolumesOfWrongOnes: their bytes are well formed, but not of what is right.
func TestNoTableOfVolumesOfWrongOnes(t *testing.T) {
	asked := 0
	for _, x := range wrongTables() {
		below := x.Next < 0 || slices.ContainsFunc(x.Rows, func(r impl.Row) bool { return r.Id < 0 || r.Limit < 0 || r.Map < 0 })
		if !below {
			refusedGetTable(t, tableForm(x))
			asked++
		}
	}
	if asked < 300 {
		t.Error("too few of them have a form:", asked)
	}
}

func TestTablesOfVolumesOfEveryTurnedByte(t *testing.T) {
	for _, x := range shortTables() {
		s := tableForm(x)
		for i := range len(s) {
			for c := range 256 {
				one := string([]byte{byte(c)})
				checkGetTable(t, s[:i]+one+s[i+1:])
				checkGetTable(t, s[:i]+one+s[i:])
			}
			checkGetTable(t, s[:i]+s[i+1:])
		}
	}
}

// TestTablesOfVolumesOfEveryShortBytes: all bytes up to a length, of some signs, by themselves and behind a beginning.
func TestTablesOfVolumesOfEveryShortBytes(t *testing.T) {
	everyText("\x00\x01\x02\x20a\x80", 7, func(s string) { checkGetTable(t, s) })
	everyText("\x00\x01\x02\x20a\x80", 6, func(s string) {
		checkGetTable(t, "\x04\x01\x01"+s)
		checkGetTable(t, "\x04\x02\x01\x01a\x01\x20\x05\x02"+s)
	})
}

func TestAnEmptyListOfRowsIsNil(t *testing.T) {
	for next := -1; next <= 101; next++ {
		right := next >= 1 && next <= 99
		for _, x := range []impl.Table{{Next: next}, {Next: next, Rows: []impl.Row{}}} {
			if impl.TableOk(x) != right || string(impl.PutTable(x)) != string(impl.PutTable(impl.Table{Next: next})) {
				t.Error("nil and no rows are told apart, of the next", next)
			}
			if back, ok := impl.GetTable(impl.PutTable(x)); ok != right || right && back.Next != next || len(back.Rows) != 0 {
				t.Error("no rows come back as", toldTable(back), ok)
			}
		}
	}
}

// TestVeryManyBytesAndRowsAreNoTable: however much is handed in, it is answered.
func TestVeryManyBytesAndRowsAreNoTable(t *testing.T) {
	for _, n := range []int{140, 381, 1000, 3000000} {
		for _, c := range []string{"\x00", "\x01", "\x02", "a", "\x7f", "\x80", "\xff"} {
			refusedGetTable(t, strings.Repeat(c, n))
			refusedGetTable(t, "\x05\xc0\x84\x3d"+strings.Repeat(c, n))
		}
	}
	// Each row has a name of all the bytes that are left.
	refusedGetTable(t, "\x05\xc0\x84\x3d"+strings.Repeat("\x01"+textForm(strings.Repeat("a", 300000))+"\x00\x20\x00", 12))
	if many := tableOf(99, rowsOf(1000000, 1, 1)...); impl.TableOk(many) || len(impl.PutTable(many)) != 0 {
		t.Error("a million rows")
	}
	if long := tableOf(99, row(1, strings.Repeat("a", 3000000), false, 100, 5)); impl.TableOk(long) || len(impl.PutTable(long)) != 0 {
		t.Error("a name of three million bytes")
	}
}
