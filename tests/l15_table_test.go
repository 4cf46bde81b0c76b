package tests

import (
	"math"
	"slices"
	"strconv"
	"strings"
	"testing"

	"loop.example/g00285/impl"
)

var (
	_ func(impl.Table) bool           = impl.TableOk
	_ func(impl.Table) []byte         = impl.PutTable
	_ func([]byte) (impl.Table, bool) = impl.GetTable
	_ struct {
		Id    int
		Name  string
		Ro    bool
		Limit int
		Map   int
	} = impl.Row{}
	_ struct {
		Next int
		Rows []impl.Row
	} = impl.Table{}
)

// nameOf is the i-th of names that all differ, filled up to some length.
func nameOf(i int) string {
	s := "n" + strconv.Itoa(i)
	return s + strings.Repeat("-", max(i*5%14+1-len(s), 0))
}

// rowsOf are n rows whose Ids begin at one and ascend by a step; all else jumps.
func rowsOf(n, from, step int) []impl.Row {
	l := []impl.Row{}
	for i := range n {
		l = append(l, row(from+i*step, nameOf(i), (i+from)%2 == 0, 32+(i*1301+from*97)%3969, (i*67+from)%192))
	}
	return l
}

// rowsOfLength are six rows whose names have all the same length.
func rowsOfLength(n int) []impl.Row {
	l := rowsOf(6, 90, 1)
	for i, sign := range strings.Split("q z 0 9 _ -", " ") {
		l[i].Name = strings.Repeat(sign, n)
	}
	return l
}

func someLimits() []int {
	return []int{32, 33, 64, 99, 100, 126, 127, 128, 129, 255, 256, 257, 1000, 2047, 2048, 3999, 4000}
}

func rightTables() []impl.Table {
	l := []impl.Table{}
	for n := range 7 {
		l = append(l, tableOf(n+1, rowsOf(n, 1, 1)...), tableOf(99, rowsOf(n, 99-n, 1)...), tableOf(99, rowsOf(n, 1, 16)...), tableOf(70, rowsOf(n, 40, 3)...))
	}
	for next := 1; next <= 99; next++ {
		l = append(l, tableOf(next))
		if id := next - 1; id > 0 {
			l = append(l, tableOf(next, row(id, "a", id%2 == 0, 32, 0)), tableOf(99, row(id, "a", id%2 == 1, 4000, 191)))
		}
	}
	names := rightNames()
	for n := 1; n <= 14; n++ {
		names = append(names, strings.Repeat("x", n), "some-more-than"[:n])
		l = append(l, tableOf(99, rowsOfLength(n)...))
	}
	for _, name := range names {
		l = append(l, tableOf(2, row(1, name, false, 32, 0)), tableOf(9, row(3, name, true, 4000, 191), row(5, "other", false, 128, 128)), tableOf(9, row(3, "other", true, 127, 127), row(8, name, true, 33, 1)))
	}
	for _, limit := range someLimits() {
		l = append(l, tableOf(2, row(1, "m", limit%2 == 0, limit, 5)), tableOf(50, row(7, "m", limit%2 == 1, limit, 150), row(9, "s", true, limit, 150)))
	}
	for at := range 192 {
		l = append(l, tableOf(2, row(1, "m", at%3 == 0, 100, at)), tableOf(50, row(7, "m", at%2 == 0, 200, 191-at), row(49, "s", at%2 == 1, 3000, at)))
	}
	return l
}

// shortTables are few of all kinds, so that each of their bytes can be turned in little time.
func shortTables() []impl.Table {
	l := []impl.Table{
		tableOf(1), tableOf(99), tableOf(2, row(1, "a", false, 32, 0)), tableOf(2, row(1, "a", true, 127, 127)), tableOf(99, row(98, "b", false, 128, 128)), tableOf(99, row(1, "fourteenbytesx", true, 4000, 191)),
		tableOf(4, row(1, "m", false, 100, 9), row(3, "s", true, 32, 9)), tableOf(99, row(97, "a", true, 300, 150), row(98, "b", true, 300, 150)), tableOf(3, row(1, ".a", true, 32, 1), row(2, "..a", true, 32, 1)),
		tableOf(99, rowsOfLength(14)...), tableOf(99, rowsOfLength(1)...), tableOf(7, rowsOf(6, 1, 1)...),
	}
	for n := range 7 {
		l = append(l, tableOf(99, rowsOf(n, 1, 16)...))
	}
	return l
}

// wrongIds are those that no row has, whatever the Next, among them some that a narrower number would take for a right one.
func wrongIds() []int {
	return []int{math.MinInt, math.MinInt + 1, -1 << 32, -99, -2, -1, 0, 99, 100, 101, 127, 128, 129, 256 + 1, 1 << 14, 1<<16 + 1, 1000000, 1000001, 1<<32 + 1, math.MaxInt}
}

// wrongTableNexts are those that no table of volumes has.
func wrongTableNexts() []int {
	return []int{math.MinInt, math.MinInt + 2, -1 << 32, -99, -2, -1, 0, 100, 101, 127, 128, 255, 256 + 9, 1000, 1<<16 + 9, 1000000, 1000001, 1<<32 + 9, math.MaxInt - 1, math.MaxInt}
}

func wrongLimits() []int {
	return []int{math.MinInt, math.MinInt + 100, -1 << 32, -4000, -32, -1, 0, 1, 30, 31, 4001, 4002, 4096 + 32, 16384, 1<<16 + 100, 1000000, 1000001, 1<<32 + 100, math.MaxInt}
}

// wrongRows are wrong by one of their parts, at a Next of 99.
func wrongRows() []impl.Row {
	l := []impl.Row{{}}
	for _, id := range wrongIds() {
		l = append(l, row(id, "w", false, 100, 5), row(id, "w", true, 300, 191))
	}
	for _, name := range wrongNames() {
		l = append(l, row(50, name, false, 100, 5), row(50, name, true, 300, 191))
	}
	for _, limit := range wrongLimits() {
		l = append(l, row(50, "w", false, limit, 5), row(50, "w", true, limit, 191))
	}
	for _, at := range wrongAddrs() {
		l = append(l, row(50, "w", false, 100, at), row(50, "w", true, 300, at))
	}
	return l
}

// wrongTables are wrong by one of their parts, and by several.
func wrongTables() []impl.Table {
	l := []impl.Table{{}, {Rows: rowsOf(3, 1, 1)}}
	for _, next := range wrongTableNexts() {
		l = append(l, tableOf(next), tableOf(next, row(1, "a", false, 100, 5)), tableOf(next, rowsOf(4, 1, 9)...), tableOf(next, row(next-1, "a", false, 100, 5)))
	}
	first, last := row(1, "first", true, 40, 7), row(98, "last", false, 400, 170)
	for _, r := range wrongRows() {
		l = append(l, tableOf(99, r), tableOf(99, r, last), tableOf(99, first, r), tableOf(99, first, r, last), tableOf(99, append(rowsOf(5, 1, 1), r)...))
	}
	for _, next := range []int{1, 2, 3, 50, 97, 98} {
		for _, id := range []int{next, next + 1, 98, 99} {
			l = append(l, tableOf(next, row(max(id, next), "a", false, 100, 5)), tableOf(next, first, row(max(id, next), "a", false, 100, 5)))
		}
	}
	for _, n := range []int{7, 8, 12, 64, 98, 127, 128, 500} {
		l = append(l, tableOf(99, rowsOf(n, 1, 1)...), tableOf(min(n+1, 99), rowsOf(n, 1, 1)...))
	}
	return append(l, unorderedTables()...)
}

// unorderedTables have rows that do not ascend, that come twice, or of which two have one Name.
func unorderedTables() []impl.Table {
	a, b, c := row(1, "a", false, 100, 5), row(2, "b", true, 200, 6), row(3, "c", false, 300, 7)
	named := func(r impl.Row, name string) impl.Row { return row(r.Id, name, r.Ro, r.Limit, r.Map) }
	l := []impl.Table{
		tableOf(9, a, a), tableOf(9, b, a), tableOf(9, a, c, b), tableOf(9, b, a, c), tableOf(9, c, b, a), tableOf(9, a, b, a), tableOf(9, a, b, b), tableOf(9, a, a, b),
		tableOf(9, a, row(1, "b", false, 100, 5)), tableOf(9, a, b, row(2, "c", true, 200, 6)), tableOf(9, a, b, row(1, "c", true, 200, 6)),
		tableOf(9, a, named(b, "a")), tableOf(9, a, b, named(c, "a")), tableOf(9, a, b, named(c, "b")), tableOf(9, a, named(b, "c"), c), tableOf(9, a, row(2, "a", false, 100, 5)),
		tableOf(9, named(a, "fourteenbytesx"), b, named(c, "fourteenbytesx")), tableOf(9, slices.Repeat([]impl.Row{a}, 6)...),
	}
	backwards, twice, alike := rowsOf(6, 1, 1), rowsOf(6, 1, 1), rowsOf(6, 1, 1)
	slices.Reverse(backwards)
	twice[5] = twice[4]
	alike[5].Name = alike[0].Name
	return append(l, tableOf(99, backwards...), tableOf(99, twice...), tableOf(99, alike...))
}

func TestTablesOfVolumesThatAreRight(t *testing.T) {
	for _, x := range append(rightTables(), shortTables()...) {
		if !impl.TableOk(x) || !tableByWords(x) {
			t.Errorf("not right: %s", toldTable(x))
		}
	}
	for _, x := range wrongTables() {
		if impl.TableOk(x) || tableByWords(x) {
			t.Errorf("right: %s", toldTable(x))
		}
	}
}

func TestNothingIsPutOfWhatIsNoTableOfVolumes(t *testing.T) {
	for _, x := range wrongTables() {
		if b := impl.PutTable(x); len(b) != 0 {
			t.Errorf("of %s is put %x", toldTable(x), b)
		}
	}
}

// checkTable asks whether a table is right, and comes back, just when the words have it so.
func checkTable(t *testing.T, x impl.Table) {
	t.Helper()
	right := tableByWords(x)
	b := impl.PutTable(x)
	if impl.TableOk(x) != right || (len(b) > 0) != right || right && string(b) != tableForm(x) {
		t.Errorf("right: %v, and %x, of %s", impl.TableOk(x), b, toldTable(x))
	}
	back, ok := impl.GetTable(b)
	if ok != right || right && !sameTable(back, x) || !right && !sameTable(back, impl.Table{}) {
		t.Errorf("%s comes back as %s, %v", toldTable(x), toldTable(back), ok)
	}
}

func TestTablesOfVolumesAtTheirEdges(t *testing.T) {
	one := func(next, id, limit, at int) impl.Table { return tableOf(next, row(id, "a", true, limit, at)) }
	for _, k := range []struct {
		x     impl.Table
		right bool
	}{
		{tableOf(-1), false}, {tableOf(0), false}, {tableOf(1), true}, {tableOf(2), true}, {tableOf(98), true}, {tableOf(99), true}, {tableOf(100), false},
		{one(0, 1, 100, 5), false}, {one(1, 0, 100, 5), false}, {one(1, 1, 100, 5), false}, {one(2, 0, 100, 5), false}, {one(2, 1, 100, 5), true}, {one(2, 2, 100, 5), false},
		{one(50, 1, 100, 5), true}, {one(50, 48, 100, 5), true}, {one(50, 49, 100, 5), true}, {one(50, 50, 100, 5), false}, {one(50, 51, 100, 5), false}, {one(50, 99, 100, 5), false},
		{one(99, 0, 100, 5), false}, {one(99, 1, 100, 5), true}, {one(99, 98, 100, 5), true}, {one(99, 99, 100, 5), false}, {one(99, 100, 100, 5), false}, {one(100, 98, 100, 5), false}, {one(100, 99, 100, 5), false}, {one(101, 100, 100, 5), false},
		{one(9, 5, 31, 5), false}, {one(9, 5, 32, 5), true}, {one(9, 5, 4000, 5), true}, {one(9, 5, 4001, 5), false},
		{one(9, 5, 100, -1), false}, {one(9, 5, 100, 0), true}, {one(9, 5, 100, impl.MaxAddr), true}, {one(9, 5, 100, impl.MaxAddr+1), false},
		{tableOf(99, rowsOf(impl.MaxVols-1, 1, 1)...), true}, {tableOf(99, rowsOf(impl.MaxVols, 1, 1)...), true}, {tableOf(99, rowsOf(impl.MaxVols+1, 1, 1)...), false},
		{tableOf(7, rowsOf(6, 1, 1)...), true}, {tableOf(6, rowsOf(6, 1, 1)...), false}, {tableOf(99, rowsOf(6, 93, 1)...), true}, {tableOf(99, rowsOf(6, 94, 1)...), false},
		{tableOf(9, row(1, "a", true, 100, 5), row(2, "b", true, 100, 5)), true}, {tableOf(9, row(1, "a", true, 100, 5), row(2, "a", true, 100, 5)), false},
		{tableOf(9, row(1, "b", true, 100, 5), row(2, "a", true, 100, 5)), true}, {tableOf(9, row(2, "a", true, 100, 5), row(1, "b", true, 100, 5)), false}, {tableOf(9, row(2, "a", true, 100, 5), row(2, "b", true, 100, 5)), false},
		{tableOf(9, row(1, "", true, 100, 5)), false}, {tableOf(9, row(1, ".", true, 100, 5)), false}, {tableOf(9, row(1, "..", true, 100, 5)), false}, {tableOf(9, row(1, "...", true, 100, 5)), true},
		{tableOf(9, row(1, "fourteenbytesx", true, 100, 5)), true}, {tableOf(9, row(1, "fifteenbytesxxx", true, 100, 5)), false}, {tableOf(9, row(1, "a/b", true, 100, 5)), false},
		{impl.Table{}, false},
	} {
		if impl.TableOk(k.x) != k.right {
			t.Errorf("right: %v, of %s", !k.right, toldTable(k.x))
		}
		checkTable(t, k.x)
	}
}

// TestTablesOfVolumesOfEveryNumber: each number about the right ones, in each part that is one.
func TestTablesOfVolumesOfEveryNumber(t *testing.T) {
	for n := -3; n < 4200; n++ {
		ro := n%2 == 0
		checkTable(t, tableOf(9, row(3, "a", ro, n, 5)))
		checkTable(t, tableOf(9, row(3, "a", ro, 100, 5), row(4, "b", ro, n, 5)))
		if n > 300 {
			continue
		}
		checkTable(t, tableOf(n))
		checkTable(t, tableOf(n, row(1, "a", ro, 100, 5)))
		checkTable(t, tableOf(n, row(n-1, "a", ro, 100, 5)))
		checkTable(t, tableOf(n, row(n, "a", ro, 100, 5)))
		checkTable(t, tableOf(99, row(n, "a", ro, 100, 5)))
		checkTable(t, tableOf(50, row(20, "a", ro, 100, 5), row(n, "b", ro, 100, 5)))
		checkTable(t, tableOf(9, row(3, "a", ro, 100, n)))
		checkTable(t, tableOf(9, row(3, "a", ro, 100, 5), row(4, "b", ro, 100, n)))
	}
}

// TestVeryLargeAndVerySmallNumbersInATable: each number beside each other one, in all four parts that are numbers.
func TestVeryLargeAndVerySmallNumbersInATable(t *testing.T) {
	nexts, ids, limits, ats := append(wrongTableNexts(), 2, 99), append(wrongIds(), 1, 98), append(wrongLimits(), 32, 4000), append(wrongAddrs(), 0, 191)
	for _, next := range nexts {
		for _, id := range ids {
			for _, limit := range limits {
				for _, at := range ats {
					if x := tableOf(next, row(id, "a", true, limit, at)); impl.TableOk(x) != tableByWords(x) || len(impl.PutTable(x)) > 0 != tableByWords(x) {
						t.Errorf("right: %v, of %s", impl.TableOk(x), toldTable(x))
					}
				}
			}
			checkTable(t, tableOf(next, row(1, "a", false, 100, 5), row(id, "b", true, 100, 5)))
		}
	}
}

// TestTablesOfVolumesOfEveryOrder: all lists of at most four out of six Ids, at each Next about them.
func TestTablesOfVolumesOfEveryOrder(t *testing.T) {
	right := 0
	everyText("\x00\x01\x02\x03\x04\x05", 4, func(s string) {
		l := []impl.Row{}
		for i := range len(s) {
			l = append(l, row(int(s[i]), "dcba"[i:i+1], i%2 == 0, 100, 50*i))
		}
		for next := 0; next <= 7; next++ {
			x := tableOf(next, l...)
			checkTable(t, x)
			if impl.TableOk(x) {
				right++
			}
		}
	})
	// Of each Next from 1 to 7 the choices of at most four out of the Ids ahead of it, 5 at most.
	if right != 1+2+4+8+16+31+31 {
		t.Error("right are", right)
	}
}

// TestTablesOfVolumesOfEveryNames: all lists of at most six out of three names, of which no two may be the same.
func TestTablesOfVolumesOfEveryNames(t *testing.T) {
	for _, names := range [][]string{{"a", "b", "c"}, {"aa", "a", "aaa"}, {"..", "...", "a"}, {"fourteenbytesx", "fourteenbytesy", "fourteenbytes"}} {
		everyText("\x00\x01\x02", 7, func(s string) {
			l := []impl.Row{}
			for i := range len(s) {
				l = append(l, row(i+1, names[s[i]], false, 100, 5))
			}
			checkTable(t, tableOf(20, l...))
		})
	}
}

// TestTwoOfOneName: wherever the two stand, and whatever else they have.
func TestTwoOfOneName(t *testing.T) {
	for n := 2; n <= 6; n++ {
		for i := range n {
			for k := range i {
				l := rowsOf(n, 1, 1)
				l[i].Name = strings.Clone(l[k].Name)
				checkTable(t, tableOf(99, l...))
				if impl.TableOk(tableOf(99, l...)) {
					t.Errorf("of %d rows those at %d and %d have one name", n, k, i)
				}
			}
		}
	}
}

func TestTablesOfVolumesOfEveryName(t *testing.T) {
	everyText("a.A/", 4, func(s string) {
		checkTable(t, tableOf(9, row(1, s, true, 100, 5)))
		checkTable(t, tableOf(9, row(1, "x", true, 100, 5), row(2, s, false, 100, 5)))
	})
	for c := range 256 {
		sign := string([]byte{byte(c)})
		checkTable(t, tableOf(9, row(1, sign, true, 100, 5)))
		checkTable(t, tableOf(9, row(1, "b"+sign+"b", true, 100, 5)))
	}
	for n := range 300 {
		checkTable(t, tableOf(9, row(1, strings.Repeat("a", n), true, 100, 5)))
	}
}

func TestTablesOfVolumesOfEveryCount(t *testing.T) {
	for n := range 200 {
		if impl.TableOk(tableOf(99, rowsOf(n, 1, 1)...)) != (n <= 6) {
			t.Errorf("%d rows", n)
		}
		checkTable(t, tableOf(99, rowsOf(n, 1, 1)...))
		checkTable(t, tableOf(99, rowsOf(n, 99-n, 1)...))
	}
}

func TestKnownTablesOfVolumes(t *testing.T) {
	for _, k := range []struct {
		x    impl.Table
		form string
	}{
		{tableOf(1), "\x01\x00"},
		{tableOf(99), "\x63\x00"},
		{tableOf(2, row(1, "a", false, 32, 0)), "\x02\x01\x01\x01a\x00\x20\x00"},
		{tableOf(2, row(1, "a", true, 32, 0)), "\x02\x01\x01\x01a\x01\x20\x00"},
		{tableOf(4, row(1, "m", false, 100, 9), row(3, "s", true, 32, 9)), "\x04\x02\x01\x01m\x00d\x09\x03\x01s\x01 \x09"},
		{tableOf(99, row(98, "ab", true, 127, 127)), "\x63\x01\x62\x02ab\x01\x7f\x7f"},
		{tableOf(99, row(98, "ab", true, 128, 128)), "\x63\x01\x62\x02ab\x01\x80\x01\x80\x01"},
		{tableOf(99, row(98, "fourteenbytesx", false, 4000, 191)), "\x63\x01\x62\x0efourteenbytesx\x00\xa0\x1f\xbf\x01"},
		{tableOf(5, row(1, "main", false, 1000, 130), row(2, "held", true, 1000, 130)), "\x05\x02\x01\x04main\x00\xe8\x07\x82\x01\x02\x04held\x01\xe8\x07\x82\x01"},
	} {
		if b := impl.PutTable(k.x); string(b) != k.form {
			t.Errorf("PutTable of %s: %x", toldTable(k.x), b)
		}
		if x, ok := impl.GetTable([]byte(k.form)); !ok || !sameTable(x, k.x) {
			t.Errorf("GetTable of %x: %s, %v", k.form, toldTable(x), ok)
		}
	}
}

// TestTablesOfVolumesArePutOfTheirParts: the bytes are those that the calls of chapter 1 put, one behind the other.
func TestTablesOfVolumesArePutOfTheirParts(t *testing.T) {
	for _, x := range rightTables() {
		want := impl.PutNum(impl.PutNum(nil, x.Next), len(x.Rows))
		for _, r := range x.Rows {
			want = impl.PutText(impl.PutNum(want, r.Id), r.Name)
			if r.Ro {
				want = impl.PutNum(want, 1)
			} else {
				want = impl.PutNum(want, 0)
			}
			want = impl.PutNum(impl.PutNum(want, r.Limit), r.Map)
		}
		if b := impl.PutTable(x); string(b) != string(want) {
			t.Errorf("PutTable of %s: %x", toldTable(x), b)
		}
	}
}
