package tests

import (
	"fmt"
	"math/rand/v2"
	"slices"
	"testing"

	"loop.example/g00285/impl"
)

// Promise 15: tables come back of their bytes.

func checkTableComesBack(t *testing.T, x impl.Table) {
	t.Helper()
	b := impl.PutTable(x)
	if string(b) != tableForm(x) {
		t.Fatalf("PutTable of %s: %x", toldTable(x), b)
	}
	back, ok := impl.GetTable(b)
	if !ok || back.Next != x.Next || !slices.Equal(back.Rows, x.Rows) || !impl.TableOk(back) {
		t.Fatalf("%s comes back as %s, %v", toldTable(x), toldTable(back), ok)
	}
	if string(impl.PutTable(back)) != string(b) {
		t.Fatalf("%s is put anew as other bytes", toldTable(x))
	}
}

func TestTablesOfVolumesComeBack(t *testing.T) {
	for _, x := range append(rightTables(), shortTables()...) {
		checkTableComesBack(t, x)
	}
}

// TestTablesOfEachPartComeBack: all limits, all maps, and all Ids, each with both of what Ro may be.
func TestTablesOfEachPartComeBack(t *testing.T) {
	for _, ro := range []bool{false, true} {
		for limit := 32; limit <= 4000; limit++ {
			checkTableComesBack(t, tableOf(2, row(1, "m", ro, limit, limit%192)))
		}
		for at := range 192 {
			for _, limit := range someLimits() {
				checkTableComesBack(t, tableOf(99, row(98, "m", ro, limit, at)))
			}
		}
		for id := 1; id <= 98; id++ {
			for next := id + 1; next <= 99; next++ {
				checkTableComesBack(t, tableOf(next, row(id, "m", ro, 100+next, id)))
			}
		}
	}
}

// TestTablesOfEveryRoComeBack: each row of each count for itself.
func TestTablesOfEveryRoComeBack(t *testing.T) {
	for n := range 7 {
		for flags := range 1 << n {
			l := rowsOf(n, 20, 7)
			for i := range l {
				l[i].Ro = flags>>i&1 == 1
			}
			checkTableComesBack(t, tableOf(99, l...))
		}
	}
}

// TestTablesOfEachLengthOfNamesComeBack: of two rows each length beside each other one.
func TestTablesOfEachLengthOfNamesComeBack(t *testing.T) {
	for n := 1; n <= 14; n++ {
		for k := 1; k <= 14; k++ {
			checkTableComesBack(t, tableOf(9, row(1, "aaaaaaaaaaaaaa"[:n], n%2 == 0, 32, 0), row(8, "bbbbbbbbbbbbbb"[:k], k%2 == 0, 4000, 191)))
		}
	}
}

// anyName is a right one.
func anyName(r *rand.Rand) string {
	for {
		b := make([]byte, 1+r.IntN(14))
		for i := range b {
			b[i] = "abcdefghijklmnopqrstuvwxyz0123456789_-."[r.IntN(39)]
		}
		if nameByForm(string(b)) {
			return string(b)
		}
	}
}

// anyTable is a right one.
func anyTable(r *rand.Rand) impl.Table {
	next := 1 + r.IntN(99)
	ids := r.Perm(next - 1)[:r.IntN(min(next-1, 6)+1)]
	slices.Sort(ids)
	x, taken := tableOf(next), map[string]bool{}
	for _, id := range ids {
		name := anyName(r)
		for taken[name] {
			name = anyName(r)
		}
		taken[name] = true
		x.Rows = append(x.Rows, row(id+1, name, r.IntN(2) == 0, 32+r.IntN(3969), r.IntN(192)))
	}
	return x
}

func TestAnyTablesOfVolumesComeBack(t *testing.T) {
	r := rand.New(rand.NewPCG(15, 1))
	counts := map[int]int{}
	for range 30000 {
		x := anyTable(r)
		checkTableComesBack(t, x)
		counts[len(x.Rows)]++
	}
	for n := range 7 {
		if counts[n] < 1000 {
			t.Errorf("too few tables of %d rows: %d", n, counts[n])
		}
	}
}

// turnRow turns one part of a row.
func turnRow(r *rand.Rand, x *impl.Row, by int) {
	switch r.IntN(5) {
	case 0:
		x.Id += by
	case 1:
		x.Name = []string{"", ".", "..", "a", "A", x.Name + "a", x.Name + "/"}[r.IntN(7)]
	case 2:
		x.Ro = !x.Ro
	case 3:
		x.Limit += by * 1000
	case 4:
		x.Map += by * 96
	}
}

// turnedTable has one part, or two, other than x, and is often wrong.
func turnedTable(r *rand.Rand, x impl.Table) impl.Table {
	x.Rows = slices.Clone(x.Rows)
	for range 1 + r.IntN(2) {
		n := len(x.Rows)
		switch by := r.IntN(5) - 2; {
		case n == 0 || r.IntN(6) == 0:
			x.Next += by
		case r.IntN(2) == 0:
			turnRow(r, &x.Rows[r.IntN(n)], by)
		case r.IntN(3) == 0:
			i, k := r.IntN(n), r.IntN(n)
			x.Rows[i], x.Rows[k] = x.Rows[k], x.Rows[i]
		case r.IntN(2) == 0:
			x.Rows[r.IntN(n)].Name = x.Rows[r.IntN(n)].Name
		default:
			x.Rows = slices.Insert(x.Rows, r.IntN(n+1), x.Rows[r.IntN(n)])
		}
	}
	return x
}

// TestAnyTablesOfVolumesThatAreTurned: they come back just when they are right.
func TestAnyTablesOfVolumesThatAreTurned(t *testing.T) {
	r := rand.New(rand.NewPCG(15, 2))
	right := 0
	for range 60000 {
		x := turnedTable(r, anyTable(r))
		checkTable(t, x)
		if impl.TableOk(x) {
			right++
		}
	}
	if right < 5000 || right > 55000 {
		t.Error("right are", right)
	}
}

// partsOfTables are pieces of which bytes of tables are made, right and wrong ones.
func partsOfTables() []string {
	l := []string{"\x00", "\x01", "\x02", "\x20", "\x80\x01", "\xff\x01", "\x01a", "\x02.b", "\x01A"}
	for id := 1; id <= 3; id++ {
		for _, ro := range []string{"\x00", "\x01", "\x02", "\x81\x00"} {
			l = append(l, numForm(id)+textForm("abc"[id-1:id])+ro+numForm(30+id*90)+numForm(id*64-1))
		}
	}
	return l
}

// TestWhatIsReadAsATableIsPutAsTheSameBytes: no two forms are read as one table.
func TestWhatIsReadAsATableIsPutAsTheSameBytes(t *testing.T) {
	r, parts := rand.New(rand.NewPCG(15, 3)), partsOfTables()
	read := map[int]int{}
	for range 400000 {
		n := r.IntN(4)
		s := numForm(r.IntN(6)) + numForm(n)
		for range max(n+r.IntN(5)/4-r.IntN(5)/4, 0) {
			// Mostly whole rows.
			from := 9 * min(r.IntN(10), 1)
			s += parts[from+r.IntN(len(parts)-from)]
		}
		checkGetTable(t, s)
		if x, ok := impl.GetTable([]byte(s)); ok {
			read[len(x.Rows)]++
			if !impl.TableOk(x) || string(impl.PutTable(x)) != s {
				t.Fatalf("%x is read as %s, which is put as %x", s, toldTable(x), impl.PutTable(x))
			}
		}
	}
	for n := range 4 {
		if read[n] < 50 {
			t.Error("too few of them are tables:", read)
		}
	}
}

// TestAnyBytesAreATableOrNot: bytes of any kind, and those of tables with some of them struck.
func TestAnyBytesAreATableOrNot(t *testing.T) {
	r := rand.New(rand.NewPCG(15, 4))
	for range 100000 {
		checkGetTable(t, anyBytes(r, r.IntN(140)))
		b := []byte(tableForm(anyTable(r)))
		for range 1 + r.IntN(3) {
			b[r.IntN(len(b))] = byte(r.IntN(256))
		}
		checkGetTable(t, string(b))
	}
}

// TestNoTwoTablesHaveOneForm: what differs in any part differs in its bytes.
func TestNoTwoTablesHaveOneForm(t *testing.T) {
	forms := map[string]string{}
	r := rand.New(rand.NewPCG(15, 5))
	l := append(rightTables(), shortTables()...)
	for range 20000 {
		l = append(l, anyTable(r))
	}
	for _, x := range l {
		s := string(impl.PutTable(x))
		if was, there := forms[s]; there && was != toldTable(x) {
			t.Errorf("%s and %s are put as %x", was, toldTable(x), s)
		}
		forms[s] = toldTable(x)
	}
}

// TestTablesOfVolumesFitIntoRecords: the longest one is written to a log, and comes back of it.
func TestTablesOfVolumesFitIntoRecords(t *testing.T) {
	longest := 0
	for _, x := range append(rightTables(), shortTables()...) {
		longest = max(longest, len(impl.PutTable(x)))
		l, addr, code := impl.Write(newLog(3), impl.RecTable, impl.PutTable(x), 1)
		if code != impl.FsGood {
			t.Fatalf("%s: the code %d", toldTable(x), code)
		}
		r, _ := impl.ReadAt(l, addr, impl.RecTable)
		if back, ok := impl.GetTable(r.Body); !ok || !sameTable(back, x) {
			t.Errorf("%s comes back of a log as %s, %v", toldTable(x), toldTable(back), ok)
		}
	}
	full := rowsOfLength(14)
	for i := range full {
		full[i].Limit, full[i].Map = 4000-i, 191-i
	}
	// Next, the count, and of each row the Id, 15 bytes of the Name, the Ro, and two numbers of two bytes.
	if b := impl.PutTable(tableOf(99, full...)); len(b) != 2+6*21 || longest > len(b) {
		t.Errorf("the longest table has %d, or %d", len(b), longest)
	}
}

// TestATableOfEachFileSystem: what has a row of each of its volumes is right when the file system is, and comes back.
func TestATableOfEachFileSystem(t *testing.T) {
	for _, f := range rightFs() {
		x := tableOf(f.Next)
		for i, v := range f.Vols {
			x.Rows = append(x.Rows, row(v.Id, v.Name, v.Ro, v.Limit, i*38))
		}
		checkTableComesBack(t, x)
	}
}

func TestTablesOfVolumesKeepNothing(t *testing.T) {
	wants := map[string]string{}
	l := append(shortTables(), wrongTables()...)
	for range 3 {
		for i, x := range l {
			back, ok := impl.GetTable(impl.PutTable(x))
			s := fmt.Sprintf("%v %x %s %v", impl.TableOk(x), impl.PutTable(x), toldTable(back), ok)
			name := fmt.Sprint(i, toldTable(x))
			if want, was := wants[name]; was && s != want {
				t.Errorf("%s hangs on the calls ahead: %s, not %s", toldTable(x), s, want)
			}
			wants[name] = s
			impl.GetTable([]byte("\x63\x02\x01\x01m\x01\x20\x05\x03\x01s\x02"))
			impl.GetTable(nil)
			impl.PutTable(impl.Table{})
		}
	}
}
