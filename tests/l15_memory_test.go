package tests

import (
	"bytes"
	"slices"
	"testing"
	"unsafe"

	"loop.example/g00285/impl"
)

// roomyTable answers x with its rows within a longer list, and all of that memory. The room behind goes on as a right table would.
func roomyTable(x impl.Table) (impl.Table, []impl.Row) {
	whole := slices.Clone(x.Rows)
	for i := range 8 {
		whole = append(whole, row(91+i, "behind"+nameOf(i), i%2 == 0, 100+i, i))
	}
	x.Rows = whole[:len(x.Rows)]
	return x, whole
}

// memoryTables are tables that are right, and some that are not.
func memoryTables() []impl.Table {
	return slices.Concat(shortTables(), rightTables()[:200], unorderedTables(), []impl.Table{{}, tableOf(0), tableOf(100), tableOf(99, rowsOf(7, 1, 1)...), tableOf(3, rowsOf(3, 1, 1)...)})
}

func TestTablesOfVolumesReadAndWriteNoSpareRoom(t *testing.T) {
	for _, x := range append(memoryTables(), wrongTables()...) {
		in, whole := roomyTable(x)
		kept := slices.Clone(whole)
		if impl.TableOk(in) != impl.TableOk(x) || !bytes.Equal(impl.PutTable(in), impl.PutTable(x)) {
			t.Errorf("%s: what lies behind its rows counts", toldTable(x))
		}
		if !slices.Equal(whole, kept) || !sameTable(in, x) {
			t.Fatalf("%s: its rows, or what lies behind them, were written", toldTable(x))
		}
	}
}

// TestGetTableReadsAndWritesNoSpareRoom: a beginning with the rest of the table behind it is none, and the table is one whatever is behind.
func TestGetTableReadsAndWritesNoSpareRoom(t *testing.T) {
	for _, x := range shortTables() {
		b, whole := roomyText(tableForm(x))
		kept := string(whole)
		for k := range len(b) + 1 {
			back, ok := impl.GetTable(b[:k])
			if ok != (k == len(b)) || ok && !sameTable(back, x) || !ok && !sameTable(back, impl.Table{}) {
				t.Fatalf("%s: %d bytes are read as %s, %v", toldTable(x), k, toldTable(back), ok)
			}
			if string(whole) != kept {
				t.Fatalf("%s: of %d bytes some, or what lies behind them, were written", toldTable(x), k)
			}
		}
		impl.GetTable(whole)
		impl.GetTable(whole[1:])
		if string(whole) != kept {
			t.Fatalf("%s: bytes that go on were written", toldTable(x))
		}
	}
}

func TestPutTableAnswersNewMemory(t *testing.T) {
	for _, x := range memoryTables() {
		in, whole := roomyTable(x)
		kept := slices.Clone(whole)
		first, second := impl.PutTable(in), impl.PutTable(in)
		want := string(second)
		clear(first[:cap(first)])
		if !slices.Equal(whole, kept) {
			t.Errorf("%s: the answer shares memory with the argument", toldTable(x))
		}
		if string(second) != want || string(impl.PutTable(in)) != want {
			t.Errorf("%s: two answers share memory", toldTable(x))
		}
		clear(whole)
		if string(second) != want {
			t.Errorf("%s: the answer turns with the argument", toldTable(x))
		}
	}
}

func TestGetTableAnswersNewMemory(t *testing.T) {
	for _, x := range append(rightTables(), shortTables()...) {
		b, whole := roomyText(tableForm(x))
		kept := string(whole)
		first, _ := impl.GetTable(b)
		second, ok := impl.GetTable(b)
		if !ok || !sameTable(second, x) {
			t.Fatalf("%s comes back as %s, %v", toldTable(x), toldTable(second), ok)
		}
		// The room behind the rows holds none.
		if behind := second.Rows[len(second.Rows):cap(second.Rows)]; slices.ContainsFunc(behind, func(r impl.Row) bool { return r != impl.Row{} }) {
			t.Errorf("%s: %v, behind the rows, is handed out", toldTable(x), behind)
		}
		for i := range first.Rows[:cap(first.Rows)] {
			first.Rows[:cap(first.Rows)][i] = row(-7, "other", true, -7, -7)
		}
		if string(whole) != kept {
			t.Errorf("%s: the answer shares memory with the argument", toldTable(x))
		}
		if !sameTable(second, x) {
			t.Errorf("%s: two answers share memory", toldTable(x))
		}
		clear(whole)
		if !sameTable(second, x) {
			t.Errorf("%s: the answer turns with the argument", toldTable(x))
		}
	}
}

// TestNamesOfATableAreNewMemory: no Name is a piece of the bytes that are read, of another answer, or of another Name.
func TestNamesOfATableAreNewMemory(t *testing.T) {
	for _, x := range append(rightTables(), shortTables()...) {
		b := []byte(tableForm(x))
		whole := unsafe.String(unsafe.SliceData(b), len(b))
		first, _ := impl.GetTable(b)
		second, _ := impl.GetTable(b)
		for i, r := range first.Rows {
			if share(r.Name, whole) {
				t.Errorf("%s: the name at %d shares memory with the argument", toldTable(x), i)
			}
			for k, other := range slices.Concat(second.Rows, first.Rows[:i]) {
				// A text of one byte may be one that the language itself holds.
				if len(r.Name) > 1 && share(r.Name, other.Name) {
					t.Errorf("%s: the names at %d and %d share memory", toldTable(x), i, k)
				}
			}
		}
	}
}

// TestATableThatIsRefusedHandsOutNothing: not even room.
func TestATableThatIsRefusedHandsOutNothing(t *testing.T) {
	for _, x := range append(rightTables(), shortTables()...) {
		s := tableForm(x)
		for _, wrong := range []string{s + "\x00", s[:len(s)-1], "\x00" + s[1:], "\x64" + s[1:], "\x63\x07" + s[2:]} {
			b, whole := roomyText(wrong)
			kept := string(whole)
			back, ok := impl.GetTable(b)
			if ok || len(back.Rows) != 0 || cap(back.Rows) != 0 || back.Next != 0 {
				t.Fatalf("%x is read as %s, %v", wrong, toldTable(back), ok)
			}
			if string(whole) != kept {
				t.Errorf("%x was written", wrong)
			}
		}
	}
}
