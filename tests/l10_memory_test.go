package tests

import (
	"bytes"
	"fmt"
	"slices"
	"strings"
	"testing"

	"loop.example/g00285/impl"
)

// roomyChip is a chip all of whose lists lie within longer ones, and all of that memory.
type roomyChip struct {
	in     impl.Chip
	blocks []impl.Block
	pages  [][]impl.Page
	bytes  [][]byte
}

func roomOf(c impl.Chip) roomyChip {
	r := roomyChip{}
	for _, b := range c.Blocks {
		pages := []impl.Page{}
		for _, p := range b.Pages {
			whole := append(slices.Clone(p.B), bytes.Repeat([]byte{0xa5}, 450)...)
			pages = append(pages, impl.Page{Used: p.Used, B: whole[:len(p.B)]})
			r.bytes = append(r.bytes, whole)
		}
		for range 10 {
			pages = append(pages, impl.Page{Used: true, B: []byte("ROOM")})
		}
		r.pages = append(r.pages, pages)
		r.blocks = append(r.blocks, impl.Block{Pages: pages[:len(b.Pages)], Wear: b.Wear, Bad: b.Bad})
	}
	for i := range 30 {
		r.blocks = append(r.blocks, block(1000+i, false, "ROOM"))
	}
	r.in = chip(r.blocks[:len(c.Blocks)]...)
	return r
}

func (r roomyChip) told() string {
	s := &strings.Builder{}
	fmt.Fprint(s, len(r.in.Blocks), toldChip(chip(r.blocks...)))
	for _, pages := range r.pages {
		s.WriteString(toldBlock(impl.Block{Pages: pages}))
	}
	for _, b := range r.bytes {
		fmt.Fprintf(s, "%d:%s", len(b), b)
	}
	return s.String()
}

func (r roomyChip) overwrite() {
	for _, b := range r.bytes {
		clear(b)
	}
	for _, pages := range r.pages {
		clear(pages)
	}
	clear(r.blocks)
}

func overwriteBlock(b impl.Block) {
	for _, p := range b.Pages {
		clear(p.B[:cap(p.B)])
	}
	clear(b.Pages[:cap(b.Pages)])
}

func overwriteChip(c impl.Chip) {
	for _, b := range c.Blocks {
		overwriteBlock(b)
	}
	clear(c.Blocks[:cap(c.Blocks)])
}

// memoryChips are chips with pages of each kind, and some that are not right.
func memoryChips() []impl.Chip {
	l := []impl.Chip{impl.ChipNew(3), impl.ChipNew(24), mixedChip(4), fullChip(), chip(block(3, false, "a", "", "bytes"), block(99999, true, pagesUpTo(8)...), block(100000, false, pagesUpTo(8)...), block(0, false, pagesUpTo(7)...)), {}}
	for i, c := range wrongChips() {
		if i%13 == 0 {
			l = append(l, c)
		}
	}
	return l
}

// memoryCalls are calls that some chips take, and some that none takes.
func memoryCalls() []askedChip {
	return []askedChip{
		askProgram(0, "some bytes"), askProgram(0, ""), askProgram(2, strings.Repeat("x", 400)), askErase(0), askErase(1), askErase(2), askErase(3),
		askProgram(1, "x"), askProgram(3, strings.Repeat("x", 401)), askProgram(-1, "x"), askProgram(99, "x"), askErase(-1), askErase(24),
	}
}

// ofBytes is the call with these bytes, and no others.
func (a askedChip) ofBytes(c impl.Chip, b []byte) (impl.Chip, int) {
	if a.call == "Erase" {
		return impl.Erase(c, a.blk)
	}
	return impl.Program(c, a.blk, b)
}

// roomyBytes answers what a call hands in within longer bytes, and all of these.
func roomyBytes(a askedChip) ([]byte, []byte) {
	whole := append([]byte(a.b), bytes.Repeat([]byte{0xa5}, 500)...)
	return whole[:len(a.b)], whole
}

func checkAskedWithRoom(t *testing.T, i int, c impl.Chip, r roomyChip) {
	t.Helper()
	if impl.ChipOk(r.in) != impl.ChipOk(c) || impl.WornOf(r.in) != impl.WornOf(c) {
		t.Errorf("chip %d: what lies behind its lists counts", i)
	}
	for blk := -1; blk < 30; blk++ {
		if impl.NextPage(r.in, blk) != impl.NextPage(c, blk) {
			t.Errorf("chip %d: NextPage of %d reads what lies behind", i, blk)
		}
		for page := -1; page < 12; page++ {
			got, ok := impl.ReadPage(r.in, blk, page)
			if want, wanted := impl.ReadPage(c, blk, page); !bytes.Equal(got, want) || ok != wanted {
				t.Errorf("chip %d: ReadPage of %d, %d reads what lies behind", i, blk, page)
			}
		}
	}
}

func TestChipCallsReadAndWriteNoSpareRoom(t *testing.T) {
	for i, c := range memoryChips() {
		r := roomOf(c)
		kept := r.told()
		checkAskedWithRoom(t, i, c, r)
		if r.told() != kept {
			t.Fatalf("chip %d: an argument, or what lies behind it, was written by a call that asks", i)
		}
		for _, a := range memoryCalls() {
			b, whole := roomyBytes(a)
			keptBytes := string(whole)
			got, code := a.ofBytes(r.in, b)
			if want, wantCode := a.of(c); toldChip(got) != toldChip(want) || code != wantCode {
				t.Errorf("chip %d: %s reads what lies behind: %d, %s", i, a, code, toldChip(got))
			}
			if string(whole) != keptBytes {
				t.Fatalf("chip %d: %s: its bytes, or what lies behind them, were written", i, a)
			}
		}
		if r.told() != kept {
			t.Fatalf("chip %d: an argument, or what lies behind it, was written", i)
		}
	}
}

func TestChipCallsAnswerNewMemory(t *testing.T) {
	for i, c := range memoryChips() {
		for _, a := range memoryCalls() {
			r := roomOf(c)
			b, whole := roomyBytes(a)
			kept, keptBytes := r.told(), string(whole)
			first, _ := a.ofBytes(r.in, b)
			second, _ := a.ofBytes(r.in, b)
			want := toldChip(second)
			overwriteChip(first)
			if r.told() != kept || string(whole) != keptBytes {
				t.Errorf("chip %d: %s: the answer shares memory with an argument", i, a)
			}
			if third, _ := a.ofBytes(r.in, b); toldChip(second) != want || toldChip(third) != want {
				t.Errorf("chip %d: %s: two answers share memory", i, a)
			}
			r.overwrite()
			clear(whole)
			if toldChip(second) != want {
				t.Errorf("chip %d: %s: the answer turns with an argument", i, a)
			}
		}
	}
}

// pagesRead are the answers of ReadPage, of all pages of a chip.
func pagesRead(c impl.Chip) [][]byte {
	l := [][]byte{}
	for blk := range c.Blocks {
		for page := range c.Blocks[blk].Pages {
			b, _ := impl.ReadPage(c, blk, page)
			l = append(l, b)
		}
	}
	return l
}

func TestReadPageAnswersNewMemory(t *testing.T) {
	for i, c := range append(memoryChips(), sharingChips()...) {
		r := roomOf(c)
		kept, want := r.told(), fmt.Sprintf("%q", pagesRead(c))
		first, second := pagesRead(r.in), pagesRead(r.in)
		for _, b := range second {
			if bytes.Contains(b[len(b):cap(b)], []byte{0xa5}) {
				t.Errorf("chip %d: what lies behind a page is handed out", i)
			}
		}
		for _, b := range first {
			clear(b[:cap(b)])
		}
		if r.told() != kept {
			t.Errorf("chip %d: a page that is read shares memory with the chip", i)
		}
		if fmt.Sprintf("%q", second) != want || fmt.Sprintf("%q", pagesRead(r.in)) != want {
			t.Errorf("chip %d: two answers share memory, or what lies behind is read", i)
		}
		r.overwrite()
		if fmt.Sprintf("%q", second) != want {
			t.Errorf("chip %d: a page that was read turns with the chip", i)
		}
	}
}

// sharingChips are chips all of whose lists are the same memory: a right one, and one that is not.
func sharingChips() []impl.Chip {
	one := []byte("the same bytes")
	b := block(1, false)
	for place := range 7 {
		b.Pages[place] = impl.Page{Used: true, B: one}
	}
	worn := b
	worn.Wear = -1
	return []impl.Chip{chip(b, b, b, b), chip(b, worn, b)}
}

// checkBlocksShareNone writes over each block of an answer, and over the bytes of each of its pages: all else must stay.
func checkBlocksShareNone(t *testing.T, name string, answer func() impl.Chip) {
	t.Helper()
	for blk, b := range answer().Blocks {
		got := answer()
		others := slices.Delete(slices.Clone(got.Blocks), blk, blk+1)
		want := toldChip(chip(others...))
		overwriteBlock(got.Blocks[blk])
		if toldChip(chip(others...)) != want {
			t.Errorf("%s: the block %d shares memory with another one", name, blk)
		}
		for page := range b.Pages {
			got := answer()
			kept := got.Blocks[blk].Pages[page].B
			got.Blocks[blk].Pages[page].B = nil
			want := toldChip(got)
			clear(kept[:cap(kept)])
			if toldChip(got) != want {
				t.Errorf("%s: the page %d of %d shares memory with another one", name, page, blk)
			}
		}
	}
}

func TestBlocksOfOneChipShareNone(t *testing.T) {
	for _, c := range sharingChips() {
		own := c.Blocks[0].Pages[0].B
		for _, a := range memoryCalls() {
			checkBlocksShareNone(t, a.String(), func() impl.Chip {
				d, _ := a.of(c)
				return d
			})
		}
		// What is programmed may be bytes of the chip itself.
		checkBlocksShareNone(t, "Program of a page's own bytes", func() impl.Chip {
			d, _ := impl.Program(c, 1, own)
			return d
		})
	}
	checkBlocksShareNone(t, "ChipNew", func() impl.Chip { return impl.ChipNew(5) })
}

// TestTheSpareRoomOfAChipIsItsOwn: what is put behind a list of an answer is not to be seen in another one.
func TestTheSpareRoomOfAChipIsItsOwn(t *testing.T) {
	for _, answer := range []func() impl.Chip{
		func() impl.Chip { return impl.ChipNew(24) },
		func() impl.Chip { d, _ := impl.Program(fullChip(), 0, nil); return d },
		func() impl.Chip { d, _ := impl.Erase(fullChip(), 0); return d },
	} {
		c := answer()
		want := toldChip(c)
		for _, b := range c.Blocks {
			_ = append(b.Pages, impl.Page{Used: true, B: []byte("behind")})
			for _, p := range b.Pages {
				_ = append(p.B, "behind"...)
			}
		}
		if toldChip(c) != want {
			t.Error("what is put behind one list is in another")
		}
	}
}

// TestWhatIsErasedIsNotHandedOut: the spare room behind an erased block's lists has nothing of its pages.
func TestWhatIsErasedIsNotHandedOut(t *testing.T) {
	c := chip(block(0, false), block(0, false, slices.Repeat([]string{"secret"}, 8)...), block(0, false))
	d := mustChip(t, c, askErase(1))
	for _, p := range d.Blocks[1].Pages[:cap(d.Blocks[1].Pages)] {
		if p.Used || bytes.Contains(p.B[:cap(p.B)], []byte("secret")) {
			t.Errorf("of what is erased there is still %s", toldPage(p))
		}
	}
}

func TestNewChipsAreNewMemory(t *testing.T) {
	first, second := impl.ChipNew(5), impl.ChipNew(5)
	overwriteChip(first)
	if toldChip(second) != toldChip(chipNewByWords(5)) || toldChip(impl.ChipNew(5)) != toldChip(second) {
		t.Error("two new chips share memory")
	}
}

func TestChipsKeepNothing(t *testing.T) {
	c, other := memoryChips()[4], fullChip()
	wants := map[askedChip]string{}
	for range 3 {
		for _, a := range memoryCalls() {
			d, code := a.of(c)
			b, ok := impl.ReadPage(c, 0, 2)
			s := fmt.Sprint(toldChip(d), code, string(b), ok, impl.NextPage(c, 3), impl.WornOf(c), impl.ChipOk(c))
			if want, was := wants[a]; was && s != want {
				t.Errorf("%s hangs on the calls ahead: %s, not %s", a, s, want)
			}
			wants[a] = s
			a.of(other)
			a.of(impl.Chip{})
			impl.ReadPage(other, 0, 0)
		}
	}
}

// TestVeryLargeChips: however much is handed in, it is answered.
func TestVeryLargeChips(t *testing.T) {
	many := chip(slices.Repeat([]impl.Block{block(1, false, "a")}, 20000)...)
	long := chip(block(0, false), block(0, false, slices.Repeat([]string{"p"}, 100000)...), block(0, false, strings.Repeat("x", 1<<22)))
	for _, c := range []impl.Chip{many, long} {
		if impl.ChipOk(c) {
			t.Error("so much is a chip")
		}
		for _, a := range []askedChip{askProgram(1, "x"), askProgram(1, strings.Repeat("x", 1<<22)), askErase(1), askErase(19999)} {
			refusedChip(t, c, a, impl.FsForm)
		}
	}
	if impl.WornOf(many) != 20000 || impl.NextPage(many, 19999) != 1 || impl.NextPage(many, 20000) != -1 || impl.NextPage(long, 1) != 100000 {
		t.Error("blocks or pages that are far behind are not counted")
	}
	if b, ok := impl.ReadPage(long, 1, 99999); string(b) != "p" || !ok {
		t.Error("a page that is far behind is read as", b, ok)
	}
	if b, ok := impl.ReadPage(long, 2, 0); len(b) != 1<<22 || !ok {
		t.Error("of a long page are read", len(b), ok)
	}
}
