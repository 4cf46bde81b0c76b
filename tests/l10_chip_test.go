package tests

import (
	"math"
	"slices"
	"strings"
	"testing"

	"loop.example/g00285/impl"
)

var (
	_ func(int) impl.Chip                           = impl.ChipNew
	_ func(impl.Chip) bool                          = impl.ChipOk
	_ func(impl.Chip, int) int                      = impl.NextPage
	_ func(impl.Chip, int, []byte) (impl.Chip, int) = impl.Program
	_ func(impl.Chip, int) (impl.Chip, int)         = impl.Erase
	_ func(impl.Chip, int, int) ([]byte, bool)      = impl.ReadPage
	_ func(impl.Chip) int                           = impl.WornOf
	_ struct{ Blocks []impl.Block }                 = impl.Chip{}
	_ struct {
		Pages []impl.Page
		Wear  int
		Bad   bool
	} = impl.Block{}
	_ struct {
		Used bool
		B    []byte
	} = impl.Page{}
)

func TestChipConstants(t *testing.T) {
	if impl.PagesPer != 8 || impl.PageMax != 400 || impl.MaxBlocks != 24 {
		t.Error("the constants are", impl.PagesPer, impl.PageMax, impl.MaxBlocks)
	}
}

// farNumbers are no places of anything, and those that a narrower number would take for one.
func farNumbers() []int {
	return []int{math.MinInt, math.MinInt + 1, -1 << 32, -256, -25, -24, -9, -8, -3, -2, -1, 256, 257, 400, 1 << 16, 1<<32 + 1, 1 << 62, math.MaxInt - 1, math.MaxInt}
}

func placesAround(n int) []int {
	l := farNumbers()
	for i := range n + 3 {
		l = append(l, i)
	}
	return l
}

// checkAsked holds all that is asked of a chip against the words.
func checkAsked(t *testing.T, c impl.Chip) {
	t.Helper()
	if got := impl.ChipOk(c); got != chipByWords(c) {
		t.Errorf("ChipOk is %v of %s", got, toldChip(c))
	}
	if got := impl.WornOf(c); got != wornByWords(c) {
		t.Errorf("WornOf is %d, not %d", got, wornByWords(c))
	}
	for _, blk := range placesAround(len(c.Blocks)) {
		if got := impl.NextPage(c, blk); got != nextByWords(c, blk) {
			t.Errorf("NextPage of %d is %d, not %d, of %s", blk, got, nextByWords(c, blk), toldChip(c))
		}
		pages := 8
		if blk >= 0 && blk < len(c.Blocks) {
			pages = len(c.Blocks[blk].Pages)
		}
		for _, page := range placesAround(pages) {
			b, ok := impl.ReadPage(c, blk, page)
			if want, wanted := pageByWords(c, blk, page); string(b) != want || ok != wanted {
				t.Errorf("ReadPage of %d, %d is %q and %v of %s", blk, page, b, ok, toldChip(c))
			}
		}
	}
}

// refusedChip asks for this code, and for the chip as it was beside it: the answer, and what was handed in.
func refusedChip(t *testing.T, c impl.Chip, a askedChip, want int) impl.Chip {
	t.Helper()
	was := toldChip(c)
	d, code := a.of(c)
	if code != want || want == impl.FsGood {
		t.Errorf("%s: the code %d, not %d, of %s", a, code, want, was)
	}
	if toldChip(d) != was || toldChip(c) != was {
		t.Errorf("%s is refused, but the answer is %s, and the argument now %s, of %s", a, toldChip(d), toldChip(c), was)
	}
	return d
}

func goodChip(t *testing.T, c impl.Chip, a askedChip, want impl.Chip) impl.Chip {
	t.Helper()
	was := toldChip(c)
	d, code := a.of(c)
	if code != impl.FsGood || toldChip(d) != toldChip(want) {
		t.Errorf("%s: the code %d, and %s, not %s, of %s", a, code, toldChip(d), toldChip(want), was)
	}
	if !chipByWords(d) || !impl.ChipOk(d) || impl.WornOf(d) != wornByWords(d) {
		t.Errorf("%s: no chip any more, or another wear: %s", a, toldChip(d))
	}
	if toldChip(c) != was {
		t.Errorf("%s: the argument is now %s, of %s", a, toldChip(c), was)
	}
	return d
}

// checkChip holds a call against the words, and answers what the program answers.
func checkChip(t *testing.T, c impl.Chip, a askedChip) (impl.Chip, int) {
	t.Helper()
	want, code := a.ofWords(c)
	if code == impl.FsGood {
		return goodChip(t, c, a, want), code
	}
	return refusedChip(t, c, a, code), code
}

func mustChip(t *testing.T, c impl.Chip, l ...askedChip) impl.Chip {
	t.Helper()
	for _, a := range l {
		d, code := checkChip(t, c, a)
		if code != impl.FsGood {
			t.Fatalf("%s: the code %d, of %s", a, code, toldChip(c))
		}
		c = d
	}
	return c
}

func TestNewChips(t *testing.T) {
	for n := 3; n <= 24; n++ {
		c := impl.ChipNew(n)
		if toldChip(c) != toldChip(chipNewByWords(n)) || !impl.ChipOk(c) || impl.WornOf(c) != 0 {
			t.Errorf("ChipNew of %d is %s", n, toldChip(c))
		}
		checkAsked(t, c)
	}
	for _, n := range append(farNumbers(), 0, 1, 2, 25, 26, 100) {
		if c := impl.ChipNew(n); len(c.Blocks) != 0 || impl.ChipOk(c) {
			t.Errorf("ChipNew of %d has %d blocks", n, len(c.Blocks))
		}
	}
}

func TestAKnownRunOfAChip(t *testing.T) {
	c := impl.ChipNew(3)
	do := func(a askedChip, l ...impl.Block) {
		t.Helper()
		c = goodChip(t, c, a, chip(l...))
	}
	none := block(0, false)
	do(askProgram(1, "first"), none, block(0, false, "first"), none)
	do(askProgram(1, ""), none, block(0, false, "first", ""), none)
	do(askProgram(0, "other"), block(0, false, "other"), block(0, false, "first", ""), none)
	do(askProgram(1, "\x00\xff"), block(0, false, "other"), block(0, false, "first", "", "\x00\xff"), none)
	do(askErase(1), block(0, false, "other"), block(1, false), none)
	do(askErase(1), block(0, false, "other"), block(2, false), none)
	do(askErase(2), block(0, false, "other"), block(2, false), block(1, false))
	do(askProgram(1, "again"), block(0, false, "other"), block(2, false, "again"), block(1, false))
	c.Blocks[0].Bad = true
	refusedChip(t, c, askProgram(0, "x"), impl.FsNone)
	refusedChip(t, c, askErase(0), impl.FsNone)
	refusedChip(t, c, askProgram(3, "x"), impl.FsForm)
	refusedChip(t, c, askErase(-1), impl.FsForm)
	do(askErase(1), block(0, true, "other"), block(3, false), block(1, false))
	if b, ok := impl.ReadPage(c, 0, 0); string(b) != "other" || !ok || impl.NextPage(c, 0) != 1 || impl.WornOf(c) != 4 {
		t.Error("of the block that is bad is read", b, ok)
	}
}

// mixedChip has blocks with n pages of each kind, bad, worn and nearly worn ones among them.
func mixedChip(n int) impl.Chip {
	most := strings.Repeat("m", 400)
	return chip(block(0, false, pagesUpTo(n)...), block(n, true, pagesUpTo(8-n)...), block(100000, false, slices.Repeat([]string{""}, n)...), block(99999, false, slices.Repeat([]string{most}, n)...))
}

// fullChip has as much as a chip may have.
func fullChip() impl.Chip {
	c := impl.Chip{}
	for i := range 24 {
		c.Blocks = append(c.Blocks, block(i, i%5 == 4, slices.Repeat([]string{strings.Repeat("m", 400)}, 8)...))
	}
	return c
}

// rightChips are chips of many kinds, all of them right.
func rightChips() []impl.Chip {
	l := []impl.Chip{fullChip(), chip(fullChip().Blocks[2:5]...)}
	for n := 3; n <= 24; n++ {
		l = append(l, impl.ChipNew(n))
	}
	for n := range 9 {
		l = append(l, mixedChip(n))
	}
	return append(l, chip(block(99999, false), block(100000, false), block(99999, true), block(100000, true)), chip(block(100000, true, pagesUpTo(8)...), block(100000, false, pagesUpTo(8)...), block(0, false, pagesUpTo(7)...)))
}

// wrongBlocks are blocks of which no chip has one, each wrong in one thing alone.
func wrongBlocks() []impl.Block {
	of := func(turn func(b *impl.Block)) impl.Block {
		b := block(5, false, pagesUpTo(3)...)
		turn(&b)
		return b
	}
	l := []impl.Block{{}, block(0, false, pagesUpTo(9)...), of(func(b *impl.Block) { b.Pages = append(b.Pages, impl.Page{}) }), of(func(b *impl.Block) { b.Pages = append(b.Pages, make([]impl.Page, 8)...) })}
	for n := range 8 {
		l = append(l, of(func(b *impl.Block) { b.Pages = b.Pages[:n] }))
	}
	for _, wear := range append(farNumbers()[:11], 100001, 100002, 1<<32, math.MaxInt) {
		l = append(l, of(func(b *impl.Block) { b.Wear = wear }))
	}
	for place := 3; place < 8; place++ {
		l = append(l, of(func(b *impl.Block) { b.Pages[place].B = []byte("x") }), of(func(b *impl.Block) { b.Pages[place].B = make([]byte, 401) }))
		if place > 3 {
			l = append(l, of(func(b *impl.Block) { b.Pages[place].Used = true }))
		}
	}
	for place := range 3 {
		l = append(l, of(func(b *impl.Block) { b.Pages[place].B = make([]byte, 401) }), of(func(b *impl.Block) { b.Pages[place].B = make([]byte, 5000) }))
		if place < 2 {
			l = append(l, of(func(b *impl.Block) { b.Pages[place] = impl.Page{} }))
		}
	}
	for _, b := range l {
		b.Bad = true
		l = append(l, b)
	}
	return l
}

// wrongChips are chips that are not right: too few blocks, too many, or a wrong one at each place.
func wrongChips() []impl.Chip {
	l := []impl.Chip{{}}
	for _, n := range []int{1, 2, 25, 26, 48} {
		l = append(l, chip(slices.Repeat([]impl.Block{block(1, false, "a", "b")}, n)...), chip(slices.Repeat([]impl.Block{block(1, true)}, n)...))
	}
	for _, b := range wrongBlocks() {
		for place := range 3 {
			c := chip(block(1, false, "a"), block(2, true, "b"), block(3, false))
			c.Blocks[place] = b
			l = append(l, c)
		}
		c := impl.ChipNew(24)
		c.Blocks[23] = b
		l = append(l, c)
	}
	return l
}

func TestChipsThatAreAndThatAreNone(t *testing.T) {
	for _, c := range rightChips() {
		if !chipByWords(c) || !impl.ChipOk(c) {
			t.Errorf("this is a chip: %s", toldChip(c))
		}
		checkAsked(t, c)
	}
	for _, c := range wrongChips() {
		if chipByWords(c) || impl.ChipOk(c) {
			t.Errorf("this is no chip: %s", toldChip(c))
		}
		checkAsked(t, c)
	}
}

func TestNothingIsDoneToWhatIsNoChip(t *testing.T) {
	for _, c := range wrongChips() {
		for _, blk := range []int{-1, 0, 1, 2, 3, 23, 24, 25, math.MaxInt} {
			for _, a := range []askedChip{askProgram(blk, ""), askProgram(blk, "x"), askProgram(blk, strings.Repeat("x", 401)), askErase(blk)} {
				refusedChip(t, c, a, impl.FsForm)
			}
		}
	}
}

// TestBlocksOfEveryOrder: of all that pages may be, written or not, only what comes first in turn is right; all of it is read.
func TestBlocksOfEveryOrder(t *testing.T) {
	right := 0
	for signs := range 256 {
		b := block(1, false)
		for place := range 8 {
			if signs>>place&1 == 1 {
				b.Pages[place] = impl.Page{Used: true, B: []byte{byte(place)}}
			}
		}
		if blockByWords(b) {
			right++
		}
		for place := range 3 {
			c := impl.ChipNew(3)
			c.Blocks[place] = b
			checkAsked(t, c)
			for blk := range 3 {
				checkChip(t, c, askProgram(blk, "more"))
				checkChip(t, c, askErase(blk))
			}
		}
	}
	if right != 9 {
		t.Errorf("%d orders are right", right)
	}
}

func TestPagesOfEveryLength(t *testing.T) {
	c := impl.ChipNew(3)
	for n := range 410 {
		s := strings.Repeat("\x80\x00p", n)[:n]
		d, code := checkChip(t, c, askProgram(n%3, s))
		if want := map[bool]int{true: impl.FsGood, false: impl.FsForm}[n <= 400]; code != want {
			t.Errorf("%d bytes: the code %d", n, code)
		}
		b, ok := impl.ReadPage(d, n%3, 0)
		if code == impl.FsGood && (string(b) != s || !ok) || code != impl.FsGood && (len(b) != 0 || ok) {
			t.Errorf("%d bytes: %d are read, %v", n, len(b), ok)
		}
		with := chip(block(0, false), block(0, false, s), block(0, false))
		if impl.ChipOk(with) != (n <= 400) {
			t.Errorf("a page of %d bytes", n)
		}
	}
	for _, n := range []int{1000, 1 << 16, 1<<16 + 1, 1 << 24} {
		refusedChip(t, c, askProgram(1, strings.Repeat("x", n)), impl.FsForm)
	}
	// Bytes of each kind come back.
	all := make([]byte, 256)
	for i := range all {
		all[i] = byte(i)
	}
	mustChip(t, c, askProgram(2, string(all)))
}

func TestAPageThatIsWrittenWithNothing(t *testing.T) {
	for _, b := range [][]byte{nil, {}, make([]byte, 0, 50)} {
		c, code := impl.Program(impl.ChipNew(3), 1, b)
		if code != impl.FsGood || impl.NextPage(c, 1) != 1 || toldChip(c) != toldChip(chip(block(0, false), block(0, false, ""), block(0, false))) {
			t.Errorf("the code %d, and %s", code, toldChip(c))
		}
		if got, ok := impl.ReadPage(c, 1, 0); len(got) != 0 || !ok {
			t.Error("a page with nothing is read as", got, ok)
		}
		for _, at := range [][2]int{{1, 1}, {0, 0}, {2, 0}} {
			if got, ok := impl.ReadPage(c, at[0], at[1]); len(got) != 0 || ok {
				t.Error("a page that is not written is read as", got, ok)
			}
		}
	}
	c := impl.ChipNew(3)
	for n := range 8 {
		c = mustChip(t, c, askProgram(2, ""))
		if impl.NextPage(c, 2) != n+1 {
			t.Error("NextPage is", impl.NextPage(c, 2), "behind page", n)
		}
	}
	refusedChip(t, c, askProgram(2, ""), impl.FsFull)
	mustChip(t, c, askErase(2), askProgram(2, ""))
}

func TestTheEighthPageAndANinth(t *testing.T) {
	for n := 3; n <= 24; n++ {
		for _, blk := range []int{0, n / 2, n - 1} {
			c := impl.ChipNew(n)
			for i, s := range pagesUpTo(8) {
				if impl.NextPage(c, blk) != i {
					t.Errorf("NextPage is %d, not %d", impl.NextPage(c, blk), i)
				}
				c = mustChip(t, c, askProgram(blk, s))
			}
			for _, s := range []string{"", "x", "page 7", strings.Repeat("x", 400)} {
				refusedChip(t, c, askProgram(blk, s), impl.FsFull)
			}
			refusedChip(t, c, askProgram(blk, strings.Repeat("x", 401)), impl.FsForm)
			for i, s := range pagesUpTo(8) {
				if b, ok := impl.ReadPage(c, blk, i); string(b) != s || !ok {
					t.Errorf("page %d is read as %q, %v", i, b, ok)
				}
			}
			// A block that is full is erased, and takes eight once more.
			c = mustChip(t, c, askErase(blk))
			for _, s := range pagesUpTo(8) {
				c = mustChip(t, c, askProgram(blk, "new "+s))
			}
			refusedChip(t, c, askProgram(blk, ""), impl.FsFull)
		}
	}
}

// TestTheMostErases: the last one is done, and behind it no other; what is written is not asked for its wear.
func TestTheMostErases(t *testing.T) {
	for written := range 9 {
		for blk := range 3 {
			c := chip(block(0, false), block(0, false), block(0, false))
			c.Blocks[blk] = block(99998, false, pagesUpTo(written)...)
			c = mustChip(t, c, askErase(blk), askErase(blk))
			if c.Blocks[blk].Wear != 100000 || impl.WornOf(c) != 100000 {
				t.Errorf("the wear is %d", c.Blocks[blk].Wear)
			}
			refusedChip(t, c, askErase(blk), impl.FsFull)
			for _, s := range pagesUpTo(8) {
				c = mustChip(t, c, askProgram(blk, s))
				refusedChip(t, c, askErase(blk), impl.FsFull)
			}
			refusedChip(t, c, askProgram(blk, "ninth"), impl.FsFull)
			mustChip(t, c, askErase((blk+1)%3), askProgram((blk+1)%3, "x"))
		}
	}
	most := impl.ChipNew(24)
	for i := range most.Blocks {
		most.Blocks[i].Wear = 100000
	}
	if !impl.ChipOk(most) || impl.WornOf(most) != 2400000 {
		t.Error("WornOf is", impl.WornOf(most))
	}
	for _, wear := range []int{0, 1, 99999} {
		for blk := range 24 {
			most.Blocks[blk].Wear = wear
			if d := mustChip(t, most, askErase(blk)); d.Blocks[blk].Wear != wear+1 {
				t.Errorf("behind %d the wear is %d", wear, d.Blocks[blk].Wear)
			}
			most.Blocks[blk].Wear = 100000
		}
	}
}

func TestBlocksThatAreNotThere(t *testing.T) {
	for n := 3; n <= 24; n++ {
		c := impl.ChipNew(n)
		for i := range c.Blocks {
			c.Blocks[i] = block(i, false, pagesUpTo(i%9)...)
		}
		for _, blk := range append(farNumbers(), n, n+1) {
			for _, a := range []askedChip{askProgram(blk, ""), askProgram(blk, "x"), askErase(blk)} {
				refusedChip(t, c, a, impl.FsForm)
			}
			if impl.NextPage(c, blk) != -1 {
				t.Errorf("NextPage of %d is %d", blk, impl.NextPage(c, blk))
			}
			if b, ok := impl.ReadPage(c, blk, 0); len(b) != 0 || ok {
				t.Errorf("of the block %d is read %q", blk, b)
			}
		}
		for _, blk := range []int{0, n - 1} {
			mustChip(t, c, askErase(blk), askProgram(blk, "x"))
		}
	}
}

func TestPagesThatAreNotThere(t *testing.T) {
	c := impl.ChipNew(4)
	c.Blocks[0], c.Blocks[2], c.Blocks[3] = block(0, false, pagesUpTo(8)...), block(0, true, pagesUpTo(8)...), block(0, false, pagesUpTo(3)...)
	for _, page := range append(farNumbers(), 8, 9, 10) {
		for blk := range 4 {
			if b, ok := impl.ReadPage(c, blk, page); len(b) != 0 || ok {
				t.Errorf("the page %d of %d is read as %q", page, blk, b)
			}
		}
	}
	for _, page := range []int{0, 7} {
		for _, blk := range []int{0, 2} {
			if b, ok := impl.ReadPage(c, blk, page); string(b) != pagesUpTo(8)[page] || !ok {
				t.Errorf("the page %d of %d is read as %q, %v", page, blk, b, ok)
			}
		}
	}
	for page := 3; page < 8; page++ {
		if b, ok := impl.ReadPage(c, 3, page); len(b) != 0 || ok {
			t.Errorf("the page %d, not written, is read as %q", page, b)
		}
	}
}

// TestBlocksThatAreBad: they are read and asked as others are, and take nothing.
func TestBlocksThatAreBad(t *testing.T) {
	for written := range 9 {
		for blk := range 5 {
			c := impl.ChipNew(5)
			for i := range c.Blocks {
				c.Blocks[i] = block(i, i == blk, pagesUpTo(written)...)
			}
			checkAsked(t, c)
			if impl.NextPage(c, blk) != written || impl.WornOf(c) != 10 || !impl.ChipOk(c) {
				t.Error("NextPage is", impl.NextPage(c, blk), "and WornOf", impl.WornOf(c))
			}
			for i, s := range pagesUpTo(written) {
				if b, ok := impl.ReadPage(c, blk, i); string(b) != s || !ok {
					t.Errorf("the page %d of a bad block is read as %q, %v", i, b, ok)
				}
			}
			for _, a := range []askedChip{askProgram(blk, ""), askProgram(blk, "x"), askProgram(blk, strings.Repeat("x", 400)), askErase(blk)} {
				refusedChip(t, c, a, impl.FsNone)
			}
			mustChip(t, c, askErase((blk+1)%5), askProgram((blk+1)%5, "x"))
		}
	}
	all := chip(block(0, true), block(1, true, "x"), block(100000, true, pagesUpTo(8)...))
	for blk := range 3 {
		refusedChip(t, all, askProgram(blk, "x"), impl.FsNone)
		refusedChip(t, all, askErase(blk), impl.FsNone)
	}
}

// TestWhichCodeOfAChipComesFirst: where several are right at once, the one that the chapter names first counts.
func TestWhichCodeOfAChipComesFirst(t *testing.T) {
	long, full := strings.Repeat("x", 401), pagesUpTo(8)
	at := func(b impl.Block) impl.Chip { return chip(block(0, false), b, block(0, false)) }
	few := func(b impl.Block) impl.Chip { return chip(b, b) }
	for _, k := range []struct {
		c    impl.Chip
		a    askedChip
		want int
	}{
		{at(block(0, true)), askProgram(1, long), impl.FsForm},
		{at(block(0, false, full...)), askProgram(1, long), impl.FsForm},
		{at(block(0, true, full...)), askProgram(1, long), impl.FsForm},
		{at(block(100000, true, full...)), askProgram(1, long), impl.FsForm},
		{at(block(100000, true, full...)), askProgram(3, "x"), impl.FsForm},
		{at(block(100000, true, full...)), askErase(3), impl.FsForm},
		{at(block(100001, true, full...)), askProgram(1, "x"), impl.FsForm},
		{at(block(100001, true, full...)), askErase(1), impl.FsForm},
		{few(block(0, true)), askProgram(1, "x"), impl.FsForm},
		{few(block(0, true)), askErase(1), impl.FsForm},
		{few(block(100000, false, full...)), askProgram(1, "x"), impl.FsForm},
		{few(block(100000, false, full...)), askErase(1), impl.FsForm},
		{few(block(0, true, full...)), askProgram(2, long), impl.FsForm},
		{at(block(0, true, full...)), askProgram(1, "x"), impl.FsNone},
		{at(block(0, true, full...)), askErase(1), impl.FsNone},
		{at(block(100000, true)), askProgram(1, "x"), impl.FsNone},
		{at(block(100000, true)), askErase(1), impl.FsNone},
		{at(block(100000, true, full...)), askProgram(1, "x"), impl.FsNone},
		{at(block(100000, true, full...)), askErase(1), impl.FsNone},
		{at(block(100000, false, full...)), askProgram(1, "x"), impl.FsFull},
		{at(block(100000, false, full...)), askErase(1), impl.FsFull},
		{at(block(100000, false)), askErase(1), impl.FsFull},
		{at(block(0, false, full...)), askProgram(1, ""), impl.FsFull},
	} {
		refusedChip(t, k.c, k.a, k.want)
		checkChip(t, k.c, k.a)
	}
	mustChip(t, at(block(0, false, full...)), askErase(1))
	mustChip(t, at(block(100000, false)), askProgram(1, "x"))
}

func TestTheWearOfAllBlocks(t *testing.T) {
	for _, wears := range [][]int{{}, {0}, {1, 2, 3}, {100000, 100000, 100000}, {-1, 1, -5}, {1 << 40, 1 << 40}, {7, 0, 0, 0}, {0, 0, 0, 7}} {
		c, want := impl.Chip{}, 0
		for i, wear := range wears {
			c.Blocks = append(c.Blocks, block(wear, i%2 == 1, pagesUpTo(i)...))
			want += wear
		}
		if got := impl.WornOf(c); got != want {
			t.Errorf("WornOf %v is %d", wears, got)
		}
	}
}
