package tests

import (
	"bytes"
	"maps"
	"math"
	"math/rand/v2"
	"slices"
	"strings"
	"testing"

	"loop.example/g00285/impl"
)

// Promise 10: a page that is written is read, and never written again but behind an erase.

// chipStory is what was done to a chip, block by block: what was programmed since its last erase, in turn, and how often it was erased.
type chipStory struct {
	texts [][]string
	wears []int
}

func storyOf(c impl.Chip) *chipStory {
	s := &chipStory{}
	for _, b := range c.Blocks {
		s.texts, s.wears = append(s.texts, textsOfPages(b)), append(s.wears, b.Wear)
	}
	return s
}

func (s *chipStory) goesOn(a askedChip) {
	if a.call == "Erase" {
		s.texts[a.blk] = nil
		s.wears[a.blk]++
		return
	}
	s.texts[a.blk] = append(s.texts[a.blk], a.b)
}

// check reads all pages of a chip, by the calls alone: they are what the story tells, and nothing else is there.
func (s *chipStory) check(t *testing.T, c impl.Chip) {
	t.Helper()
	sum := 0
	for blk, texts := range s.texts {
		sum += s.wears[blk]
		if got := impl.NextPage(c, blk); got != len(texts) || len(texts) > 8 {
			t.Fatalf("the next page of %d is %d, and %d were programmed", blk, got, len(texts))
		}
		if c.Blocks[blk].Wear != s.wears[blk] {
			t.Fatalf("the wear of %d is %d, and it was erased %d times", blk, c.Blocks[blk].Wear, s.wears[blk])
		}
		for page := -1; page <= 8; page++ {
			want, written := "", page >= 0 && page < len(texts)
			if written {
				want = texts[page]
			}
			if b, ok := impl.ReadPage(c, blk, page); string(b) != want || ok != written {
				t.Fatalf("the page %d of %d is read as %q and %v, not %q", page, blk, b, ok, want)
			}
		}
	}
	if len(c.Blocks) != len(s.texts) || !impl.ChipOk(c) || impl.WornOf(c) != sum {
		t.Fatalf("no chip any more, or %d erases and not %d: %s", impl.WornOf(c), sum, toldChip(c))
	}
}

func readAsBefore(c, d impl.Chip, blk, page int) bool {
	was, ok := impl.ReadPage(c, blk, page)
	is, still := impl.ReadPage(d, blk, page)
	return ok == still && bytes.Equal(was, is)
}

// checkPagesStay asks of each page of d, which a call made of c, that it is as it was: but for the one that was programmed, which was not written, and those of the block that was erased.
func checkPagesStay(t *testing.T, c, d impl.Chip, a askedChip, code int) {
	t.Helper()
	for blk := range c.Blocks {
		for page := range 8 {
			if blk == a.blk && code == impl.FsGood && (a.call == "Erase" || page == impl.NextPage(c, blk)) {
				continue
			}
			if !readAsBefore(c, d, blk, page) {
				t.Fatalf("%s: the code %d, but the page %d of %d is other now", a, code, page, blk)
			}
		}
		if blk != a.blk && toldBlock(c.Blocks[blk]) != toldBlock(d.Blocks[blk]) {
			t.Fatalf("%s: the block %d is other now", a, blk)
		}
	}
	if code != impl.FsGood {
		return
	}
	next := impl.NextPage(c, a.blk)
	_, ahead := impl.ReadPage(c, a.blk, next)
	b, behind := impl.ReadPage(d, a.blk, next)
	if a.call == "Program" && (ahead || !behind || string(b) != a.b || impl.NextPage(d, a.blk) != next+1) {
		t.Fatalf("%s: the page %d was written already: %v; it is read as %q, %v", a, next, ahead, b, behind)
	}
	if a.call == "Erase" && (impl.NextPage(d, a.blk) != 0 || d.Blocks[a.blk].Wear != c.Blocks[a.blk].Wear+1 || impl.WornOf(d) != impl.WornOf(c)+1) {
		t.Fatalf("%s: %d pages are left, and the wear is %d", a, impl.NextPage(d, a.blk), d.Blocks[a.blk].Wear)
	}
}

// anyChipCall picks a call, by numbers that hang on a fixed start alone: mostly of a block that is there.
func anyChipCall(r *rand.Rand, c impl.Chip) askedChip {
	blk := r.IntN(len(c.Blocks))
	if r.IntN(25) == 0 {
		blk = []int{-1, len(c.Blocks), len(c.Blocks) + 1, math.MinInt, math.MaxInt, 1 << 32}[r.IntN(6)]
	}
	if r.IntN(10) == 0 {
		return askErase(blk)
	}
	n := []int{0, 1, 2, 399, 400, 401, r.IntN(20), r.IntN(20), r.IntN(401)}[r.IntN(9)]
	return askProgram(blk, strings.Repeat(string(rune('a'+r.IntN(26))), n))
}

// startOfChipRun has some blocks that are nearly worn, or full, so that all codes come.
func startOfChipRun(n int) impl.Chip {
	c := impl.ChipNew(n)
	for i := range c.Blocks {
		if i%3 == n%3 {
			c.Blocks[i] = block(99998+i%2, false, pagesUpTo(i%9)...)
		}
	}
	return c
}

func TestLongRunsOfChips(t *testing.T) {
	met := map[string]map[int]int{"Program": {}, "Erase": {}}
	for n := 3; n <= 24; n++ {
		for run, c := range []impl.Chip{impl.ChipNew(n), startOfChipRun(n)} {
			r, story := rand.New(rand.NewPCG(10, uint64(2*n+run))), storyOf(c)
			for step := range 250 {
				a := anyChipCall(r, c)
				d, code := checkChip(t, c, a)
				met[a.call][code]++
				checkPagesStay(t, c, d, a, code)
				if code == impl.FsGood {
					story.goesOn(a)
				}
				story.check(t, d)
				c = d
				if step%100 == 99 {
					c.Blocks[r.IntN(n)].Bad = true
				}
			}
			if t.Failed() {
				return
			}
		}
	}
	for call, codes := range met {
		if got := slices.Sorted(maps.Keys(codes)); !slices.Equal(got, []int{impl.FsGood, impl.FsForm, impl.FsNone, impl.FsFull}) {
			t.Errorf("%s: the codes %v", call, got)
		}
	}
	t.Log(met)
}

func smallChipCalls() []askedChip {
	l := []askedChip{}
	for blk := -1; blk <= 3; blk++ {
		l = append(l, askProgram(blk, ""), askProgram(blk, "a"), askErase(blk))
	}
	return append(l, askProgram(1, strings.Repeat("b", 401)))
}

// TestEveryShortRunOfAChip goes through all chips that few calls make: of the new one, and of some that are nearly full, or worn, or have bad blocks.
func TestEveryShortRunOfAChip(t *testing.T) {
	for _, c := range []impl.Chip{
		impl.ChipNew(3),
		chip(block(0, false, pagesUpTo(6)...), block(99999, false, pagesUpTo(7)...), block(5, true, pagesUpTo(3)...)),
		chip(block(99998, false, pagesUpTo(8)...), block(0, true), block(100000, false, pagesUpTo(7)...)),
	} {
		everyState(t, c, toldChip, 5, smallChipCalls(), func(c impl.Chip, a askedChip) impl.Chip {
			d, code := checkChip(t, c, a)
			checkPagesStay(t, c, d, a, code)
			return d
		})
	}
}

// TestEachBlockTakesEightPages fills all blocks of a chip, in turn or one behind the other, and erases them.
func TestEachBlockTakesEightPages(t *testing.T) {
	for _, n := range []int{3, 4, 11, 24} {
		for _, inTurn := range []bool{true, false} {
			c := impl.ChipNew(n)
			story := storyOf(c)
			do := func(a askedChip) {
				t.Helper()
				d := mustChip(t, c, a)
				checkPagesStay(t, c, d, a, impl.FsGood)
				story.goesOn(a)
				c = d
			}
			for i := range 8 * n {
				blk := i / 8
				if inTurn {
					blk = i % n
				}
				do(askProgram(blk, strings.Repeat("x", i%401)))
			}
			story.check(t, c)
			for blk := range n {
				refusedChip(t, c, askProgram(blk, "ninth"), impl.FsFull)
			}
			for blk := range n {
				do(askErase(blk))
				do(askProgram(blk, "first"))
			}
			story.check(t, c)
			if impl.WornOf(c) != n {
				t.Errorf("%d blocks were erased %d times", n, impl.WornOf(c))
			}
		}
	}
}

// TestWhatWasErasedDoesNotComeBack: pages are read only of what was programmed behind the last erase, at the place where it was.
func TestWhatWasErasedDoesNotComeBack(t *testing.T) {
	for ahead := range 9 {
		for behind := range 9 {
			c := chip(block(0, false, "other"), block(0, false, pagesUpTo(ahead)...), block(0, false))
			c = mustChip(t, c, askErase(1))
			for range behind {
				c = mustChip(t, c, askProgram(1, "new"))
			}
			for page := range 8 {
				b, ok := impl.ReadPage(c, 1, page)
				if ok != (page < behind) || ok && string(b) != "new" || !ok && len(b) > 0 {
					t.Errorf("%d pages, an erase, and %d pages: the page %d is %q, %v", ahead, behind, page, b, ok)
				}
			}
			if b, ok := impl.ReadPage(c, 0, 0); string(b) != "other" || !ok {
				t.Errorf("the other block has %q, %v", b, ok)
			}
		}
	}
}

// TestAnEraseOfNothing: a block with no page written is erased as any other, and wears.
func TestAnEraseOfNothing(t *testing.T) {
	c := impl.ChipNew(24)
	for i := range 100 {
		c = mustChip(t, c, askErase(i%24))
	}
	if impl.WornOf(c) != 100 || c.Blocks[0].Wear != 5 || c.Blocks[3].Wear != 5 || c.Blocks[4].Wear != 4 || c.Blocks[23].Wear != 4 {
		t.Errorf("100 erases are %d: %s", impl.WornOf(c), toldChip(c))
	}
}
