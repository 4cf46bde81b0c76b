package tests

import (
	"fmt"
	"strconv"
	"strings"

	"loop.example/g00285/impl"
)

// block is one of these pages in turn, the others not written.
func block(wear int, bad bool, texts ...string) impl.Block {
	l := make([]impl.Page, max(8, len(texts)))
	for i, s := range texts {
		l[i] = impl.Page{Used: true, B: []byte(s)}
	}
	return impl.Block{Pages: l, Wear: wear, Bad: bad}
}

func chip(l ...impl.Block) impl.Chip { return impl.Chip{Blocks: l} }

// pagesUpTo are n texts, no two of them alike.
func pagesUpTo(n int) []string {
	l := []string{}
	for i := range n {
		l = append(l, fmt.Sprintf("page %d", i))
	}
	return l
}

func toldPage(p impl.Page) string {
	sign := "-"
	if p.Used {
		sign = "w"
	}
	return sign + strconv.Quote(string(p.B))
}

func toldBlock(b impl.Block) string {
	s := &strings.Builder{}
	fmt.Fprintf(s, "%d %v [", b.Wear, b.Bad)
	for _, p := range b.Pages {
		s.WriteString(toldPage(p) + ",")
	}
	return s.String() + "]"
}

func toldChip(c impl.Chip) string {
	s := &strings.Builder{}
	fmt.Fprintf(s, "%d blocks", len(c.Blocks))
	for _, b := range c.Blocks {
		s.WriteString("\n" + toldBlock(b))
	}
	return s.String()
}

// askedChip is a call that changes a chip.
type askedChip struct {
	call string
	blk  int
	b    string
}

func askProgram(blk int, b string) askedChip { return askedChip{call: "Program", blk: blk, b: b} }
func askErase(blk int) askedChip             { return askedChip{call: "Erase", blk: blk} }

func (a askedChip) String() string {
	if a.call == "Program" && len(a.b) > 20 {
		return fmt.Sprintf("Program of %d, %d bytes", a.blk, len(a.b))
	}
	return fmt.Sprintf("%s of %d, %q", a.call, a.blk, a.b)
}

func (a askedChip) of(c impl.Chip) (impl.Chip, int) {
	if a.call == "Erase" {
		return impl.Erase(c, a.blk)
	}
	return impl.Program(c, a.blk, []byte(a.b))
}

// The words of chapter 10, by other means than the program's.

// signsOf are a w for each page that is written, and a - for each that is not.
func signsOf(b impl.Block) string {
	s := ""
	for _, p := range b.Pages {
		s += toldPage(impl.Page{Used: p.Used})[:1]
	}
	return s
}

func blockByWords(b impl.Block) bool {
	signs := signsOf(b)
	if len(signs) != 8 || strings.Contains(signs, "-w") || b.Wear < 0 || b.Wear > 100000 {
		return false
	}
	for i, p := range b.Pages {
		if signs[i] == '-' && len(p.B) > 0 || len(p.B) > 400 {
			return false
		}
	}
	return true
}

func chipByWords(c impl.Chip) bool {
	right := 0
	for _, b := range c.Blocks {
		if blockByWords(b) {
			right++
		}
	}
	return right == len(c.Blocks) && right >= 3 && right <= 24
}

func chipNewByWords(n int) impl.Chip {
	if n < 3 || n > 24 {
		return impl.Chip{}
	}
	l := []impl.Block{}
	for len(l) < n {
		l = append(l, block(0, false))
	}
	return chip(l...)
}

func nextByWords(c impl.Chip, blk int) int {
	for i, b := range c.Blocks {
		if i == blk {
			return strings.Count(signsOf(b), "w")
		}
	}
	return -1
}

func pageByWords(c impl.Chip, blk, page int) (string, bool) {
	for i, b := range c.Blocks {
		for j, p := range b.Pages {
			if i == blk && j == page && p.Used {
				return string(p.B), true
			}
		}
	}
	return "", false
}

func wornByWords(c impl.Chip) int {
	if len(c.Blocks) == 0 {
		return 0
	}
	return c.Blocks[0].Wear + wornByWords(chip(c.Blocks[1:]...))
}

// textsOfPages are those of all that is written.
func textsOfPages(b impl.Block) []string {
	l := []string{}
	for _, p := range b.Pages {
		if p.Used {
			l = append(l, string(p.B))
		}
	}
	return l
}

func (a askedChip) codeByWords(c impl.Chip) int {
	if !chipByWords(c) || nextByWords(c, a.blk) == -1 || len(a.b) > 400 {
		return impl.FsForm
	}
	b := c.Blocks[a.blk]
	switch {
	case b.Bad:
		return impl.FsNone
	case a.call == "Program" && signsOf(b) == "wwwwwwww", a.call == "Erase" && b.Wear == 100000:
		return impl.FsFull
	}
	return impl.FsGood
}

func (a askedChip) ofWords(c impl.Chip) (impl.Chip, int) {
	code := a.codeByWords(c)
	if code != impl.FsGood {
		return c, code
	}
	l := []impl.Block{}
	for i, b := range c.Blocks {
		if i == a.blk && a.call == "Erase" {
			b = block(b.Wear+1, false)
		} else if i == a.blk {
			b = block(b.Wear, false, append(textsOfPages(b), a.b)...)
		}
		l = append(l, b)
	}
	return chip(l...), impl.FsGood
}
