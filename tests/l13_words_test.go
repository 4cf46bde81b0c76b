package tests

import (
	"fmt"
	"slices"
	"strings"

	"loop.example/g00285/impl"
)

func logOf(d impl.Dev, seq int) impl.Log { return impl.Log{D: d, Seq: seq} }

// newLog is one of n blocks with nothing, to which these faults come.
func newLog(n int, l ...impl.Fault) impl.Log { return logOf(impl.DevNew(n, l), 0) }

// poweredUp is the log with power.
func poweredUp(l impl.Log) impl.Log { return logOf(impl.PowerUp(l.D), l.Seq) }

func toldLog(l impl.Log) string { return fmt.Sprintf("seq %d, %s", l.Seq, toldDev(l.D)) }

func samePage(a, b impl.Page) bool { return a.Used == b.Used && string(a.B) == string(b.B) }

func sameBlock(a, b impl.Block) bool {
	return a.Wear == b.Wear && a.Bad == b.Bad && slices.EqualFunc(a.Pages, b.Pages, samePage)
}

// sameLog is quicker than two texts that tell all of it.
func sameLog(a, b impl.Log) bool {
	return a.Seq == b.Seq && a.D.Ops == b.D.Ops && a.D.Down == b.D.Down && slices.Equal(a.D.Faults, b.D.Faults) && slices.EqualFunc(a.D.C.Blocks, b.D.C.Blocks, sameBlock)
}

// clonedLog is of other memory, all of it.
func clonedLog(l impl.Log) impl.Log {
	own := l
	own.D.Faults, own.D.C.Blocks = slices.Clone(l.D.Faults), slices.Clone(l.D.C.Blocks)
	for blk, b := range own.D.C.Blocks {
		own.D.C.Blocks[blk].Pages = slices.Clone(b.Pages)
		for page, p := range b.Pages {
			own.D.C.Blocks[blk].Pages[page].B = slices.Clone(p.B)
		}
	}
	return own
}

// askedWrite is a call of Write.
type askedWrite struct {
	kind  int
	body  string
	spare int
}

func (a askedWrite) String() string {
	return fmt.Sprintf("Write of %s, spare %d", toldRec(rec(a.kind, -1, a.body)), a.spare)
}

func (a askedWrite) ofBytes(l impl.Log, b []byte) (impl.Log, int, int) {
	return impl.Write(l, a.kind, b, a.spare)
}

func (a askedWrite) of(l impl.Log) (impl.Log, int, int) { return a.ofBytes(l, []byte(a.body)) }

// recOf is the record that the call writes to this log.
func (a askedWrite) recOf(l impl.Log) impl.Rec { return rec(a.kind, l.Seq, a.body) }

// The words of chapter 13, by other means than the program's.

// freeByWords are the places of those blocks.
func freeByWords(l impl.Log) []int {
	free := []int{}
	for blk, b := range l.D.C.Blocks {
		if !b.Bad && strings.Trim(signsOf(b), "-") == "" {
			free = append(free, blk)
		}
	}
	return free
}

func openByWords(l impl.Log, spare int) int {
	for blk, b := range l.D.C.Blocks {
		if signs := signsOf(b); !b.Bad && strings.Contains(signs, "w") && strings.Contains(signs, "-") {
			return blk
		}
	}
	if free := append(freeByWords(l), -1); len(free)-1 > spare {
		return free[0]
	}
	return -1
}

func (a askedWrite) ofWords(l impl.Log) (impl.Log, int, int) {
	if !recByWords(a.recOf(l)) || !devByWords(l.D) || l.Seq == 1000000 {
		return l, -1, impl.FsForm
	}
	return a.triedByWords(l)
}

// triedByWords goes on by itself where a block turned bad.
func (a askedWrite) triedByWords(l impl.Log) (impl.Log, int, int) {
	blk := openByWords(l, a.spare)
	switch {
	case l.D.Down:
		return l, -1, impl.FsDown
	case blk == -1:
		return l, -1, impl.FsSpace
	case l.D.Ops == 100000:
		return l, -1, impl.FsDown
	}
	d, code := devProgram(blk, recForm(a.recOf(l))).ofWords(l.D)
	switch code {
	case impl.FsNone:
		return a.triedByWords(logOf(d, l.Seq))
	case impl.FsGood:
		return logOf(d, l.Seq+1), blk*8 + nextByWords(l.D.C, blk), impl.FsGood
	}
	return logOf(d, l.Seq+1), -1, impl.FsDown
}

// recordsByWords are those of all pages, by their addresses.
func recordsByWords(l impl.Log) map[int]impl.Rec {
	records := map[int]impl.Rec{}
	for blk, b := range l.D.C.Blocks {
		for page, p := range b.Pages[:min(8, len(b.Pages))] {
			if r, ok := recOfForm(string(p.B)); ok && p.Used {
				records[blk*8+page] = r
			}
		}
	}
	return records
}

func logByWords(l impl.Log) bool {
	if !devByWords(l.D) || !fromNoughtTo(l.Seq, 1000000) {
		return false
	}
	greatest := -1
	for _, r := range recordsByWords(l) {
		greatest = max(greatest, r.Seq)
	}
	return greatest < l.Seq
}
