package tests

import (
	"fmt"
	"slices"
	"strings"

	"loop.example/g00285/impl"
)

func bad(at int) impl.Fault        { return impl.Fault{At: at, Kind: impl.FaBad} }
func torn(at, keep int) impl.Fault { return impl.Fault{At: at, Kind: impl.FaTorn, Keep: keep} }

// dev is a device that is on.
func dev(c impl.Chip, ops int, l ...impl.Fault) impl.Dev {
	return impl.Dev{C: c, Ops: ops, Faults: l}
}

// off is the device without power.
func off(d impl.Dev) impl.Dev {
	d.Down = true
	return d
}

func toldFaults(l []impl.Fault) string {
	s := &strings.Builder{}
	fmt.Fprintf(s, "%d faults", len(l))
	for _, f := range l {
		fmt.Fprintf(s, " %d:%d:%d", f.At, f.Kind, f.Keep)
	}
	return s.String()
}

func toldDev(d impl.Dev) string {
	return fmt.Sprintf("ops %d, off %v, %s, %s", d.Ops, d.Down, toldFaults(d.Faults), toldChip(d.C))
}

// askedDev is a call that changes a device.
type askedDev struct {
	call string
	blk  int
	b    string
}

func devProgram(blk int, b string) askedDev {
	return askedDev{call: "DevProgram", blk: blk, b: b}
}
func devErase(blk int) askedDev { return askedDev{call: "DevErase", blk: blk} }
func powerUp() askedDev         { return askedDev{call: "PowerUp"} }

func (a askedDev) String() string {
	if len(a.b) > 20 {
		return fmt.Sprintf("%s of %d, %d bytes", a.call, a.blk, len(a.b))
	}
	return fmt.Sprintf("%s of %d, %q", a.call, a.blk, a.b)
}

func (a askedDev) ofBytes(d impl.Dev, b []byte) (impl.Dev, int) {
	switch a.call {
	case "DevErase":
		return impl.DevErase(d, a.blk)
	case "PowerUp":
		return impl.PowerUp(d), impl.FsGood
	}
	return impl.DevProgram(d, a.blk, b)
}

func (a askedDev) of(d impl.Dev) (impl.Dev, int) { return a.ofBytes(d, []byte(a.b)) }

// ofChip is what the call asks of the chip.
func (a askedDev) ofChip() askedChip {
	if a.call == "DevErase" {
		return askErase(a.blk)
	}
	return askProgram(a.blk, a.b)
}

// The words of chapter 11, by other means than the program's.

func fromNoughtTo(n, most int) bool { return n == min(max(n, 0), most) }

func faultsByWords(l []impl.Fault) bool {
	ats := []int{}
	for _, f := range l {
		if !fromNoughtTo(f.At, 100000) || !fromNoughtTo(f.Keep, 400) || f.Kind != 1 && f.Kind != 2 {
			return false
		}
		ats = append(ats, f.At)
	}
	alike := slices.Compact(slices.Clone(ats))
	return len(l) <= 20 && slices.IsSorted(ats) && len(alike) == len(ats)
}

func devByWords(d impl.Dev) bool {
	return faultsByWords(d.Faults) && fromNoughtTo(d.Ops, 100000) && chipByWords(d.C)
}

func devNewByWords(n int, l []impl.Fault) impl.Dev {
	d := dev(chipNewByWords(n), 0, l...)
	if !devByWords(d) {
		return impl.Dev{}
	}
	return d
}

func faultAtByWords(d impl.Dev) (impl.Fault, bool) {
	found := slices.DeleteFunc(slices.Clone(d.Faults), func(f impl.Fault) bool { return f.At-d.Ops != 0 })
	if len(found) == 0 {
		return impl.Fault{}, false
	}
	return found[0], true
}

func (a askedDev) codeByWords(d impl.Dev) int {
	switch {
	case !devByWords(d):
		return impl.FsForm
	case d.Down || d.Ops == 100000:
		return impl.FsDown
	}
	return a.ofChip().codeByWords(d.C)
}

// tornByWords is the block in whose midst the power went.
func (a askedDev) tornByWords(b impl.Block, keep int) impl.Block {
	if a.call == "DevErase" {
		return block(b.Wear+1, b.Bad, slices.Repeat([]string{""}, min(keep, 8))...)
	}
	done := a.b
	for len(done) > keep {
		done = strings.TrimSuffix(done, done[len(done)-1:])
	}
	return block(b.Wear, b.Bad, append(textsOfPages(b), done)...)
}

// ofWords answers the device as the words have it, whatever the code is.
func (a askedDev) ofWords(d impl.Dev) (impl.Dev, int) {
	if a.call == "PowerUp" {
		return impl.Dev{C: d.C, Ops: d.Ops, Faults: d.Faults}, impl.FsGood
	}
	if code := a.codeByWords(d); code != impl.FsGood {
		return d, code
	}
	f, comes := faultAtByWords(d)
	if !comes {
		c, code := a.ofChip().ofWords(d.C)
		return dev(c, d.Ops+1, d.Faults...), code
	}
	l := slices.Clone(d.C.Blocks)
	if f.Kind == impl.FaBad {
		l[a.blk].Bad = true
		return dev(chip(l...), d.Ops+1, d.Faults...), impl.FsNone
	}
	l[a.blk] = a.tornByWords(l[a.blk], f.Keep)
	return off(dev(chip(l...), d.Ops+1, d.Faults...)), impl.FsDown
}
