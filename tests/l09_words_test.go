package tests

import (
	"fmt"
	"slices"

	"loop.example/g00285/impl"
)

// opCalls are the calls that the kinds of operations stand for, from the kind 1 on.
func opCalls() []string {
	return []string{"MakeDir", "MakeFile", "WriteAt", "Truncate", "Unlink", "RemoveDir", "HardLink", "Rename", "SetAttr", "NewVol", "SnapVol", "CloneVol", "DropVol", "SetLimit"}
}

func kindOf(call string) int { return slices.Index(opCalls(), call) + 1 }

// callOf is empty of a kind that is none.
func callOf(kind int) string {
	if kind < 1 || kind > 14 {
		return ""
	}
	return opCalls()[kind-1]
}

// opOf is a change as an operation of a volume.
func opOf(id int, a asked) impl.Op {
	o := impl.Op{Kind: kindOf(a.call), Vol: id, Path: a.path}
	switch a.call {
	case "WriteAt":
		o.Off, o.Data = a.n, []byte(a.data)
	case "Truncate":
		o.Off = a.n
	case "HardLink", "Rename":
		o.To = a.to
	case "SetAttr":
		o.To, o.Data = a.attr.Name, []byte(a.attr.Val)
	}
	return o
}

// opOfVol is a call of chapter 8 as an operation.
func opOfVol(a askedVol) impl.Op {
	o := impl.Op{Kind: kindOf(a.call)}
	switch a.call {
	case "NewVol":
		o.Path, o.Off = a.name, a.limit
	case "SnapVol", "CloneVol":
		o.Vol, o.Path = a.id, a.name
	case "DropVol":
		o.Vol = a.id
	case "SetLimit":
		o.Vol, o.Off = a.id, a.limit
	}
	return o
}

func toldOp(o impl.Op) string {
	path, to, data := o.Path, o.To, string(o.Data)
	for _, s := range []*string{&path, &to, &data} {
		if len(*s) > 300 {
			*s = fmt.Sprintf("%s... of %d bytes", (*s)[:20], len(*s))
		}
	}
	return fmt.Sprintf("%d %s of %d, %q, %q, %d, %q", o.Kind, callOf(o.Kind), o.Vol, path, to, o.Off, data)
}

// The words of chapter 9, by other means than the program's: an operation is turned back into the call that it stands for.

func changeOfOp(o impl.Op) asked {
	return asked{call: callOf(o.Kind), path: o.Path, to: o.To, n: o.Off, data: string(o.Data), attr: attr(o.To, string(o.Data))}
}

func volCallOfOp(o impl.Op) askedVol {
	return askedVol{call: callOf(o.Kind), id: o.Vol, name: o.Path, limit: o.Off}
}

// applyBy asks the words, or the program's calls of chapters 6 and 8, as it is handed the one or the other.
func applyBy(f impl.Fs, o impl.Op, change func(asked, impl.Tab) (impl.Tab, int), volCall func(askedVol, impl.Fs) (impl.Fs, int, int)) (impl.Fs, int) {
	if callOf(o.Kind) == "" {
		return f, impl.FsForm
	}
	if o.Kind >= 10 {
		g, _, code := volCall(volCallOfOp(o), f)
		return g, code
	}
	if !fsByWords(f) {
		return f, impl.FsForm
	}
	v, there := shelfOf(f)[o.Vol]
	if !there {
		return f, impl.FsNone
	}
	if v.Ro {
		return f, impl.FsRead
	}
	x, code := change(changeOfOp(o), v.T)
	if code != impl.FsGood {
		return f, code
	}
	if usageByWords(x) > v.Limit {
		return f, impl.FsQuota
	}
	g := impl.Fs{Next: f.Next}
	for _, w := range f.Vols {
		if w.Id == o.Vol {
			w.T = x
		}
		g.Vols = append(g.Vols, w)
	}
	return g, impl.FsGood
}

func applyByWords(f impl.Fs, o impl.Op) (impl.Fs, int) {
	return applyBy(f, o, asked.ofWords, askedVol.ofWords)
}

func applyByCalls(f impl.Fs, o impl.Op) (impl.Fs, int) {
	return applyBy(f, o, asked.of, askedVol.of)
}

// opForm writes an operation's bytes by the document's words, be its kind one or not.
func opForm(o impl.Op) string {
	return numForm(o.Kind) + numForm(o.Vol) + textForm(o.Path) + textForm(o.To) + numForm(o.Off) + textForm(string(o.Data))
}

// opOfForm reads an operation by the document's words, each step asked for.
func opOfForm(s string) (impl.Op, bool) {
	var o impl.Op
	var data string
	var ok bool
	for _, part := range []any{&o.Kind, &o.Vol, &o.Path, &o.To, &o.Off, &data} {
		switch p := part.(type) {
		case *int:
			*p, s, ok = cutNum(s)
		case *string:
			*p, s, ok = cutText(s)
		}
		if !ok {
			return impl.Op{}, false
		}
	}
	if s != "" || callOf(o.Kind) == "" {
		return impl.Op{}, false
	}
	o.Data = []byte(data)
	return o, true
}

// opParts are the parts of an operation: what a kind names of it, and what turns it.
type opPart struct {
	name  string
	named []int
	turn  func(o *impl.Op, to oddPart)
}

// oddPart is what a part that is not named may be.
type oddPart struct {
	num  int
	text string
}

func opParts() []opPart {
	return []opPart{
		{"Vol", []int{1, 2, 3, 4, 5, 6, 7, 8, 9, 11, 12, 13, 14}, func(o *impl.Op, to oddPart) { o.Vol = to.num }},
		{"Path", []int{1, 2, 3, 4, 5, 6, 7, 8, 9, 10, 11, 12}, func(o *impl.Op, to oddPart) { o.Path = to.text }},
		{"To", []int{7, 8, 9}, func(o *impl.Op, to oddPart) { o.To = to.text }},
		{"Off", []int{3, 4, 10, 14}, func(o *impl.Op, to oddPart) { o.Off = to.num }},
		{"Data", []int{3, 9}, func(o *impl.Op, to oddPart) { o.Data = []byte(to.text) }},
	}
}

// blurred is o with all that its kind does not name turned.
func blurred(o impl.Op, to oddPart) impl.Op {
	for _, p := range opParts() {
		if !slices.Contains(p.named, o.Kind) {
			p.turn(&o, to)
		}
	}
	return o
}
