package tests

import (
	"bytes"
	"fmt"
	"runtime/debug"
	"slices"
	"strings"
	"testing"

	"loop.example/g00285/impl"
)

// roomyOp answers o with its bytes within longer ones, and all of that memory.
func roomyOp(o impl.Op) (impl.Op, []byte) {
	whole := append(slices.Clone(o.Data), bytes.Repeat([]byte{0xa5}, 200)...)
	o.Data = whole[:len(o.Data)]
	return o, whole
}

// memoryOps are operations of each kind that some file systems of fsMemory take, and some that none takes.
func memoryOps() []impl.Op {
	l := oneOfEach()
	for _, a := range someCalls() {
		l = append(l, opOf(1, a), opOf(3, a))
	}
	for _, a := range fewVolCalls() {
		l = append(l, opOfVol(a))
	}
	return append(l, opOf(1, askWrite("/f", 0, strings.Repeat("x", 60))), opOf(3, askWrite("/f", 0, strings.Repeat("x", 101))), opOf(1, askAttr("/", "ROOM", "v")), opOfVol(askNew("room", 100)), impl.Op{Kind: 15, Data: []byte("data")}, impl.Op{})
}

// memoryFs are those of fsMemory, and one that takes most of these operations.
func memoryFs() []impl.Fs {
	return append(fsMemory()[:12], oneOfEachFs(), system(5, vol(1, "main", false, 2000, lookTab()), vol(3, "work", false, 2000, lookMemoryTab())))
}

func TestOperationsReadAndWriteNoSpareRoom(t *testing.T) {
	for i, f := range memoryFs() {
		r := roomy(f)
		kept := r.told()
		for _, o := range memoryOps() {
			in, whole := roomyOp(o)
			keptOp := toldOp(in) + string(whole)
			got, code := impl.Apply(r.in, in)
			if want, wantCode := impl.Apply(f, o); toldFs(got) != toldFs(want) || code != wantCode {
				t.Errorf("file system %d: %s reads what lies behind: %d, %s", i, toldOp(o), code, toldFs(got))
			}
			if impl.Changes(in) != impl.Changes(o) || string(impl.PutOp(in)) != string(impl.PutOp(o)) {
				t.Errorf("%s: what lies behind its bytes counts", toldOp(o))
			}
			if toldOp(in)+string(whole) != keptOp {
				t.Fatalf("%s: its bytes, or what lies behind them, were written", toldOp(o))
			}
		}
		if r.told() != kept {
			t.Fatalf("file system %d: an argument, or what lies behind it, was written", i)
		}
	}
}

func TestOperationsAnswerNewMemory(t *testing.T) {
	for i, f := range memoryFs() {
		for _, o := range memoryOps() {
			r := roomy(f)
			in, whole := roomyOp(o)
			kept, keptOp := r.told(), string(whole)
			first, _ := impl.Apply(r.in, in)
			second, _ := impl.Apply(r.in, in)
			want := toldFs(second)
			overwriteFs(first)
			if r.told() != kept || string(whole) != keptOp {
				t.Errorf("file system %d: %s: the answer shares memory with an argument", i, toldOp(o))
			}
			if third, _ := impl.Apply(r.in, in); toldFs(second) != want || toldFs(third) != want {
				t.Errorf("file system %d: %s: two answers share memory", i, toldOp(o))
			}
			r.overwrite()
			for at := range whole {
				whole[at] = 0x5a
			}
			if toldFs(second) != want {
				t.Errorf("file system %d: %s: the answer turns with an argument", i, toldOp(o))
			}
		}
	}
}

// TestTreesBehindAnOperationShareNone: what is written over in the tree of one volume, or in one list of it, is not to be seen elsewhere.
func TestTreesBehindAnOperationShareNone(t *testing.T) {
	for _, o := range memoryOps() {
		checkTreesShareNone(t, toldOp(o), func() impl.Fs {
			g, _ := impl.Apply(sharingFs(), o)
			return g
		})
	}
}

// TestAnOperationWithBytesOfTheFileSystem: what is handed in twice is read as it was, and is not kept.
func TestAnOperationWithBytesOfTheFileSystem(t *testing.T) {
	f := oneOfEachFs()
	own := f.Vols[0].T.Inodes[2].Data
	for _, k := range []struct {
		o    impl.Op
		want string
	}{
		{impl.Op{Kind: impl.OpWrite, Vol: 3, Path: "/f", Off: 1, Data: own}, "hhello"},
		{impl.Op{Kind: impl.OpWrite, Vol: 3, Path: "/f", Off: 0, Data: own[1:]}, "elloo"},
		{impl.Op{Kind: impl.OpWrite, Vol: 3, Path: "/z", Off: 2, Data: own[:2]}, "\x00\x00he"},
	} {
		g, code := impl.Apply(f, k.o)
		if code != impl.FsGood {
			t.Fatalf("%s: the code %d", toldOp(k.o), code)
		}
		wantFile(t, g, 3, k.o.Path, k.want)
		overwriteFs(g)
		if string(own) != "hello" || !impl.SameFs(f, oneOfEachFs()) {
			t.Errorf("%s: the argument is now %s", toldOp(k.o), toldFs(f))
		}
	}
}

func TestTextsOfOperationsAreNewMemory(t *testing.T) {
	kept := strings.Clone("name.of-one_ae value of one")
	x := table(9, withAttrs(dir(1, 0, ent(kept[:4], 2), ent(kept[:7], 3)), attr(kept[:4], kept[15:])), dir(2, 1), file(3, 1, "x", attr(kept[8:11], kept[15:20])))
	f := system(5, vol(1, kept[:4], false, 300, x), vol(3, kept[:14], true, 300, x))
	if !impl.FsOk(f) {
		t.Fatal("the file system is not right")
	}
	texts := []string{strings.Clone("/new"), strings.Clone("/name"), strings.Clone("/name.of"), strings.Clone("/name/other"), strings.Clone("new"), strings.Clone("value"), strings.Clone("/"), strings.Clone("")}
	for kind := 0; kind <= 15; kind++ {
		for _, path := range texts {
			for _, to := range texts {
				o := impl.Op{Kind: kind, Vol: 1, Path: path, To: to, Off: 100, Data: []byte("v")}
				g, _ := impl.Apply(f, o)
				for _, v := range g.Vols {
					for _, s := range append(textsOf(v.T.Inodes), v.Name) {
						if share(s, kept) || slices.ContainsFunc(texts, func(arg string) bool { return share(s, arg) }) {
							t.Errorf("%s: the text %q shares memory with an argument", toldOp(o), s)
						}
					}
				}
			}
		}
	}
}

func TestPutOpAnswersNewMemory(t *testing.T) {
	for _, o := range append(oneOfEach(), rightOps()[:60]...) {
		in, whole := roomyOp(o)
		kept := string(whole)
		first, second := impl.PutOp(in), impl.PutOp(in)
		want := string(second)
		clear(first[:cap(first)])
		if string(whole) != kept {
			t.Errorf("%s: the answer shares memory with the argument", toldOp(o))
		}
		if string(second) != want || string(impl.PutOp(in)) != want {
			t.Errorf("%s: two answers share memory", toldOp(o))
		}
		clear(whole)
		if string(second) != want {
			t.Errorf("%s: the answer turns with the argument", toldOp(o))
		}
	}
}

func TestGetOpAnswersNewMemory(t *testing.T) {
	for _, o := range append(oneOfEach(), rightOps()[:60]...) {
		put := []byte(opForm(o))
		whole := append(slices.Clone(put), bytes.Repeat([]byte{0xa5}, 100)...)
		b := whole[:len(put):len(whole)]
		kept := string(whole)
		first, _ := impl.GetOp(b)
		second, ok := impl.GetOp(b)
		if !ok || string(whole) != kept || !sameOp(second, o) {
			t.Fatalf("%s: what lies behind is read, or something is written", toldOp(o))
		}
		clear(first.Data[:cap(first.Data)])
		if string(whole) != kept {
			t.Errorf("%s: the answer shares memory with the argument", toldOp(o))
		}
		if !sameOp(second, o) {
			t.Errorf("%s: two answers share memory", toldOp(o))
		}
		if bytes.Contains(second.Data[len(second.Data):cap(second.Data)], []byte{0xa5}) {
			t.Errorf("%s: what lies behind the bytes is handed out", toldOp(o))
		}
		clear(whole)
		if !sameOp(second, o) {
			t.Errorf("%s: the answer turns with the argument", toldOp(o))
		}
	}
	// What is refused is read no less, and kept no more.
	for _, o := range oneOfEach() {
		put := []byte(opForm(o) + "x")
		kept := string(put)
		back, _ := impl.GetOp(put)
		clear(back.Data[:cap(back.Data)])
		if string(put) != kept {
			t.Errorf("%s: bytes that go on are written", toldOp(o))
		}
	}
}

func TestOperationsKeepNothing(t *testing.T) {
	f, other := oneOfEachFs(), manyVols(6)
	wants := map[string]string{}
	for range 3 {
		for _, o := range memoryOps() {
			g, code := impl.Apply(f, o)
			back, ok := impl.GetOp(impl.PutOp(o))
			s := fmt.Sprint(toldFs(g), " ", code, " ", toldOp(back), ok, impl.Changes(o))
			if want, was := wants[toldOp(o)]; was && s != want {
				t.Errorf("%s hangs on the calls ahead: %s, not %s", toldOp(o), s, want)
			}
			wants[toldOp(o)] = s
			impl.Apply(other, o)
			impl.Apply(impl.Fs{}, o)
			impl.GetOp([]byte("\x09\x01\x80"))
		}
	}
}

// TestVeryLargeArguments: however much is handed in, it is answered.
func TestVeryLargeArguments(t *testing.T) {
	many := impl.Fs{Next: 50}
	for i := range 20000 {
		many.Vols = append(many.Vols, vol(i, "a", false, 32, impl.TabNew()))
	}
	defer debug.SetMaxStack(debug.SetMaxStack(1 << 20))
	far := system(2, vol(1, "a", false, 4000, longChain(20000)))
	for _, o := range oneOfEach() {
		o.Vol = 1
		for _, f := range []impl.Fs{many, far} {
			if g, code := impl.Apply(f, o); code != impl.FsForm || !impl.SameFs(f, g) {
				t.Errorf("%s of what is no file system: the code %d", toldOp(o), code)
			}
		}
		long := strings.Repeat("/a", 1<<20)
		o.Vol, o.Path, o.To, o.Data = 3, long, long, []byte(long)
		checkOp(t, oneOfEachFs(), o)
		impl.GetOp(impl.PutOp(o))
		impl.GetOp([]byte(long))
	}
}
