package tests

import (
	"bytes"
	"fmt"
	"slices"
	"strings"
	"testing"

	"loop.example/g00285/impl"
)

// roomyRec answers r with its body within longer bytes, and all of that memory.
func roomyRec(r impl.Rec) (impl.Rec, []byte) {
	in, whole := roomyText(string(r.Body))
	r.Body = in
	return r, whole
}

// memoryRecs are records that are right, and some that are not.
func memoryRecs() []impl.Rec {
	return append(rightRecs(), rec(1, 5, strings.Repeat("x", 381)), rec(0, 5, "ab"), rec(5, 5, "ab"), rec(1, -1, "ab"), rec(1, 1000001, "ab"), impl.Rec{})
}

func TestRecordsReadAndWriteNoSpareRoom(t *testing.T) {
	for _, r := range memoryRecs() {
		in, whole := roomyRec(r)
		kept := string(whole)
		if impl.RecOk(in) != impl.RecOk(r) || !bytes.Equal(impl.PutRec(in), impl.PutRec(r)) {
			t.Errorf("%s: what lies behind its body counts", toldRec(r))
		}
		if string(whole) != kept || !sameRec(in, r) {
			t.Fatalf("%s: its body, or what lies behind it, was written", toldRec(r))
		}
	}
}

// TestGetRecReadsAndWritesNoSpareRoom: a beginning with the rest of the record behind it is none, and the record is one whatever is behind.
func TestGetRecReadsAndWritesNoSpareRoom(t *testing.T) {
	for _, r := range rightRecs() {
		b, whole := roomyText(recForm(r))
		kept := string(whole)
		for k := range len(b) + 1 {
			back, ok := impl.GetRec(b[:k])
			if ok != (k == len(b)) || ok && !sameRec(back, r) || !ok && !sameRec(back, impl.Rec{}) {
				t.Fatalf("%s: %d bytes are read as %s, %v", toldRec(r), k, toldRec(back), ok)
			}
			if string(whole) != kept {
				t.Fatalf("%s: of %d bytes some, or what lies behind them, were written", toldRec(r), k)
			}
		}
		// A longer argument, so that what would be written behind its body lies in its midst.
		impl.GetRec(whole)
		impl.GetRec(whole[1:])
		if string(whole) != kept {
			t.Fatalf("%s: bytes that go on were written", toldRec(r))
		}
	}
}

// TestAWrongSumIsNotMended: asking for the sum writes the right one nowhere.
func TestAWrongSumIsNotMended(t *testing.T) {
	for _, r := range shortRecs() {
		b := []byte(recForm(r))
		for i := len(b) - 4; i < len(b); i++ {
			b[i] ^= 0x10
			kept := string(b)
			for range 2 {
				if _, ok := impl.GetRec(b); ok || string(b) != kept {
					t.Fatalf("%s: a wrong sum is right, or is mended", toldRec(r))
				}
			}
			b[i] ^= 0x10
		}
	}
}

func TestPutRecAnswersNewMemory(t *testing.T) {
	for _, r := range memoryRecs() {
		in, whole := roomyRec(r)
		kept := string(whole)
		first, second := impl.PutRec(in), impl.PutRec(in)
		want := string(second)
		if bytes.Contains(second[len(second):cap(second)], []byte{0xa5}) {
			t.Errorf("%s: what lies behind the body is handed out", toldRec(r))
		}
		clear(first[:cap(first)])
		if string(whole) != kept {
			t.Errorf("%s: the answer shares memory with the argument", toldRec(r))
		}
		if string(second) != want || string(impl.PutRec(in)) != want {
			t.Errorf("%s: two answers share memory", toldRec(r))
		}
		clear(whole)
		if string(second) != want {
			t.Errorf("%s: the answer turns with the argument", toldRec(r))
		}
	}
}

func TestGetRecAnswersNewMemory(t *testing.T) {
	for _, r := range rightRecs() {
		b, whole := roomyText(recForm(r))
		kept := string(whole)
		first, _ := impl.GetRec(b)
		second, ok := impl.GetRec(b)
		if !ok || !sameRec(second, r) {
			t.Fatalf("%s comes back as %s, %v", toldRec(r), toldRec(second), ok)
		}
		// The room behind a body holds neither its sum nor what lies behind that.
		if behind := second.Body[len(second.Body):cap(second.Body)]; slices.ContainsFunc(behind, func(c byte) bool { return c != 0 }) {
			t.Errorf("%s: %x, behind the body, is handed out", toldRec(r), behind)
		}
		for i := range first.Body[:cap(first.Body)] {
			first.Body[:cap(first.Body)][i] = 0x5a
		}
		if string(whole) != kept {
			t.Errorf("%s: the answer shares memory with the argument", toldRec(r))
		}
		if !sameRec(second, r) {
			t.Errorf("%s: two answers share memory", toldRec(r))
		}
		clear(whole)
		if !sameRec(second, r) {
			t.Errorf("%s: the answer turns with the argument", toldRec(r))
		}
	}
}

// TestWhatIsRefusedHandsOutNothing: not even room.
func TestWhatIsRefusedHandsOutNothing(t *testing.T) {
	for _, r := range shortRecs() {
		for _, s := range []string{recForm(r) + "x", recForm(r)[1:], withItsSum(recForm(r))} {
			b, whole := roomyText(s)
			kept := string(whole)
			back, ok := impl.GetRec(b)
			if ok || len(back.Body) != 0 {
				t.Fatalf("%x is read as %s, %v", s, toldRec(back), ok)
			}
			clear(back.Body[:cap(back.Body)])
			if string(whole) != kept {
				t.Errorf("%x: the answer shares memory with the argument", s)
			}
		}
	}
}

func TestRecordsKeepNothing(t *testing.T) {
	wants := map[string]string{}
	for range 3 {
		for _, r := range memoryRecs() {
			back, ok := impl.GetRec(impl.PutRec(r))
			s := fmt.Sprintf("%v %x %s %v", impl.RecOk(r), impl.PutRec(r), toldRec(back), ok)
			name := fmt.Sprint(r.Kind, r.Seq, r.Body)
			if want, was := wants[name]; was && s != want {
				t.Errorf("%s hangs on the calls ahead: %s, not %s", toldRec(r), s, want)
			}
			wants[name] = s
			impl.GetRec([]byte("\x01\x00\x80"))
			impl.GetRec(nil)
			impl.PutRec(impl.Rec{})
		}
	}
}
