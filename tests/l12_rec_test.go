package tests

import (
	"bytes"
	"math"
	"math/rand/v2"
	"slices"
	"strings"
	"testing"

	"loop.example/g00285/impl"
)

var (
	_ func(impl.Rec) bool           = impl.RecOk
	_ func(impl.Rec) []byte         = impl.PutRec
	_ func([]byte) (impl.Rec, bool) = impl.GetRec
	_ struct {
		Kind int
		Seq  int
		Body []byte
	} = impl.Rec{}
)

func TestRecordConstants(t *testing.T) {
	for i, kind := range []int{impl.RecNode, impl.RecMap, impl.RecTable, impl.RecRoot} {
		if kind != i+1 {
			t.Errorf("the kind of place %d is %d", i, kind)
		}
	}
}

// recSeqs are those at which PutNum changes its length, those next to them, and some between.
func recSeqs() []int {
	return []int{0, 1, 2, 5, 126, 127, 128, 129, 255, 256, 300, 4096, 16382, 16383, 16384, 16385, 65535, 65536, 100000, 524288, 999999, 1000000}
}

// wrongSeqs are below 0 or above MaxNum, among them those that a narrower number would take for a right one.
func wrongSeqs() []int {
	return []int{math.MinInt, math.MinInt + 1, -1 << 32, -1 << 31, -1000000, -256, -128, -2, -1, 1000001, 1000002, 1 << 20, 1<<21 - 1, 1 << 31, 1 << 32, 1<<32 + 5, math.MaxInt - 1, math.MaxInt}
}

// wrongKinds are none of the four, among them those that a narrower number would take for one.
func wrongKinds() []int {
	return []int{math.MinInt, math.MinInt + 1, -1 << 32, -256 + 1, -4, -2, -1, 0, 5, 6, 8, 127, 128, 129, 256 + 1, 256 + 4, 1<<16 + 2, 1000000, 1<<32 + 1, math.MaxInt}
}

// recBodies are of bytes of every value, in lengths about those where their count's own length changes, and about the most.
func recBodies() []string {
	l := []string{"", "a", "ab", "\x00", "\xff", "\x80", "\x00\x00\x00\x00", "\xff\xff\xff\xff", "é ☃", "\x01\x00\x00\xc5\x25\x31\x04"}
	for _, n := range []int{4, 126, 127, 128, 129, 200, 255, 256, 378, 379, 380} {
		b := make([]byte, n)
		for i := range b {
			b[i] = byte(i*31 + n)
		}
		l = append(l, string(b), strings.Repeat("\x00", n), strings.Repeat("\xff", n))
	}
	return l
}

func rightRecs() []impl.Rec {
	l := []impl.Rec{}
	for kind := 1; kind <= 4; kind++ {
		for _, seq := range recSeqs() {
			l = append(l, rec(kind, seq, ""), rec(kind, seq, "body"))
		}
		for i, body := range recBodies() {
			l = append(l, rec(kind, recSeqs()[i%len(recSeqs())], body))
		}
		l = append(l, rec(kind, 0, strings.Repeat("x", 380)), rec(kind, 1000000, strings.Repeat("x", 380)), impl.Rec{Kind: kind})
	}
	return l
}

// shortRecs are those of rightRecs whose every bit can be struck in little time, and some of the longest.
func shortRecs() []impl.Rec {
	l := slices.DeleteFunc(rightRecs(), func(r impl.Rec) bool { return len(r.Body) > 8 })
	return append(l, rec(1, 0, recBodies()[len(recBodies())-3]), rec(4, 1000000, strings.Repeat("\x00", 380)), rec(2, 128, strings.Repeat("\xff", 127)), rec(3, 16384, strings.Repeat("\x80", 128)))
}

// bodyWrongRecs have too many bytes, by one and by many.
func bodyWrongRecs() []impl.Rec {
	l := []impl.Rec{}
	for _, n := range []int{381, 382, 383, 384, 390, 400, 401, 512, 636, 16384 + 5, 1000000, 1000001} {
		l = append(l, rec(1, 0, strings.Repeat("x", n)), rec(4, 1000000, strings.Repeat("\x00", n)))
	}
	return l
}

// wrongRecs are wrong by one of their parts, and by several.
func wrongRecs() []impl.Rec {
	l := bodyWrongRecs()
	for _, kind := range wrongKinds() {
		l = append(l, rec(kind, 0, ""), rec(kind, 300, "ab"), rec(kind, 1000000, strings.Repeat("x", 380)), rec(kind, -1, strings.Repeat("x", 381)))
	}
	for _, seq := range wrongSeqs() {
		l = append(l, rec(1, seq, ""), rec(2, seq, "ab"), rec(4, seq, strings.Repeat("x", 380)), rec(0, seq, ""))
	}
	return append(l, impl.Rec{}, impl.Rec{Body: []byte("ab")}, impl.Rec{Seq: 5})
}

func TestRecordsThatAreRight(t *testing.T) {
	for _, r := range rightRecs() {
		if !impl.RecOk(r) || !recByWords(r) {
			t.Errorf("not right: %s", toldRec(r))
		}
	}
	for _, r := range wrongRecs() {
		if impl.RecOk(r) || recByWords(r) {
			t.Errorf("right: %s", toldRec(r))
		}
	}
}

func TestRecordsAtTheirEdges(t *testing.T) {
	for _, k := range []struct {
		kind, seq, body int
		right           bool
	}{
		{0, 0, 0, false}, {1, 0, 0, true}, {4, 0, 0, true}, {5, 0, 0, false},
		{1, -1, 0, false}, {1, 1, 0, true}, {1, 999999, 0, true}, {1, 1000000, 0, true}, {1, 1000001, 0, false},
		{1, 0, 1, true}, {1, 0, 379, true}, {1, 0, 380, true}, {1, 0, 381, false},
		{4, 1000000, 380, true}, {5, 1000000, 380, false}, {4, 1000001, 380, false}, {4, 1000000, 381, false},
	} {
		r := rec(k.kind, k.seq, strings.Repeat("q", k.body))
		if impl.RecOk(r) != k.right || (len(impl.PutRec(r)) > 0) != k.right {
			t.Errorf("right: %v, and %d bytes, of %s", impl.RecOk(r), len(impl.PutRec(r)), toldRec(r))
		}
		if back, ok := impl.GetRec(impl.PutRec(r)); ok != k.right || k.right && !sameRec(back, r) {
			t.Errorf("%s comes back as %s, %v", toldRec(r), toldRec(back), ok)
		}
	}
}

// TestKnownRecords: the bytes, and their sums, are worked out elsewhere.
func TestKnownRecords(t *testing.T) {
	for _, k := range []struct {
		r    impl.Rec
		form string
	}{
		{impl.Rec{Kind: impl.RecNode}, "\x01\x00\x00\xc5\x25\x31\x04"},
		{rec(impl.RecRoot, 1000000, ""), "\x04\xc0\x84\x3d\x00\xc9\xba\xa5\x94"},
		{rec(impl.RecMap, 300, "ab"), "\x02\xac\x02\x02ab\x3f\x45\x26\x0b"},
		{rec(impl.RecTable, 127, "\x00"), "\x03\x7f\x01\x00\x23\xc5\x06\x62"},
		{rec(impl.RecTable, 128, "\xff"), "\x03\x80\x01\x01\xff\x44\x7f\x56\xa6"},
		{rec(impl.RecNode, 16383, "\x00"), "\x01\xff\x7f\x01\x00\x5c\xe0\x35\x47"},
		{rec(impl.RecNode, 16384, "hello"), "\x01\x80\x80\x01\x05hello\x50\x27\xa5\x9e"},
		{rec(impl.RecRoot, 1, "\x05"), "\x04\x01\x01\x05\xb0\x57\x64\x21"},
		{rec(impl.RecNode, 0, strings.Repeat("x", 380)), "\x01\x00\xfc\x02" + strings.Repeat("x", 380) + "\xa6\xb5\x0c\xdf"},
		{rec(impl.RecRoot, 1000000, strings.Repeat("\x00", 380)), "\x04\xc0\x84\x3d\xfc\x02" + strings.Repeat("\x00", 380) + "\x46\x93\x25\x01"},
	} {
		if b := impl.PutRec(k.r); string(b) != k.form {
			t.Errorf("PutRec of %s: %x", toldRec(k.r), b)
		}
		if r, ok := impl.GetRec([]byte(k.form)); !ok || !sameRec(r, k.r) {
			t.Errorf("GetRec of %x: %s, %v", k.form, toldRec(r), ok)
		}
	}
}

// TestRecordsArePutOfTheirParts: the bytes are those that the calls of chapter 1 put, one behind the other.
func TestRecordsArePutOfTheirParts(t *testing.T) {
	for _, r := range rightRecs() {
		want := impl.PutText(impl.PutNum(impl.PutNum(nil, r.Kind), r.Seq), string(r.Body))
		sum := impl.Crc(want)
		want = append(want, byte(sum/(1<<24)), byte(sum/(1<<16)%256), byte(sum/(1<<8)%256), byte(sum%256))
		if b := impl.PutRec(r); !bytes.Equal(b, want) || string(b) != recForm(r) {
			t.Errorf("PutRec of %s: %x", toldRec(r), b)
		}
	}
}

func TestNothingIsPutOfWhatIsNoRecord(t *testing.T) {
	for _, r := range wrongRecs() {
		if b := impl.PutRec(r); len(b) != 0 {
			t.Errorf("of %s is put %x", toldRec(r), b)
		}
	}
}

// TestARecordIsNoMoreThanAPageTakes: the longest one is written to a page whole.
func TestARecordIsNoMoreThanAPageTakes(t *testing.T) {
	longest := 0
	for _, r := range rightRecs() {
		longest = max(longest, len(impl.PutRec(r)))
	}
	if longest != 390 || longest > impl.PageMax {
		t.Error("the longest record has", longest)
	}
}

func refusedGetRec(t *testing.T, s string) {
	t.Helper()
	if r, ok := impl.GetRec([]byte(s)); ok || !sameRec(r, impl.Rec{}) {
		t.Errorf("GetRec of %x: %s, %v", s, toldRec(r), ok)
	}
}

func checkGetRec(t *testing.T, s string) {
	t.Helper()
	want, right := recOfForm(s)
	if r, ok := impl.GetRec([]byte(s)); ok != right || !sameRec(r, want) {
		t.Errorf("GetRec of %x: %s, %v, not %s, %v", s, toldRec(r), ok, toldRec(want), right)
	}
}

func TestNoRecordOfFewBytes(t *testing.T) {
	if r, ok := impl.GetRec(nil); ok || !sameRec(r, impl.Rec{}) {
		t.Error("of nil:", toldRec(r), ok)
	}
	refusedGetRec(t, "")
	for _, n := range []int{1, 2, 3, 4, 5, 6, 7} {
		for _, c := range []string{"\x00", "\x01", "\x80", "\xff"} {
			refusedGetRec(t, strings.Repeat(c, n))
		}
	}
	// Sums alone, and behind too little, each of them right.
	for _, s := range []string{"", "\x00", "\x01", "\x04", "\x01\x00", "\x01\x80", "\x80", "\x01\x00\x80", "\x01\x00\x01", "\x01\x80\x80"} {
		refusedGetRec(t, withItsSum(s))
	}
}

// TestNoRecordOfOtherForms: their sums are right, but not what is ahead.
func TestNoRecordOfOtherForms(t *testing.T) {
	for _, s := range []string{
		// A needless byte in each number, and in the count.
		"\x81\x00\x05\x02ab", "\x81\x80\x00\x05\x02ab", "\x01\x85\x00\x02ab", "\x01\x85\x80\x00\x02ab", "\x01\x05\x82\x00ab", "\x01\x05\x82\x80\x00ab", "\x01\x80\x00\x00", "\x01\x00\x80\x00",
		// Numbers above MaxNum, and of four bytes.
		"\x01\xc1\x84\x3d\x00", "\x01\xff\xff\x7f\x00", "\x01\x80\x80\x80\x01\x00", "\x01\x85\x80\x80\x00\x00", "\xc1\x84\x3d\x05\x00", "\x81\x80\x80\x00\x05\x00",
		// Counts that go behind the end, into the sum, and behind that.
		"\x01\x05\x03ab", "\x01\x05\x06ab", "\x01\x05\x07ab", "\x01\x05\x7fab", "\x01\x05\xc0\x84\x3dab", "\x01\x05\xff\xff\x7fab",
		// Counts that end ahead of it.
		"\x01\x05\x01ab", "\x01\x05\x00ab", "\x01\x05\x02ab\x00", "\x01\x05\x00\x00",
		// Kinds that are none.
		"\x00\x05\x02ab", "\x05\x05\x02ab", "\x7f\x05\x02ab", "\x80\x01\x05\x02ab", "\x81\x02\x05\x02ab", "\xc0\x84\x3d\x05\x02ab",
	} {
		refusedGetRec(t, withItsSum(s))
	}
	for _, s := range []string{"\x01\x05\x02ab", "\x01\x00\x00", "\x04\x85\x01\x02ab"} {
		if _, ok := impl.GetRec([]byte(withItsSum(s))); !ok {
			t.Errorf("what the forms above turn is none itself: %x", s)
		}
	}
}

// TestNoRecordOfWrongOnes: a sum that is right makes no record right that is not.
func TestNoRecordOfWrongOnes(t *testing.T) {
	for _, r := range wrongRecs() {
		if r.Kind >= 0 && r.Seq >= 0 {
			refusedGetRec(t, recForm(r))
		}
	}
}

// TestNoRecordWithAnotherSum: the four bytes in each other order, turned, or taken of something else.
func TestNoRecordWithAnotherSum(t *testing.T) {
	for _, r := range shortRecs() {
		s := recForm(r)
		ahead, sum := s[:len(s)-4], s[len(s)-4:]
		for _, order := range []string{"3210", "1032", "2301", "0132", "1230", "3012"} {
			other := ""
			for _, place := range order {
				other += sum[place-'0' : place-'0'+1]
			}
			checkGetRec(t, ahead+other)
		}
		turned := []byte(sum)
		for i := range turned {
			turned[i] ^= 0xff
		}
		refusedGetRec(t, ahead+string(turned))
		refusedGetRec(t, ahead+"\x00\x00\x00\x00")
		refusedGetRec(t, ahead+sumForm(string(r.Body)))
		refusedGetRec(t, ahead+sumForm(s))
		refusedGetRec(t, sum+ahead)
	}
}

func TestRecordsOfEveryTurnedByte(t *testing.T) {
	for _, r := range []impl.Rec{rec(1, 0, ""), rec(2, 300, "ab"), rec(3, 128, "\x00\x80"), rec(4, 1000000, "\x05"), rec(1, 16384, "\x02\x01\x00")} {
		s := recForm(r)
		for i := range len(s) {
			for c := range 256 {
				one := string([]byte{byte(c)})
				checkGetRec(t, s[:i]+one+s[i+1:])
				if i < len(s)-4 {
					checkGetRec(t, withItsSum(s[:i]+one+s[i+1:len(s)-4]))
				}
			}
			checkGetRec(t, s[:i]+s[i+1:])
			checkGetRec(t, s[i:])
			for _, more := range []string{"\x00", "\x01", "a", "\x80"} {
				checkGetRec(t, s[:i]+more+s[i:])
			}
		}
	}
}

// TestRecordsOfEveryShortBytes: all bytes up to a length, each with its own sum.
func TestRecordsOfEveryShortBytes(t *testing.T) {
	right := map[int]int{}
	everyText("\x00\x01\x02\x04\x05\x7f\x80", 6, func(s string) {
		whole := withItsSum(s)
		checkGetRec(t, whole)
		checkGetRec(t, s)
		if r, ok := recOfForm(whole); ok {
			right[r.Kind]++
		}
	})
	for _, kind := range []int{1, 2, 4} {
		if right[kind] < 50 {
			t.Error("too few of them are right:", right)
		}
	}
}

// TestWhatIsReadIsPutAsTheSameBytes: no two forms are read as one record.
func TestWhatIsReadIsPutAsTheSameBytes(t *testing.T) {
	r := rand.New(rand.NewPCG(12, 1))
	read := 0
	for range 200000 {
		b := make([]byte, r.IntN(9))
		for i := range b {
			b[i] = "\x00\x01\x02\x03\x04\x05\x7f\x80\xff"[r.IntN(9)]
		}
		s := withItsSum(string(b))
		checkGetRec(t, s)
		if x, ok := impl.GetRec([]byte(s)); ok {
			read++
			if !impl.RecOk(x) || string(impl.PutRec(x)) != s {
				t.Fatalf("%x is read as %s, which is put as %x", s, toldRec(x), impl.PutRec(x))
			}
		}
	}
	if read < 1000 {
		t.Error("too few of them are records:", read)
	}
}

func TestAnEmptyListIsNilInARecord(t *testing.T) {
	for kind := -1; kind <= 6; kind++ {
		a, b := impl.Rec{Kind: kind, Seq: 5}, impl.Rec{Kind: kind, Seq: 5, Body: []byte{}}
		if impl.RecOk(a) != impl.RecOk(b) || !bytes.Equal(impl.PutRec(a), impl.PutRec(b)) {
			t.Error("nil and an empty body are told apart, of the kind", kind)
		}
	}
	if back, ok := impl.GetRec(impl.PutRec(impl.Rec{Kind: 1})); !ok || len(back.Body) != 0 {
		t.Error("no body comes back as", toldRec(back), ok)
	}
}

// TestVeryLargeAndVerySmallNumbersInARecord: each number beside each other one, in both fields.
func TestVeryLargeAndVerySmallNumbersInARecord(t *testing.T) {
	kinds, seqs := append(wrongKinds(), 1, 2, 3, 4), append(wrongSeqs(), recSeqs()...)
	for _, kind := range kinds {
		for _, seq := range seqs {
			for _, n := range []int{0, 1, 380, 381} {
				r := rec(kind, seq, strings.Repeat("\x04", n))
				back, ok := impl.GetRec(impl.PutRec(r))
				right := recByWords(r)
				if impl.RecOk(r) != right || ok != right || right && !sameRec(back, r) || !right && !sameRec(back, impl.Rec{}) {
					t.Errorf("%s, right: %v, comes back as %s, %v", toldRec(r), right, toldRec(back), ok)
				}
			}
		}
	}
}

// TestVeryManyBytesAreNoRecord: however much is handed in, it is answered.
func TestVeryManyBytesAreNoRecord(t *testing.T) {
	for _, n := range []int{391, 400, 401, 1000, 1000004, 3000000} {
		for _, c := range []string{"\x00", "\x01", "\x80", "\xff"} {
			s := strings.Repeat(c, n)
			for _, x := range []string{s, withItsSum(s), withItsSum("\x01\x00" + textForm(s[:min(n, 1000000)]))} {
				if r, ok := impl.GetRec([]byte(x)); ok || !sameRec(r, impl.Rec{}) {
					t.Errorf("%d bytes are read as %s, %v", len(x), toldRec(r), ok)
				}
			}
		}
	}
	if r := rec(1, 1, strings.Repeat("x", 5000000)); impl.RecOk(r) || len(impl.PutRec(r)) != 0 {
		t.Error("five million bytes are right")
	}
}
