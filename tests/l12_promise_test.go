package tests

import (
	"fmt"
	"math/rand/v2"
	"strings"
	"testing"

	"loop.example/g00285/impl"
)

// Promise 12: records come back; what is torn is none.

func checkComesBack(t *testing.T, r impl.Rec) {
	t.Helper()
	b := impl.PutRec(r)
	if string(b) != recForm(r) {
		t.Fatalf("PutRec of %s: %x", toldRec(r), b)
	}
	back, ok := impl.GetRec(b)
	if !ok || !sameRec(back, r) || !impl.RecOk(back) {
		t.Fatalf("%s comes back as %s, %v", toldRec(r), toldRec(back), ok)
	}
	if string(impl.PutRec(back)) != string(b) {
		t.Fatalf("%s is put anew as other bytes", toldRec(r))
	}
}

func TestRecordsComeBack(t *testing.T) {
	for _, r := range rightRecs() {
		checkComesBack(t, r)
	}
}

// TestRecordsOfEveryNumberComeBack: all numbers about those where their form is longer, and each 97th of all.
func TestRecordsOfEveryNumberComeBack(t *testing.T) {
	for seq := 0; seq <= impl.MaxNum; seq++ {
		if near := seq < 20000 || seq > impl.MaxNum-200; near || seq%97 == 0 {
			checkComesBack(t, rec(seq%4+1, seq, "n"))
		}
	}
}

func TestRecordsOfEveryLengthComeBack(t *testing.T) {
	r := rand.New(rand.NewPCG(12, 2))
	for n := range 381 {
		for kind := 1; kind <= 4; kind++ {
			checkComesBack(t, rec(kind, r.IntN(impl.MaxNum+1), anyBytes(r, n)))
		}
	}
}

func anyBytes(r *rand.Rand, n int) string {
	b := make([]byte, n)
	for i := range b {
		b[i] = byte(r.IntN(256))
	}
	return string(b)
}

// TestNoTwoRecordsHaveOneForm: what differs in any part differs in its bytes.
func TestNoTwoRecordsHaveOneForm(t *testing.T) {
	forms := map[string]string{}
	for _, r := range rightRecs() {
		s, told := string(impl.PutRec(r)), fmt.Sprint(r.Kind, r.Seq, r.Body)
		if was, there := forms[s]; there && was != told {
			t.Errorf("%s and %s are put as %x", was, told, s)
		}
		forms[s] = told
	}
}

// TestABeginningIsNoRecord: however little is missing; so it is with what the memory holds behind.
func TestABeginningIsNoRecord(t *testing.T) {
	for _, r := range rightRecs() {
		b := impl.PutRec(r)
		for k := range b {
			for _, part := range [][]byte{b[:k], b[:k:k]} {
				if back, ok := impl.GetRec(part); ok || !sameRec(back, impl.Rec{}) {
					t.Fatalf("%d bytes of %d of %s are read as %s, %v", k, len(b), toldRec(r), toldRec(back), ok)
				}
			}
		}
	}
}

// TestABeginningFilledUpIsNoRecord: what is torn, and has noughts or ones in the place of what is missing.
func TestABeginningFilledUpIsNoRecord(t *testing.T) {
	for _, r := range rightRecs() {
		s := recForm(r)
		for k := range len(s) {
			for _, fill := range []string{"\x00", "\xff", "\xa5"} {
				torn := s[:k] + strings.Repeat(fill, len(s)-k)
				if torn == s {
					continue
				}
				if back, ok := impl.GetRec([]byte(torn)); ok || !sameRec(back, impl.Rec{}) {
					t.Fatalf("%d bytes of %s, filled up by %x, are read as %s, %v", k, toldRec(r), fill, toldRec(back), ok)
				}
			}
		}
	}
}

func TestAnEndIsNoRecord(t *testing.T) {
	for _, r := range rightRecs() {
		s := recForm(r)
		for k := 1; k < len(s); k++ {
			if _, right := recOfForm(s[k:]); right {
				t.Fatalf("%s has a record at its end", toldRec(r))
			}
			refusedGetRec(t, s[k:])
		}
	}
}

func TestEachBitThatIsStruck(t *testing.T) {
	for _, r := range shortRecs() {
		b := impl.PutRec(r)
		for bit := range len(b) * 8 {
			b[bit/8] ^= 1 << (bit % 8)
			if back, ok := impl.GetRec(b); ok || !sameRec(back, impl.Rec{}) {
				t.Fatalf("%s, the bit %d struck, is read as %s, %v", toldRec(r), bit, toldRec(back), ok)
			}
			b[bit/8] ^= 1 << (bit % 8)
		}
		if back, ok := impl.GetRec(b); !ok || !sameRec(back, r) {
			t.Fatalf("%s, no bit struck, is read as %s, %v", toldRec(r), toldRec(back), ok)
		}
	}
}

// TestEachTwoBitsThatAreStruck: a sum of this kind misses no two bits in so few bytes.
func TestEachTwoBitsThatAreStruck(t *testing.T) {
	for _, r := range []impl.Rec{rec(1, 0, ""), rec(2, 300, "ab"), rec(4, 1000000, "\x05"), rec(3, 128, strings.Repeat("\x00", 20))} {
		b := impl.PutRec(r)
		strike := func(bit int) { b[bit/8] ^= 1 << (bit % 8) }
		for one := range len(b) * 8 {
			for two := range one {
				strike(one)
				strike(two)
				if back, ok := impl.GetRec(b); ok || !sameRec(back, impl.Rec{}) {
					t.Fatalf("%s, the bits %d and %d struck, is read as %s, %v", toldRec(r), one, two, toldRec(back), ok)
				}
				strike(one)
				strike(two)
			}
		}
	}
}

func TestAnythingBehindIsNoRecord(t *testing.T) {
	for _, r := range rightRecs() {
		s := recForm(r)
		for _, more := range []string{"\x00", "\x01", "\x80", "\xff", "\x00\x00\x00\x00", "ab", s, s[:len(s)-4], sumForm(s), strings.Repeat("\x00", 400)} {
			refusedGetRec(t, s+more)
			// With a sum of all of it, too: there is something behind the body then.
			refusedGetRec(t, withItsSum(s+more))
			refusedGetRec(t, withItsSum(s[:len(s)-4]+more))
		}
	}
}

func TestAnythingAheadIsNoRecord(t *testing.T) {
	for _, r := range rightRecs() {
		s := recForm(r)
		for _, ahead := range []string{"\x00", "\x05", "\x80", "\xff", s} {
			refusedGetRec(t, ahead+s)
			checkGetRec(t, withItsSum(ahead+s[:len(s)-4]))
		}
	}
}

// TestBytesThatAreMovedAreNoRecord: two of them that are not alike change their places.
func TestBytesThatAreMovedAreNoRecord(t *testing.T) {
	for _, r := range []impl.Rec{rec(1, 0, "ab"), rec(2, 300, "swap these"), rec(4, 1000000, "\x05")} {
		b := impl.PutRec(r)
		for i := range b {
			for k := range i {
				if b[i] == b[k] {
					continue
				}
				b[i], b[k] = b[k], b[i]
				if back, ok := impl.GetRec(b); ok || !sameRec(back, impl.Rec{}) {
					t.Errorf("%s, %d and %d changed, is read as %s", toldRec(r), k, i, toldRec(back))
				}
				b[i], b[k] = b[k], b[i]
			}
		}
	}
}

// recOnDevice writes a record to a device whose power goes in its midst, and answers what is read there afterwards.
func recOnDevice(t *testing.T, r impl.Rec, keep int) []byte {
	t.Helper()
	d, code := impl.DevProgram(impl.DevNew(3, []impl.Fault{torn(0, keep)}), 1, impl.PutRec(r))
	if code != impl.FsDown {
		t.Fatalf("%s: the code %d", toldRec(r), code)
	}
	b, ok := impl.ReadPage(impl.PowerUp(d).C, 1, 0)
	if !ok {
		t.Fatalf("%s: nothing is written", toldRec(r))
	}
	return b
}

// TestAPageThatIsTornIsNoRecord: unless all of it was kept.
func TestAPageThatIsTornIsNoRecord(t *testing.T) {
	l := []impl.Rec{rec(1, 0, ""), rec(2, 300, "ab"), rec(3, 128, strings.Repeat("\x00", 40)), rec(4, 1000000, strings.Repeat("x", 380))}
	for _, r := range l {
		whole := len(impl.PutRec(r))
		for keep := 0; keep <= impl.PageMax; keep++ {
			back, ok := impl.GetRec(recOnDevice(t, r, keep))
			if ok != (keep >= whole) || ok && !sameRec(back, r) || !ok && !sameRec(back, impl.Rec{}) {
				t.Fatalf("%s, %d kept, is read as %s, %v", toldRec(r), keep, toldRec(back), ok)
			}
		}
	}
}

func TestAPageOfATornEraseIsNoRecord(t *testing.T) {
	for keep := range 9 {
		d := impl.DevNew(3, []impl.Fault{torn(8, keep)})
		for seq := range 8 {
			d, _ = impl.DevProgram(d, 2, impl.PutRec(rec(4, seq, "root")))
		}
		d, code := impl.DevErase(d, 2)
		if code != impl.FsDown {
			t.Fatalf("%d kept: the code %d", keep, code)
		}
		for page := range 8 {
			b, _ := impl.ReadPage(d.C, 2, page)
			refusedGetRec(t, string(b))
		}
	}
}

// TestRecordsOnPages: those of a whole block come back as they were written.
func TestRecordsOnPages(t *testing.T) {
	r := rand.New(rand.NewPCG(12, 3))
	for range 60 {
		c, l := impl.ChipNew(3), []impl.Rec{}
		for page := range impl.PagesPer {
			x := rec(r.IntN(4)+1, r.IntN(impl.MaxNum+1), anyBytes(r, r.IntN(381)))
			code := 0
			if c, code = impl.Program(c, 0, impl.PutRec(x)); code != impl.FsGood {
				t.Fatalf("the page %d: the code %d", page, code)
			}
			l = append(l, x)
		}
		for page, x := range l {
			b, _ := impl.ReadPage(c, 0, page)
			if back, ok := impl.GetRec(b); !ok || !sameRec(back, x) {
				t.Fatalf("the page %d: %s comes back as %s, %v", page, toldRec(x), toldRec(back), ok)
			}
		}
	}
}

// TestBodiesThatTheProgramPuts: each inode fits into a record, and comes back through it, and so do operations.
func TestBodiesThatTheProgramPuts(t *testing.T) {
	longest := 0
	for i, x := range rightInodes() {
		r := impl.Rec{Kind: impl.RecNode, Seq: i, Body: impl.PutInode(x)}
		longest = max(longest, len(r.Body))
		back, _ := impl.GetRec(impl.PutRec(r))
		if got, ok := impl.GetInode(back.Body); !ok || !impl.SameInode(got, x) {
			t.Errorf("%s comes back as %s", told(x), told(got))
		}
	}
	if longest < 200 {
		t.Error("the longest inode has", longest)
	}
	for i, o := range oneOfEach() {
		back, _ := impl.GetRec(impl.PutRec(impl.Rec{Kind: impl.RecRoot, Seq: i, Body: impl.PutOp(o)}))
		if got, ok := impl.GetOp(back.Body); !ok || !sameOp(got, o) {
			t.Errorf("%s comes back as %s", toldOp(o), toldOp(got))
		}
	}
}

// TestARecordWithinARecord: a body that is a record itself is a body, and no more.
func TestARecordWithinARecord(t *testing.T) {
	r := rec(1, 5, "")
	for kind := 1; ; kind = kind%4 + 1 {
		inner := impl.PutRec(r)
		if len(inner) > 380 {
			break
		}
		outer := impl.Rec{Kind: kind, Seq: len(inner), Body: inner}
		checkComesBack(t, outer)
		if back, ok := impl.GetRec(outer.Body); !ok || !sameRec(back, r) {
			t.Fatalf("%s comes back as %s, %v", toldRec(r), toldRec(back), ok)
		}
		r = outer
	}
	if len(r.Body) < 360 {
		t.Error("the last one has", len(r.Body))
	}
}
