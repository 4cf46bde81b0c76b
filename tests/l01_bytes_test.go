package tests

import (
	"bytes"
	"hash/crc32"
	"math"
	"strings"
	"testing"

	"loop.example/g00285/impl"
)

// The signatures are part of what is asked: a change of one must not build.
var (
	_ func([]byte, int) []byte              = impl.PutNum
	_ func([]byte, int) (int, int, bool)    = impl.GetNum
	_ func([]byte, string) []byte           = impl.PutText
	_ func([]byte, int) (string, int, bool) = impl.GetText
	_ func([]byte) int                      = impl.Crc
)

func TestCodes(t *testing.T) {
	codes := []int{impl.FsGood, impl.FsForm, impl.FsNone, impl.FsKind, impl.FsThere, impl.FsFull, impl.FsBusy, impl.FsRead, impl.FsQuota, impl.FsSpace, impl.FsDown}
	for i, c := range codes {
		if c != i {
			t.Errorf("the code of place %d is %d", i, c)
		}
	}
	if impl.MaxNum != 1000000 {
		t.Error("MaxNum", impl.MaxNum)
	}
}

// numForms are written out by hand, so that no code of the program makes what it is held against.
var numForms = []struct {
	n    int
	form string
}{
	{math.MinInt, "\x00"}, {-128, "\x00"}, {-1, "\x00"}, {0, "\x00"},
	{1, "\x01"}, {127, "\x7f"},
	{128, "\x80\x01"}, {129, "\x81\x01"}, {300, "\xac\x02"}, {16383, "\xff\x7f"},
	{16384, "\x80\x80\x01"}, {16385, "\x81\x80\x01"}, {999999, "\xbf\x84\x3d"},
	{impl.MaxNum, "\xc0\x84\x3d"}, {impl.MaxNum + 1, "\xc0\x84\x3d"},
	{1 << 32, "\xc0\x84\x3d"}, {math.MaxInt, "\xc0\x84\x3d"},
}

func TestPutNumForms(t *testing.T) {
	for _, x := range numForms {
		for _, ahead := range []string{"", "\x00", "\xff\x80", strings.Repeat("q", 300)} {
			if b := impl.PutNum([]byte(ahead), x.n); string(b) != ahead+x.form {
				t.Errorf("PutNum of %d behind %d bytes: %x", x.n, len(ahead), b[len(ahead):])
			}
		}
		if b := impl.PutNum(nil, x.n); string(b) != x.form {
			t.Errorf("PutNum of %d behind nil: %x", x.n, b)
		}
	}
}

func TestEveryNumberComesBack(t *testing.T) {
	ahead, behind := []byte{0xff, 0x00, 0x81}, []byte{0x00, 0x85}
	for n := 0; n <= impl.MaxNum; n++ {
		b := impl.PutNum(ahead, n)
		end := len(b)
		got, next, ok := impl.GetNum(append(b, behind...), len(ahead))
		if !ok || got != n || next != end {
			t.Fatalf("%d came back as %d, %d, %v", n, got, next, ok)
		}
	}
}

func TestNumbersOneBehindTheOther(t *testing.T) {
	list := []int{0, 127, 128, 16383, 16384, impl.MaxNum, 0, 5}
	var b []byte
	for _, n := range list {
		b = impl.PutNum(b, n)
	}
	at := 0
	for _, n := range list {
		got, next, ok := impl.GetNum(b, at)
		if !ok || got != n {
			t.Fatalf("%d came back as %d, %v", n, got, ok)
		}
		at = next
	}
	if at != len(b) {
		t.Error("the place behind all is", at)
	}
}

// numOfForm reads a form by the document's words, whole or not at all.
func numOfForm(form []byte) (int, bool) {
	if len(form) == 0 || len(form) > 3 || form[len(form)-1] >= 128 {
		return 0, false
	}
	n, worth := 0, 1
	for i, c := range form {
		if i < len(form)-1 && c < 128 {
			return 0, false
		}
		n += int(c&127) * worth
		worth *= 128
	}
	if len(form) > 1 && form[len(form)-1] == 0 || n > 1000000 {
		return 0, false
	}
	return n, true
}

func checkGetNum(t *testing.T, b []byte) {
	t.Helper()
	want, end, found := 0, 0, false
	for k := 1; k <= len(b) && !found; k++ {
		if want, found = numOfForm(b[:k]); found {
			end = k
		}
	}
	if n, next, ok := impl.GetNum(b, 0); n != want || next != end || ok != found {
		t.Fatalf("GetNum of %x: %d, %d, %v", b, n, next, ok)
	}
}

func TestGetNumOfAllShortBytes(t *testing.T) {
	checkGetNum(t, nil)
	b := make([]byte, 3)
	for x := range 1 << 24 {
		b[0], b[1], b[2] = byte(x>>16), byte(x>>8), byte(x)
		checkGetNum(t, b)
		if b[2] == 0 {
			checkGetNum(t, b[:2])
		}
		if b[2] == 0 && b[1] == 0 {
			checkGetNum(t, b[:1])
		}
	}
}

func refusedNum(t *testing.T, b []byte, at int) {
	t.Helper()
	if n, next, ok := impl.GetNum(b, at); ok || n != 0 || next != 0 {
		t.Errorf("GetNum of %x at %d: %d, %d, %v", b, at, n, next, ok)
	}
}

func TestGetNumRefuses(t *testing.T) {
	wrong := []string{
		"", "\x80", "\xff", "\x80\x80", "\xff\xff\xff", // not there whole
		"\x80\x80\x80\x01", "\x80\x80\x80\x00", "\xff\xff\xff\x7f", // more than three
		"\x80\x00", "\xff\x00", "\x80\x80\x00", "\xff\xff\x00", // a last group of 0
		"\xc1\x84\x3d", "\x80\x85\x3d", "\xc0\x84\x3e", "\xff\xff\x7f", // above MaxNum
	}
	for _, s := range wrong {
		refusedNum(t, []byte(s), 0)
		refusedNum(t, []byte("ab"+s), 2)
	}
}

func TestGetNumPlaces(t *testing.T) {
	b := []byte{1, 2, 3}
	for _, at := range []int{-1, -3, math.MinInt, 3, 4, 100, math.MaxInt - 2, math.MaxInt} {
		refusedNum(t, b, at)
	}
	refusedNum(t, nil, 0)
	refusedNum(t, []byte{}, 0)
	if n, next, ok := impl.GetNum(b, 2); !ok || n != 3 || next != 3 {
		t.Error("the last place", n, next, ok)
	}
}

func TestGetNumReadsNoSpareRoom(t *testing.T) {
	whole := []byte{0x80, 0x80, 0x01}
	refusedNum(t, whole[:0], 0)
	refusedNum(t, whole[:1], 0)
	refusedNum(t, whole[:2], 0)
}

// texts are of bytes of every value, in lengths about those where the number's own length changes.
func texts() []string {
	l := []string{"", "a", "\x00", "\x80", "\xff\xfe", "xyz", "é ☃", "a\x00b"}
	for _, n := range []int{127, 128, 255, 256, 16383, 16384, impl.MaxNum - 1, impl.MaxNum} {
		b := make([]byte, n)
		for i := range b {
			b[i] = byte(i * 7)
		}
		l = append(l, string(b))
	}
	return l
}

func TestPutTextForms(t *testing.T) {
	for _, s := range texts() {
		for _, ahead := range []string{"", "\x80", "head"} {
			want := string(impl.PutNum([]byte(ahead), len(s))) + s
			if b := impl.PutText([]byte(ahead), s); string(b) != want {
				t.Errorf("PutText of %d bytes behind %q", len(s), ahead)
			}
		}
	}
	if b := impl.PutText(nil, ""); string(b) != "\x00" {
		t.Errorf("PutText of nothing: %x", b)
	}
	if b := impl.PutText([]byte{9}, "xyz"); string(b) != "\x09\x03xyz" {
		t.Errorf("PutText of xyz: %x", b)
	}
}

func TestTextsComeBack(t *testing.T) {
	for _, s := range texts() {
		b := impl.PutText([]byte{0xff, 0x80}, s)
		end := len(b)
		got, next, ok := impl.GetText(append(b, 0x80, 'z'), 2)
		if !ok || got != s || next != end {
			t.Errorf("a text of %d bytes came back with %d, %d, %v", len(s), len(got), next, ok)
		}
		if got, next, ok = impl.GetText(b, 2); !ok || got != s || next != end {
			t.Errorf("a text of %d bytes at the end: %d, %d, %v", len(s), len(got), next, ok)
		}
	}
}

func TestTextAboveTheMost(t *testing.T) {
	s := strings.Repeat("x", impl.MaxNum) + "yz"
	b := impl.PutText([]byte{7}, s)
	if string(b) != "\x07\xc0\x84\x3d"+s {
		t.Error("the number is not MaxNum, or the bytes are not all there", len(b))
	}
	if got, next, ok := impl.GetText(b, 1); !ok || got != s[:impl.MaxNum] || next != 4+impl.MaxNum {
		t.Error("what comes back", len(got), next, ok)
	}
}

func refusedText(t *testing.T, b []byte, at int) {
	t.Helper()
	if s, next, ok := impl.GetText(b, at); ok || s != "" || next != 0 {
		t.Errorf("GetText of %d bytes at %d: %d bytes, %d, %v", len(b), at, len(s), next, ok)
	}
}

func TestGetTextRefuses(t *testing.T) {
	wrong := []string{
		"", "\x80", "\x80\x80\x80", "\x81\x00a", "\x80\x00", "\xc1\x84\x3d", // no number
		"\x01", "\x02a", "\x7fabc", "\x80\x01abc", "\xc0\x84\x3dabc", // shorter than it says
	}
	for _, s := range wrong {
		refusedText(t, []byte(s), 0)
		refusedText(t, []byte("\x00"+s), 1)
	}
	tooLong := append([]byte("\xc1\x84\x3d"), make([]byte, impl.MaxNum+1)...)
	refusedText(t, tooLong, 0)
	short := impl.PutText(nil, strings.Repeat("s", 200))
	for k := range len(short) {
		refusedText(t, short[:k], 0)
	}
}

func TestGetTextPlaces(t *testing.T) {
	b := []byte("\x01a\x00")
	for _, at := range []int{-1, math.MinInt, 3, 4, math.MaxInt} {
		refusedText(t, b, at)
	}
	refusedText(t, nil, 0)
	if s, next, ok := impl.GetText(b, 2); !ok || s != "" || next != 3 {
		t.Error("the empty text at the end", s, next, ok)
	}
}

func TestCrcOfKnownBytes(t *testing.T) {
	ascending := make([]byte, 32)
	for i := range ascending {
		ascending[i] = byte(i)
	}
	for _, x := range []struct {
		b   []byte
		sum int
	}{
		{nil, 0}, {[]byte{}, 0}, {[]byte("a"), 0xc1d04330}, {[]byte("123456789"), 0xe3069283},
		{make([]byte, 32), 0x8a9136aa}, {bytes.Repeat([]byte{255}, 32), 0x62a8ab43}, {ascending, 0x46dd794e},
	} {
		if sum := impl.Crc(x.b); sum != x.sum {
			t.Errorf("Crc of %x: %x", x.b, sum)
		}
	}
}

func TestCrcIsTheKnownSum(t *testing.T) {
	table := crc32.MakeTable(crc32.Castagnoli)
	b := []byte{}
	for i := range 1000 {
		if sum := impl.Crc(b); sum != int(crc32.Checksum(b, table)) {
			t.Fatalf("Crc of %d bytes: %x", len(b), sum)
		}
		b = append(b, byte(i*i+3*i))
	}
}

func TestCrcTurnsWithAnyBit(t *testing.T) {
	for _, n := range []int{1, 2, 9, 100, 400} {
		b := make([]byte, n)
		for i := range b {
			b[i] = byte(i * 31)
		}
		sum := impl.Crc(b)
		for bit := range 8 * n {
			b[bit/8] ^= 1 << (bit % 8)
			if impl.Crc(b) == sum {
				t.Errorf("of %d bytes bit %d does not turn the sum", n, bit)
			}
			b[bit/8] ^= 1 << (bit % 8)
		}
	}
}

func TestCrcReadsNoSpareRoom(t *testing.T) {
	whole := []byte("123456789 and more")
	if sum := impl.Crc(whole[:9]); sum != 0xe3069283 {
		t.Errorf("%x", sum)
	}
}
