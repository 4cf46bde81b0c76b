package impl

import "slices"

const (
	FsGood  = 0
	FsForm  = 1
	FsNone  = 2
	FsKind  = 3
	FsThere = 4
	FsFull  = 5
	FsBusy  = 6
	FsRead  = 7
	FsQuota = 8
	FsSpace = 9
	FsDown  = 10
)

const MaxNum = 1000000

const (
	groupBits = 7
	groupMore = 1 << groupBits
	maxGroups = 3
	crcTurn   = 2197175160
)

// putNums writes onto b itself, so that many numbers cost one copy: b must be the caller's own.
func putNums(b []byte, ns ...int) []byte {
	for _, n := range ns {
		n = min(max(n, 0), MaxNum)
		for n >= groupMore {
			b = append(b, byte(n%groupMore+groupMore))
			n /= groupMore
		}
		b = append(b, byte(n))
	}
	return b
}

func PutNum(b []byte, n int) []byte {
	return putNums(slices.Clone(b), n)
}

func GetNum(b []byte, at int) (int, int, bool) {
	if at < 0 || at >= len(b) {
		return 0, 0, false
	}
	n := 0
	for i, c := range b[at:min(at+maxGroups, len(b))] {
		n += int(c%groupMore) << (groupBits * i)
		if c >= groupMore {
			continue
		}
		// A number has one form alone: no group of 0 is put at its end.
		if (i > 0 && c == 0) || n > MaxNum {
			return 0, 0, false
		}
		return n, at + i + 1, true
	}
	return 0, 0, false
}

// putTexts, as putNums, writes onto b itself.
func putTexts(b []byte, texts ...string) []byte {
	for _, s := range texts {
		b = append(putNums(b, len(s)), s...)
	}
	return b
}

func PutText(b []byte, s string) []byte {
	return putTexts(slices.Clone(b), s)
}

func GetText(b []byte, at int) (string, int, bool) {
	n, next, ok := GetNum(b, at)
	if !ok || n > len(b)-next {
		return "", 0, false
	}
	return string(b[next : next+n]), next + n, true
}

func Crc(b []byte) int {
	sum := ^uint32(0)
	for _, c := range b {
		sum ^= uint32(c)
		for range 8 {
			low := sum & 1
			sum >>= 1
			if low == 1 {
				sum ^= crcTurn
			}
		}
	}
	return int(^sum)
}
