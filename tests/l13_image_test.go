package tests

import (
	"bytes"
	"encoding/binary"
	"go/ast"
	"go/parser"
	"go/token"
	"math"
	"runtime"
	"slices"
	"strings"
	"testing"

	"loop.example/g00248/impl"
)

const mostInt = 1000000

// numBytes are the bytes of a number by the chapter, of one beyond all bounds, too. (The library's varints fold numbers below 0 in just this way.)
func numBytes(numbers ...int) []byte {
	var b []byte
	for _, n := range numbers {
		b = binary.AppendVarint(b, int64(n))
	}
	return b
}

// longNum are the bytes of a number with so many needless groups behind.
func longNum(n int, needless int) []byte {
	b := numBytes(n)
	b[len(b)-1] += 128
	return append(append(b, bytes.Repeat([]byte{128}, needless-1)...), 0)
}

// numIn is GetNum by the chapter: what is read must be just the bytes that it would be told in.
func numIn(b []byte, at int) (int, int, bool) {
	if at < 0 || at > len(b) {
		return 0, 0, false
	}
	n, size := binary.Varint(b[at:])
	if size <= 0 || size > 4 || n < -mostInt || n > mostInt || !bytes.Equal(numBytes(int(n)), b[at:at+size]) {
		return 0, 0, false
	}
	return int(n), at + size, true
}

// imageBy are the bytes of code by the chapter, right or not.
func imageBy(l ...impl.Ins) []byte {
	b := numBytes(len(l))
	for _, x := range l {
		b = append(b, insBytes(x)...)
	}
	return b
}

func insBytes(x impl.Ins) []byte {
	return append(numBytes(x.Op, x.A, x.B, x.C, x.N, len(x.S)), x.S...)
}

// codeIn is GetCode by the chapter: whatever is read, right code must have just these bytes.
func codeIn(b []byte) ([]impl.Ins, bool) {
	rest := b
	next := func() int {
		n, size := binary.Varint(rest)
		rest = rest[max(size, 0):]
		return int(n)
	}
	var l []impl.Ins
	for range min(next(), 2*mostCode) {
		x := impl.Ins{Op: next(), A: next(), B: next(), C: next(), N: next()}
		size := min(max(next(), 0), len(rest))
		x.S, rest = string(rest[:size]), rest[size:]
		l = append(l, x)
	}
	if !rightCode(l) || !bytes.Equal(imageBy(l...), b) {
		return nil, false
	}
	return l, true
}

// spareBytes stand behind a list's length: read on from there, they would be the end of many a number.
var spareBytes = []byte{1, 0, 2, 128, 255, 38, 0}

// lendBytes hands b out with spare room behind it, and tells whether all of it is as it was.
func lendBytes(b []byte) ([]byte, func() bool) {
	room := slices.Concat(b, spareBytes)
	ahead := slices.Clone(room)
	return room[:len(b)], func() bool { return bytes.Equal(room, ahead) }
}

// without is b without any room behind it, so that what reaches past its end fails.
func without(b []byte) []byte { return slices.Clip(slices.Clone(b)) }

// isNumPut holds PutNum against the chapter, and its bytes against what GetNum reads there.
func isNumPut(t *testing.T, b []byte, n int) []byte {
	t.Helper()
	kept := min(max(n, -mostInt), mostInt)
	lent, untouched := lendBytes(b)
	got, other := impl.PutNum(lent, n), impl.PutNum(lent, n)
	if want := slices.Concat(b, numBytes(kept)); !bytes.Equal(got, want) || !bytes.Equal(other, want) {
		t.Fatalf("%d behind %x is %x, then %x, not %x", n, b, got, other, want)
	}
	if !untouched() {
		t.Fatalf("%d behind %x: an argument, or the room behind it, was written", n, b)
	}
	if meet([]span{spanOf(lent), spanOf(got), spanOf(other)}) {
		t.Fatalf("%d behind %x is not in new memory", n, b)
	}
	isNumGot(t, got, len(b), kept, len(got))
	return got
}

// getNumOf is GetNum, held against the chapter.
func getNumOf(t *testing.T, b []byte, at int) (int, int, bool) {
	t.Helper()
	lent, untouched := lendBytes(b)
	n, next, ok := impl.GetNum(lent, at)
	if !untouched() {
		t.Fatalf("%x at %d: an argument, or the room behind it, was written", b, at)
	}
	if exactN, exactNext, exact := impl.GetNum(without(b), at); n != exactN || next != exactNext || ok != exact {
		t.Fatalf("%x at %d hangs on the room behind it", b, at)
	}
	if wantN, wantNext, want := numIn(b, at); n != wantN || next != wantNext || ok != want {
		t.Fatalf("%x at %d is %d, %d, %v, not %d, %d, %v", b, at, n, next, ok, wantN, wantNext, want)
	}
	return n, next, ok
}

func isNumGot(t *testing.T, b []byte, at int, want int, behind int) {
	t.Helper()
	if n, next, ok := getNumOf(t, b, at); n != want || next != behind || !ok {
		t.Fatalf("%x at %d is %d, %d, %v, not %d, %d, true", b, at, n, next, ok, want, behind)
	}
}

func isNoNum(t *testing.T, b []byte, at int) {
	t.Helper()
	if n, next, ok := getNumOf(t, b, at); n != 0 || next != 0 || ok {
		t.Fatalf("%x at %d is %d, %d, %v", b, at, n, next, ok)
	}
}

// putCodeOf is PutCode, once it is known to touch nothing, and two answers to share nothing.
func putCodeOf(t *testing.T, l []impl.Ins) []byte {
	t.Helper()
	lent, untouched := lendCode(l)
	b, other := impl.PutCode(lent), impl.PutCode(lent)
	if !untouched() {
		t.Fatal("an argument, or the room behind it, was written")
	}
	if !bytes.Equal(b, other) || meet([]span{spanOf(b), spanOf(other)}) {
		t.Fatalf("bytes %x, then %x, of one code, or in one memory", b, other)
	}
	return b
}

// getCodeOf is GetCode, held against the chapter: it touches nothing, and what it answers shares memory with nothing.
func getCodeOf(t *testing.T, b []byte) ([]impl.Ins, bool) {
	t.Helper()
	lent, untouched := lendBytes(b)
	l, ok := impl.GetCode(lent)
	other, again := impl.GetCode(lent)
	if !untouched() {
		t.Fatalf("%x: an argument, or the room behind it, was written", b)
	}
	if again != ok || !slices.Equal(l, other) || meet([]span{spanOf(lent), spanOf(l), spanOf(other)}) {
		t.Fatalf("%x is read as %v, then %v, or in one memory", b, l, other)
	}
	if exact, right := impl.GetCode(without(b)); right != ok || !slices.Equal(l, exact) {
		t.Fatalf("%x hangs on the room behind it", b)
	}
	for _, x := range l {
		if meetOthers([]span{textSpan(x.S)}, []span{spanOf(lent)}) {
			t.Fatalf("%x: the text %q is a part of it", b, x.S)
		}
	}
	if want, right := codeIn(b); ok != right || !slices.Equal(l, want) {
		t.Fatalf("%x is read as %v, %v, not %v, %v", b, l, ok, want, right)
	}
	return l, ok
}

// isImage asks for code that comes back of its bytes, as it does of its text.
func isImage(t *testing.T, l ...impl.Ins) []byte {
	t.Helper()
	b := putCodeOf(t, l)
	if want := imageBy(l...); !bytes.Equal(b, want) {
		t.Fatalf("bytes of %v: %x, not %x", l, b, want)
	}
	if got, ok := getCodeOf(t, b); !ok || !slices.Equal(got, l) {
		t.Fatalf("%x comes back as %v, %v", b, got, ok)
	}
	if got, ok := impl.ParseCode(impl.CodeText(l)); !ok || !slices.Equal(got, l) {
		t.Fatalf("%q comes back as %v, %v", impl.CodeText(l), got, ok)
	}
	return b
}

// isNotImage asks for a refusal of what is not code, and of the bytes that it would have.
func isNotImage(t *testing.T, l ...impl.Ins) {
	t.Helper()
	if b := putCodeOf(t, l); len(b) != 0 {
		t.Fatalf("no code %v: bytes %x", l, b)
	}
	isNoCodeIn(t, imageBy(l...))
}

func isNoCodeIn(t *testing.T, parts ...[]byte) {
	t.Helper()
	b := slices.Concat(parts...)
	if l, ok := getCodeOf(t, b); ok || len(l) != 0 {
		t.Fatalf("%x is read as %v, %v", b, l, ok)
	}
}

// isImageOrNot asks for one or the other.
func isImageOrNot(t *testing.T, l ...impl.Ins) {
	t.Helper()
	if rightCode(l) {
		isImage(t, l...)
	} else {
		isNotImage(t, l...)
	}
}

// The numbers at which one more byte is wanted stand here on both sides, above 0 and below.
func TestNumbersInBytes(t *testing.T) {
	for _, x := range []struct {
		n int
		s string
	}{
		{0, "\x00"}, {-1, "\x01"}, {1, "\x02"}, {-2, "\x03"}, {2, "\x04"}, {42, "\x54"}, {-42, "\x53"},
		{63, "\x7e"}, {-64, "\x7f"}, {64, "\x80\x01"}, {-65, "\x81\x01"}, {127, "\xfe\x01"}, {128, "\x80\x02"}, {-128, "\xff\x01"}, {-129, "\x81\x02"}, {150, "\xac\x02"}, {-150, "\xab\x02"},
		{8191, "\xfe\x7f"}, {-8192, "\xff\x7f"}, {8192, "\x80\x80\x01"}, {-8193, "\x81\x80\x01"}, {65536, "\x80\x80\x08"}, {-65536, "\xff\xff\x07"},
		{999999, "\xfe\x88\x7a"}, {-999999, "\xfd\x88\x7a"}, {1000000, "\x80\x89\x7a"}, {-1000000, "\xff\x88\x7a"},
	} {
		if b := impl.PutNum(nil, x.n); string(b) != x.s {
			t.Errorf("%d is %x, not %x", x.n, b, x.s)
		}
		for _, ahead := range []string{"", "\x00", "\x09", "\x80", "\xff\xff\xff\xff\xff", "\x80\x80\x80\x80", strings.Repeat("ab", 500)} {
			if b := isNumPut(t, []byte(ahead), x.n); string(b) != ahead+x.s {
				t.Errorf("%d behind %x is %x", x.n, ahead, b)
			}
			for _, behind := range []string{"\x00", "\x01", "\x7f", "\x80", "\xff\xff\xff\xff"} {
				isNumGot(t, []byte(ahead+x.s+behind), len(ahead), x.n, len(ahead)+len(x.s))
			}
		}
	}
}

func TestNumbersBeyondAllBounds(t *testing.T) {
	for _, n := range []int{mostInt, mostInt + 1, mostInt + 2, 1048575, 1048576, 1 << 31, 1 << 32, 1<<32 + 1, 1 << 61, 1 << 62, 1<<62 + 5, math.MaxInt - 1, math.MaxInt} {
		if b := isNumPut(t, []byte{7}, n); string(b) != "\x07\x80\x89\x7a" {
			t.Errorf("%d is %x", n, b)
		}
	}
	for _, n := range []int{-mostInt, -mostInt - 1, -mostInt - 2, -1048576, -1048577, -1 << 31, -1 << 32, -1<<32 - 1, -1 << 61, -1 << 62, -1<<62 - 5, math.MinInt + 1, math.MinInt} {
		if b := isNumPut(t, []byte{7}, n); string(b) != "\x07\xff\x88\x7a" {
			t.Errorf("%d is %x", n, b)
		}
	}
	// just beyond in bytes, at the least and at the most that three of them may tell, and all that four may
	for _, s := range []string{"\x81\x89\x7a", "\x82\x89\x7a", "\x80\x8a\x7a", "\x80\x89\x7b", "\xfe\xff\x7f", "\xff\xff\x7f", "\x80\x80\x80\x01", "\x81\x80\x80\x01", "\xff\xff\xff\x7f", "\xfe\xff\xff\x7f"} {
		isNoNum(t, []byte(s), 0)
		isNoNum(t, []byte("\x00"+s+"\x00"), 1)
	}
}

// All that there are; each is told unlike all others, since each comes back.
func TestEachNumberComesBack(t *testing.T) {
	for n := -mostInt; n <= mostInt; n++ {
		b := impl.PutNum(nil, n)
		got, next, ok := impl.GetNum(b, 0)
		if got != n || next != len(b) || !ok || len(b) > 3 {
			t.Fatalf("%d is %x, which is %d, %d, %v", n, b, got, next, ok)
		}
	}
}

// Whatever stands in three bytes, whole or not.
func TestAllNumbersOfThreeBytes(t *testing.T) {
	b := make([]byte, 3)
	for v := range 1 << 24 {
		b[0], b[1], b[2] = byte(v), byte(v>>8), byte(v>>16)
		size := 1
		for size < 3 && b[size-1] >= 128 {
			size++
		}
		folded := int(b[0] % 128)
		if size > 1 {
			folded += int(b[1]%128) << 7
		}
		if size > 2 {
			folded += int(b[2]%128) << 14
		}
		want, behind, right := folded/2, size, b[size-1] < 128 && (size == 1 || b[size-1] > 0)
		if folded%2 == 1 {
			want = -want - 1
		}
		if !right || want < -mostInt || want > mostInt {
			want, behind, right = 0, 0, false
		}
		if n, next, ok := impl.GetNum(b, 0); n != want || next != behind || ok != right {
			t.Fatalf("%x is %d, %d, %v, not %d, %d, %v", b, n, next, ok, want, behind, right)
		}
	}
}

// Four bytes may be whole, but what they tell is beyond MaxInt, or not told in the shortest way; five are too many.
func TestNumbersOfFourBytesAndFive(t *testing.T) {
	few := []byte{0, 1, 2, 126, 127, 128, 129, 130, 254, 255}
	for _, a := range few {
		for _, b := range few {
			for _, c := range few {
				for _, d := range few {
					four := []byte{a, b, c, d}
					getNumOf(t, four, 0)
					getNumOf(t, append([]byte{9, 200}, four...), 2)
					if a >= 128 && b >= 128 && c >= 128 {
						isNoNum(t, four, 0)
						for _, e := range few {
							isNoNum(t, append(four, e), 0)
							isNoNum(t, append(four, e, 0), 0)
							isNoNum(t, append(four, e, 1), 0)
						}
					}
				}
			}
		}
	}
	for _, n := range []int{5, 6, 8, 9, 10, 11, 1000} {
		for _, last := range []byte{0, 1, 2, 127} {
			isNoNum(t, append(bytes.Repeat([]byte{128}, n-1), last), 0)
			isNoNum(t, append(bytes.Repeat([]byte{255}, n-1), last), 0)
		}
	}
	// what has more than 64 bits, or all of them
	isNoNum(t, numBytes(math.MaxInt), 0)
	isNoNum(t, numBytes(math.MinInt), 0)
	isNoNum(t, binary.AppendUvarint(nil, 1<<63), 0)
	isNoNum(t, append(bytes.Repeat([]byte{128}, 9), 2), 0)
}

func TestLastGroupsOfNothing(t *testing.T) {
	isNumGot(t, []byte{0}, 0, 0, 1)
	isNumGot(t, []byte{0, 0}, 0, 0, 1)
	isNumGot(t, []byte{0, 0}, 1, 0, 2)
	isNumGot(t, []byte{128, 1, 0}, 0, 64, 2)
	// a group of nothing that is not the last one
	isNumGot(t, []byte{128, 128, 1}, 0, 8192, 3)
	isNumGot(t, []byte{255, 128, 1}, 0, -8256, 3)
	for _, n := range []int{0, 1, -1, 63, -64, 64, -65, 8191, -8192, 8192, -8193, mostInt, -mostInt} {
		for _, needless := range []int{1, 2, 3, 4, 8, 20} {
			isNoNum(t, longNum(n, needless), 0)
			isNoNum(t, slices.Concat(numBytes(n), longNum(n, needless), numBytes(n)), len(numBytes(n)))
		}
	}
	for _, s := range []string{"\x80\x00", "\x81\x00", "\xff\x00", "\x80\x80\x00", "\xff\xff\x00", "\x80\x80\x80\x00", "\xff\xff\xff\x00"} {
		isNoNum(t, []byte(s), 0)
	}
}

func TestPlacesOfNumbers(t *testing.T) {
	b := []byte("\x02\x80\x01\xff\x88\x7a\x05")
	isNumGot(t, b, 0, 1, 1)
	isNumGot(t, b, 1, 64, 3)
	isNumGot(t, b, 2, -1, 3)
	isNumGot(t, b, 3, -mostInt, 6)
	isNumGot(t, b, 5, 61, 6)
	isNumGot(t, b, 6, -3, 7)
	for _, at := range []int{7, 8, 13, 14, 1000, math.MaxInt - 4, math.MaxInt - 3, math.MaxInt - 1, math.MaxInt, -1, -2, -7, -1000, math.MinInt, math.MinInt + 4} {
		isNoNum(t, b, at)
		isNoNum(t, nil, at)
	}
	for _, at := range []int{-1, 0, 1} {
		isNoNum(t, nil, at)
		isNoNum(t, []byte{}, at)
	}
	// what stands behind the length is not read
	for _, cut := range []int{1, 2, 3} {
		long := numBytes(8192)
		if n, next, ok := impl.GetNum(long[:cut], 0); ok != (cut == 3) || cut < 3 && (n != 0 || next != 0) {
			t.Errorf("%x of %x is %d, %d, %v", long[:cut], long, n, next, ok)
		}
	}
	for at := range 4 {
		isNoNum(t, []byte{128, 128, 128, 128}[:4-at], 3-at)
	}
}

// Numbers that are put one behind the other are got one behind the other.
func TestManyNumbersInARow(t *testing.T) {
	d := dice(13)
	for range 300 {
		var b []byte
		var all []int
		for range 1 + d.below(30) {
			n := []int{d.below(3) - 1, d.below(200) - 100, d.below(40000) - 20000, d.below(2*mostInt+1) - mostInt}[d.below(4)]
			b, all = isNumPut(t, b, n), append(all, n)
		}
		at := 0
		for _, n := range all {
			isNumGot(t, b, at, n, at+len(numBytes(n)))
			at += len(numBytes(n))
		}
		isNoNum(t, b, at)
		for at := range len(b) {
			getNumOf(t, b, at)
		}
	}
}

func TestNumbersInAnyBytes(t *testing.T) {
	d := dice(131)
	for range 50000 {
		b := make([]byte, d.below(8))
		for i := range b {
			b[i] = byte(d.below(256))
			if d.below(3) == 0 {
				b[i] = []byte{0, 1, 127, 128, 129, 255}[d.below(6)]
			}
		}
		for at := -1; at <= len(b)+1; at++ {
			getNumOf(t, b, at)
		}
	}
}

// An answer that grows does not grow into another one, nor into what it came of.
func TestNumbersShareNothing(t *testing.T) {
	room := []byte{1, 2, 3, 4, 5, 6, 7, 8}
	for n := range len(room) + 1 {
		one, two := impl.PutNum(room[:n], 64), impl.PutNum(room[:n], -1)
		three := impl.PutNum(one, 7)
		if !bytes.Equal(one, slices.Concat(room[:n], []byte{128, 1})) || !bytes.Equal(two, slices.Concat(room[:n], []byte{1})) || !bytes.Equal(three, slices.Concat(room[:n], []byte{128, 1, 14})) {
			t.Fatalf("%x, %x, %x", one, two, three)
		}
		if string(room) != "\x01\x02\x03\x04\x05\x06\x07\x08" {
			t.Fatalf("an argument, or the room behind it, was written: %x", room)
		}
		if meet([]span{spanOf(room), spanOf(one), spanOf(two), spanOf(three)}) {
			t.Fatal("not new memory")
		}
	}
}

func TestCodeInBytes(t *testing.T) {
	for text, want := range map[string]string{
		"end 0\n":                       "\x02\x26\x00\x00\x00\x00\x00",
		"end 7\n":                       "\x02\x26\x0e\x00\x00\x00\x00",
		"jump 0\n":                      "\x02\x18\x00\x00\x00\x00\x00",
		"atom 1 ok\nsay 1\nend 1\n":     "\x06\x04\x02\x00\x00\x00\x04ok\x22\x02\x00\x00\x00\x00\x26\x02\x00\x00\x00\x00",
		"atom 0 abcdefghijkl\njump 1\n": "\x04\x04\x00\x00\x00\x00\x18abcdefghijkl\x18\x00\x00\x00\x02\x00",
		"int 3 -1\nint 4 -64\nint 5 -65\nint 6 64\nint 7 -1000000\nend 0\n": "\x0c\x02\x06\x00\x00\x01\x00\x02\x08\x00\x00\x7f\x00\x02\x0a\x00\x00\x81\x01\x00" +
			"\x02\x0c\x00\x00\x80\x01\x00\x02\x0e\x00\x00\xff\x88\x7a\x00\x26\x00\x00\x00\x00\x00",
		"cons 1 2 3\nkind 4 6 0\ntuple 7 1 7\nend 0\n": "\x08\x0a\x02\x04\x06\x00\x00\x16\x08\x0c\x00\x00\x00\x08\x0e\x02\x00\x0e\x00\x26\x00\x00\x00\x00\x00",
	} {
		l, ok := impl.ParseCode(text)
		if !ok {
			t.Fatalf("%q is no code", text)
		}
		if b := isImage(t, l...); string(b) != want {
			t.Errorf("%q in bytes is %x, not %x", text, b, want)
		}
	}
}

// Each number that an Op names: at its least, in the midst and at its most; passed by one, and by far.
func TestNumbersOfEachOpInBytes(t *testing.T) {
	for _, n := range []int{2, 65, mostCode} {
		for _, o := range opEdges {
			for _, at := range []int{0, n - 2} {
				l := endless(n)
				l[at] = o.x
				isImage(t, l...)
				for _, e := range o.edges {
					most := e.most
					if most == lastPlace {
						most = n - 1
					}
					for _, v := range []int{e.least, (e.least + most) / 2, most} {
						l[at] = withField(o.x, e.field, v)
						isImage(t, l...)
					}
					for _, v := range []int{e.least - 1, most + 1, most + 128, math.MinInt, math.MaxInt, 1 << 32} {
						l[at] = withField(o.x, e.field, v)
						isNotImage(t, l...)
					}
				}
			}
		}
	}
}

// A number beyond MaxInt would be told as MaxInt, and so lead back to other code: it is no code, so nothing is told.
func TestNumbersOfCodeAreNotCutShort(t *testing.T) {
	for _, n := range []int{mostInt + 1, -mostInt - 1, math.MaxInt, math.MinInt} {
		isNotImage(t, impl.Ins{Op: impl.OpInt, N: n}, impl.Ins{Op: impl.OpEnd})
	}
	for _, n := range []int{mostInt, -mostInt} {
		isImage(t, impl.Ins{Op: impl.OpInt, N: n}, impl.Ins{Op: impl.OpEnd})
	}
}

func TestHowMuchCodeThereMayBeInBytes(t *testing.T) {
	ends := func(n int) []impl.Ins { return slices.Repeat([]impl.Ins{{Op: impl.OpEnd}}, n) }
	for n := 1; n <= mostCode; n++ {
		isImage(t, endless(n)...)
		isImage(t, ends(n)...)
	}
	for _, n := range []int{0, 201, 202, 256, 400, 8191, 8192} {
		isNotImage(t, ends(n)...)
		isNotImage(t, slices.Repeat([]impl.Ins{{Op: impl.OpJump}}, n)...)
	}
	isNotImage(t)
	// another number of instructions than there are
	for _, many := range []int{1, 2, 3, 199, 200, 201} {
		for _, told := range []int{math.MinInt, -mostInt - 1, -mostInt, -201, -200, -2, -1, 0, 1, 2, 3, 199, 200, 201, 202, 256, 65536, mostInt, mostInt + 1, 1 << 32, 1<<32 + many, math.MaxInt} {
			behind := imageBy(ends(many)...)[len(numBytes(many)):]
			if told != many || many > mostCode {
				isNoCodeIn(t, numBytes(told), behind)
			} else {
				isImage(t, ends(many)...)
			}
		}
	}
	for _, told := range []int{-mostInt, -1, 0, 1, 200, 201, mostInt} {
		isNoCodeIn(t, numBytes(told))
		isNoCodeIn(t, numBytes(told), []byte{0})
		isNoCodeIn(t, numBytes(told), make([]byte, 6*mostCode))
		isNoCodeIn(t, numBytes(told), bytes.Repeat([]byte{255}, 6*mostCode))
		isNoCodeIn(t, numBytes(told), bytes.Repeat([]byte{128}, 6*mostCode))
	}
}

// A number of instructions beyond all bounds makes no list of so many.
func TestWrongBytesTakeLittleRoom(t *testing.T) {
	b := slices.Concat(numBytes(mostInt), insBytes(impl.Ins{Op: impl.OpEnd}))
	var ahead, behind runtime.MemStats
	runtime.ReadMemStats(&ahead)
	impl.GetCode(b)
	runtime.ReadMemStats(&behind)
	if size := behind.TotalAlloc - ahead.TotalAlloc; size > mostInt {
		t.Error("of so many instructions", size, "bytes are made")
	}
}

func TestAtomsInBytes(t *testing.T) {
	last := impl.Ins{Op: impl.OpEnd}
	for _, s := range []string{"a", "z", "a0", "ok", "end", "abcdefghijk", "abcdefghijkl", "z99999999999"} {
		isImage(t, impl.Ins{Op: impl.OpAtom, A: 7, S: s}, last)
		isImage(t, impl.Ins{Op: impl.OpAtom, S: s}, impl.Ins{Op: impl.OpAtom, A: 1, S: s}, impl.Ins{Op: impl.OpAtom, A: 2, S: "a"}, last)
	}
	for _, s := range slices.Concat(noAtoms, []string{"", "abcdefghijklm", strings.Repeat("a", 63), strings.Repeat("a", 64), strings.Repeat("a", 8192), "\x26\x00\x00\x00\x00\x00"}) {
		isNotImage(t, impl.Ins{Op: impl.OpAtom, A: 7, S: s}, last)
	}
	// a text where none is named
	for _, o := range opEdges {
		if o.x.Op == impl.OpAtom {
			continue
		}
		isImage(t, o.x, last)
		for _, s := range []string{"a", "ok", "\x00", strings.Repeat("a", 12)} {
			x := o.x
			x.S = s
			isNotImage(t, x, last)
			isNotImage(t, last, x)
		}
	}
}

// What is said to be the text's length reaches past the end, or stops short of it.
func TestTextsLongerThanWhatIsLeft(t *testing.T) {
	last := insBytes(impl.Ins{Op: impl.OpEnd})
	for size := range 13 {
		s := "abcdefghijkl"[:size]
		for told := -2; told <= 21; told++ {
			ahead := slices.Concat(numBytes(2), numBytes(impl.OpAtom, 7, 0, 0, 0, told), []byte(s))
			getCodeOf(t, slices.Concat(ahead, last))
			if told != size || size == 0 {
				isNoCodeIn(t, ahead, last)
			}
			isNoCodeIn(t, ahead)
		}
		for _, told := range []int{size + 1, size + 6, size + 7, 63, 64, 200, 8192, mostInt, mostInt + 1, 1 << 32, math.MaxInt, -1, -2, -6, -size, -12, -mostInt, -mostInt - 1, math.MinInt} {
			if told == 0 {
				continue
			}
			isNoCodeIn(t, numBytes(2), numBytes(impl.OpAtom, 7, 0, 0, 0, told), []byte(s), last)
			// of the last one, whose text would end with all
			isNoCodeIn(t, numBytes(1), numBytes(impl.OpEnd, 0, 0, 0, 0, told))
			isNoCodeIn(t, numBytes(1), numBytes(impl.OpEnd, 0, 0, 0, 0, told), []byte(s))
		}
	}
	// a length below 0 that would lead back to bytes that are there
	isNoCodeIn(t, numBytes(2), last, numBytes(impl.OpEnd, 0, 0, 0, 0, -6), last)
	isNoCodeIn(t, numBytes(1), numBytes(impl.OpEnd, 0, 0, 0, 0, -1), []byte{0})
}

func TestTheLastInstructionInBytes(t *testing.T) {
	for _, o := range opEdges {
		for _, n := range []int{2, 40, mostCode} {
			l := endless(n)
			l[n-1] = o.x
			isImageOrNot(t, l...)
			if ok := o.x.Op == impl.OpEnd || o.x.Op == impl.OpJump; impl.CodeOk(l) != ok {
				t.Error("the last one", o.x)
			}
		}
	}
}

func TestInstructionsThatAreNoneInBytes(t *testing.T) {
	for _, op := range []int{0, 21, -1, -19, 12 + 256, 19 + 1<<32, mostInt, -mostInt, math.MinInt, math.MaxInt} {
		isNotImage(t, impl.Ins{Op: op})
		isNotImage(t, impl.Ins{Op: op}, impl.Ins{Op: impl.OpEnd})
		isNotImage(t, impl.Ins{Op: impl.OpEnd}, impl.Ins{Op: op, A: 1, S: "ok"})
	}
	for _, o := range opEdges {
		for _, field := range []byte{'A', 'B', 'C', 'N'} {
			if slices.ContainsFunc(o.edges, func(e edge) bool { return e.field == field }) {
				continue
			}
			for _, v := range []int{1, -1, 7, mostInt, -mostInt, math.MaxInt} {
				isNotImage(t, withField(o.x, field, v), impl.Ins{Op: impl.OpEnd})
			}
		}
	}
}

// someImage has each Op in it, numbers of one byte and of several, below 0, too.
func someImage(t *testing.T) ([]impl.Ins, []byte) {
	t.Helper()
	l, ok := impl.ParseCode(manyLines)
	if !ok {
		t.Fatal("no code")
	}
	l[0].N, l[19].N = -65, -mostInt
	return l, isImage(t, l...)
}

func TestBytesCutAndWithMoreBehind(t *testing.T) {
	_, b := someImage(t)
	long := isImage(t, endless(mostCode)...)
	for _, b := range [][]byte{b, long, imageBy(impl.Ins{Op: impl.OpEnd})} {
		for at := range b {
			isNoCodeIn(t, b[:at])
			// where the rest stands behind the length, it is not read
			if l, ok := impl.GetCode(b[:at]); ok || len(l) != 0 {
				t.Fatalf("cut at %d: %v", at, l)
			}
		}
		for more := range 256 {
			isNoCodeIn(t, b, []byte{byte(more)})
		}
		isNoCodeIn(t, b, b)
		isNoCodeIn(t, b, insBytes(impl.Ins{Op: impl.OpEnd}))
		isNoCodeIn(t, b, make([]byte, 100000))
		isNoCodeIn(t, []byte{0}, b)
	}
	isNoCodeIn(t)
	if l, ok := impl.GetCode(nil); ok || len(l) != 0 {
		t.Error("nothing is code")
	}
	if len(impl.PutCode(nil)) != 0 || len(impl.PutCode([]impl.Ins{})) != 0 {
		t.Error("nothing has bytes")
	}
}

// Each number of an image, told with needless groups behind.
func TestBytesThatAreNotTheShortest(t *testing.T) {
	l, b := someImage(t)
	var numbers []int
	var texts []string
	add := func(n int, s string) { numbers, texts = append(numbers, n), append(texts, s) }
	add(len(l), "")
	for _, x := range l {
		for _, n := range []int{x.Op, x.A, x.B, x.C, x.N} {
			add(n, "")
		}
		add(len(x.S), x.S)
	}
	with := func(at int, needless int) []byte {
		var out []byte
		for i, n := range numbers {
			part := numBytes(n)
			if i == at && needless > 0 {
				part = longNum(n, needless)
			}
			out = slices.Concat(out, part, []byte(texts[i]))
		}
		return out
	}
	if !bytes.Equal(with(0, 0), b) {
		t.Fatal("the test itself has other bytes")
	}
	for at := range numbers {
		for _, needless := range []int{1, 2, 3, 4, 9} {
			isNoCodeIn(t, with(at, needless))
		}
	}
}

// Each byte struck, left out, doubled, or with any byte ahead of it.
func TestBytesStruckOneByOne(t *testing.T) {
	_, b := someImage(t)
	for at := range b {
		ahead, here, behind := b[:at], b[at:at+1], b[at+1:]
		getCodeOf(t, slices.Concat(here, behind))
		getCodeOf(t, slices.Concat(ahead, behind))
		for v := range 256 {
			getCodeOf(t, slices.Concat(ahead, []byte{byte(v)}, behind))
			getCodeOf(t, slices.Concat(ahead, []byte{byte(v)}, here, behind))
		}
	}
}

func TestImagesByChance(t *testing.T) {
	d := dice(133)
	for i := range 1500 {
		l := anyCode(&d, 1+d.below(mostCode))
		if i%4 != 0 {
			l = anyCode(&d, 1+d.below(6))
		}
		b := isImage(t, l...)
		fromBytes, _ := impl.GetCode(b)
		fromText, _ := impl.ParseCode(impl.CodeText(l))
		if !slices.Equal(fromBytes, fromText) || impl.CodeText(fromBytes) != impl.CodeText(l) || !bytes.Equal(impl.PutCode(fromText), b) {
			t.Fatalf("%x and %q lead to %v and %v", b, impl.CodeText(l), fromBytes, fromText)
		}
		// one instruction that may be right in other code, only, or in none
		at := d.below(len(l))
		l[at] = anyIns(&d, mostCode)
		isImageOrNot(t, l...)
		l[at] = withField(l[at], "ABCN"[d.below(4)], edgeNumbers[d.below(len(edgeNumbers))])
		isImageOrNot(t, l...)
		for range 5 {
			wrong := slices.Clone(b)
			for range 1 + d.below(3) {
				wrong[d.below(len(wrong))] = byte(d.below(256))
			}
			getCodeOf(t, wrong)
			getCodeOf(t, wrong[:d.below(len(wrong)+1)])
		}
	}
}

func TestCodeInAnyBytes(t *testing.T) {
	d := dice(1313)
	for range 50000 {
		var b []byte
		for range d.below(30) {
			b = append(b, []byte{0, 0, 2, 4, 14, 24, 38, 128, 129, 255, byte(d.below(256))}[d.below(11)])
		}
		getCodeOf(t, b)
		getCodeOf(t, append([]byte{2}, b...))
	}
}

// What is read keeps nothing of the bytes: they may be written over.
func TestImagesShareNothing(t *testing.T) {
	l, b := someImage(t)
	got, ok := impl.GetCode(b)
	clear(b)
	if !ok || !slices.Equal(got, l) {
		t.Fatal("what was read is a part of the bytes")
	}
	one, two := impl.PutCode(l), impl.PutCode(l)
	_ = append(one[:3], 255, 255, 255)
	if !bytes.Equal(two, imageBy(l...)) {
		t.Fatal("answers share memory")
	}
}

func TestNumbersArePutByVariadicFunctions(t *testing.T) {
	f, err := parser.ParseFile(token.NewFileSet(), "../impl/l13_image.go", nil, 0)
	if err != nil {
		t.Fatal(err)
	}
	variadic, called := map[string]bool{}, map[string]int{}
	ast.Inspect(f, func(n ast.Node) bool {
		switch x := n.(type) {
		case *ast.FuncDecl:
			params := x.Type.Params.List
			last, ok := params[len(params)-1].Type.(*ast.Ellipsis)
			if ok {
				of, isName := last.Elt.(*ast.Ident)
				variadic[x.Name.Name] = isName && of.Name == "int"
			}
		case *ast.CallExpr:
			if name, ok := x.Fun.(*ast.Ident); ok {
				called[name.Name] = max(called[name.Name], len(x.Args))
			}
		}
		return true
	})
	for name, ofInts := range variadic {
		if ofInts && called[name] > 2 {
			return
		}
	}
	t.Error("no variadic function of numbers that is handed several")
}
