package xor_test

import (
	"bytes"
	"strings"
	"testing"

	"mirrorheal/api"
	"mirrorheal/xor"
)

var (
	noughts = []byte{0, 0, 0, 0}
	full    = []byte{255, 255, 255, 255}
)

// blocks are ordinary ones and edges, each another one.
func blocks() [][]byte {
	return [][]byte{
		{0, 0, 0, 0},
		{255, 255, 255, 255},
		{1, 2, 3, 4},
		{1, 0, 3, 0},
		{0, 2, 0, 4},
		[]byte("abcd"),
		{128, 64, 32, 16},
		{0, 0, 0, 1},
		{1, 0, 0, 0},
		{170, 85, 170, 85},
	}
}

// bits are all blocks that have just one bit.
func bits() [][]byte {
	var l [][]byte
	for k := range 4 * 8 {
		b := make([]byte, 4)
		b[k/8] = 1 << (k % 8)
		l = append(l, b)
	}
	return l
}

// has tells whether bit k of b is set, by counting instead of by xor.
func has(b []byte, k int) bool {
	return b[k/8]>>(k%8)%2 == 1
}

// odd are the bits that an odd number of blocks have: what all of them are together.
func odd(l [][]byte) []byte {
	out := make([]byte, 4)
	for k := range 4 * 8 {
		n := 0
		for _, b := range l {
			if has(b, k) {
				n++
			}
		}
		if n%2 == 1 {
			out[k/8] += 1 << (k % 8)
		}
	}
	return out
}

// isTwo fails unless a and b together are want, in both orders.
func isTwo(t *testing.T, a, b, want []byte) {
	t.Helper()
	if got := xor.Two(a, b); !bytes.Equal(got, want) {
		t.Errorf("Two(%v, %v) = %v, want %v", a, b, got, want)
	}
	if got := xor.Two(b, a); !bytes.Equal(got, want) {
		t.Errorf("Two(%v, %v) = %v, want %v", b, a, got, want)
	}
}

// isAll fails unless the blocks of l together are want, and Even tells whether these are noughts.
func isAll(t *testing.T, l [][]byte, want []byte) {
	t.Helper()
	if got := xor.All(l); !bytes.Equal(got, want) {
		t.Errorf("All(%v) = %v, want %v", l, got, want)
	}
	if got := xor.Even(l); got != bytes.Equal(want, noughts) {
		t.Errorf("Even(%v) = %v, and together they are %v", l, got, want)
	}
}

func TestC1TwoKnown(t *testing.T) {
	isTwo(t, []byte{1, 2, 3, 4}, []byte{1, 0, 3, 0}, []byte{0, 2, 0, 4})
	isTwo(t, []byte{1, 2, 3, 255}, []byte{255, 0, 3, 1}, []byte{254, 2, 0, 254})
	isTwo(t, []byte("abcd"), []byte("    "), []byte("ABCD"))
	isTwo(t, []byte{170, 85, 170, 85}, []byte{85, 170, 85, 170}, full)
	isTwo(t, []byte{12, 10, 12, 10}, []byte{10, 12, 12, 6}, []byte{6, 6, 0, 12})
}

// Every byte with every byte, at every place: each bit is by itself, and nothing is carried.
func TestC1TwoBitByBit(t *testing.T) {
	for x := range 256 {
		for y := range 256 {
			a := []byte{byte(x), byte(y), byte(x), 0}
			b := []byte{byte(y), byte(x), 0, byte(y)}
			if got, want := xor.Two(a, b), odd([][]byte{a, b}); !bytes.Equal(got, want) {
				t.Fatalf("Two(%v, %v) = %v, want %v", a, b, got, want)
			}
		}
	}
}

func TestC1TwoEdges(t *testing.T) {
	isTwo(t, noughts, noughts, noughts)
	isTwo(t, full, full, noughts)
	isTwo(t, full, noughts, full)
	for _, b := range append(blocks(), bits()...) {
		isTwo(t, b, noughts, b)
		isTwo(t, b, b, noughts)
		turned := []byte{255 - b[0], 255 - b[1], 255 - b[2], 255 - b[3]}
		isTwo(t, b, full, turned)
		isTwo(t, b, turned, full)
	}
}

// Any one of a, b and what they are together is what the two others are.
func TestC1AnyOneIsWhatTheOthersAre(t *testing.T) {
	for _, a := range blocks() {
		for _, b := range blocks() {
			c := xor.Two(a, b)
			isTwo(t, a, c, b)
			isTwo(t, b, c, a)
			isAll(t, [][]byte{a, b, c}, noughts)
		}
	}
	three := [][]byte{[]byte("abcd"), {1, 2, 3, 4}, {128, 64, 32, 16}}
	four := append(three, xor.All(three))
	isAll(t, four, noughts)
	for gone := range four {
		var others [][]byte
		others = append(others, four[:gone]...)
		others = append(others, four[gone+1:]...)
		isAll(t, others, four[gone])
	}
}

func TestC1AllWithoutAnyIsNoughts(t *testing.T) {
	isAll(t, nil, noughts)
	isAll(t, [][]byte{}, noughts)
	if got := xor.All(nil); len(got) != 4 {
		t.Errorf("All of nothing has %d bytes, not BlockSize", len(got))
	}
}

func TestC1AllOfOneIsThatOne(t *testing.T) {
	for _, b := range append(blocks(), bits()...) {
		isAll(t, [][]byte{b}, b)
		isAll(t, [][]byte{noughts, b, noughts}, b)
	}
}

func TestC1AllOfTwoIsTwo(t *testing.T) {
	for _, a := range blocks() {
		for _, b := range blocks() {
			isAll(t, [][]byte{a, b}, xor.Two(a, b))
		}
	}
}

func TestC1AllOfMany(t *testing.T) {
	isAll(t, [][]byte{{1, 2, 3, 4}, {1, 0, 3, 0}, {255, 255, 255, 255}}, []byte{255, 253, 255, 251})
	isAll(t, [][]byte{{1, 2, 4, 8}, {2, 4, 8, 16}, {4, 8, 16, 32}, {8, 16, 32, 64}}, []byte{15, 30, 60, 120})
	isAll(t, bits(), full)
	l := append(blocks(), bits()...)
	for from := range l {
		for to := from; to <= len(l); to++ {
			isAll(t, l[from:to], odd(l[from:to]))
		}
	}
}

// One and the same block over and over: it is there, or not at all.
func TestC1TwiceIsNotAtAll(t *testing.T) {
	for _, b := range blocks() {
		var l [][]byte
		for n := range 9 {
			want := noughts
			if n%2 == 1 {
				want = b
			}
			isAll(t, l, want)
			l = append(l, b)
		}
		isAll(t, [][]byte{b, full, bytes.Clone(b)}, full)
	}
	isAll(t, append(blocks(), blocks()...), noughts)
}

// orders calls back with every order of l.
func orders(l [][]byte, back func([][]byte)) {
	var walk func(k int)
	walk = func(k int) {
		if k == len(l) {
			back(l)
			return
		}
		for j := k; j < len(l); j++ {
			l[k], l[j] = l[j], l[k]
			walk(k + 1)
			l[k], l[j] = l[j], l[k]
		}
	}
	walk(0)
}

func TestC1NothingHangsOnTheOrder(t *testing.T) {
	for _, l := range [][][]byte{
		{{1, 2, 3, 4}, {1, 0, 3, 0}, {0, 2, 0, 4}},
		{{1, 2, 3, 4}, []byte("abcd"), {255, 255, 255, 255}, {0, 0, 0, 0}, {1, 2, 3, 4}},
		blocks()[4:],
	} {
		want := odd(l)
		orders(l, func(turned [][]byte) { isAll(t, turned, want) })
	}
}

// A single bit, at whatever place, is enough for a list not to be noughts together.
func TestC1EvenFindsOneBit(t *testing.T) {
	even := [][]byte{{1, 2, 3, 4}, []byte("abcd"), xor.Two([]byte{1, 2, 3, 4}, []byte("abcd"))}
	if !xor.Even(even) {
		t.Errorf("%v are not noughts together", even)
	}
	for _, bit := range bits() {
		if l := append(even, bit); xor.Even(l) {
			t.Errorf("%v are noughts together", l)
		}
		if xor.Even([][]byte{bit}) || xor.Even([][]byte{noughts, bit, noughts}) {
			t.Errorf("%v is noughts", bit)
		}
		if !xor.Even([][]byte{bit, bit}) {
			t.Errorf("%v twice is not noughts", bit)
		}
	}
}

// Lists that other ways of counting would take for noughts: sums of bytes that wrap round, noughts at one end only, blocks of which one is another's mirror.
func TestC1EvenOfListsThatAreNot(t *testing.T) {
	for _, l := range [][][]byte{
		{{255, 255, 255, 255}},
		{{128, 128, 128, 128}, {1, 1, 1, 1}},
		{{1, 0, 0, 0}, {255, 0, 0, 0}},
		{{1, 2, 3, 4}, {255, 254, 253, 252}},
		{{1, 2, 3, 4}, {4, 3, 2, 1}},
		{{0, 0, 0, 1}, {1, 0, 0, 0}},
		{{1, 1, 0, 0}},
		{{7, 7, 7, 7}, {0, 0, 0, 0}},
		{{1, 2, 3, 4}, {1, 0, 3, 0}},
		{{1, 2, 3, 4}, {1, 2, 3, 4}, {1, 2, 3, 4}},
		{{3, 3, 3, 3}, {3, 3, 3, 3}, {0, 0, 0, 0}, {0, 0, 0, 2}},
	} {
		if xor.Even(l) {
			t.Errorf("Even(%v) = true", l)
		}
	}
}

func TestZ1NoCallPanics(t *testing.T) {
	for n := range 9 {
		for m := range 9 {
			a, b := make([]byte, n), make([]byte, m)
			xor.Two(a, b)
			xor.All([][]byte{a, b, nil})
			xor.Even([][]byte{a, b, nil})
		}
	}
	xor.Two(nil, nil)
	xor.All([][]byte{nil})
	xor.Even([][]byte{nil})
}

// withRoom is a copy of b with spare room behind it, full of x.
func withRoom(b []byte, x byte) []byte {
	whole := append(bytes.Clone(b), bytes.Repeat([]byte{x}, 12)...)
	return whole[:len(b)]
}

func TestZ2HandedInIsOnlyRead(t *testing.T) {
	a, b := withRoom([]byte("abcd"), '-'), withRoom([]byte{1, 2, 3, 4}, '-')
	l := [][]byte{a, b, a, {9, 9, 9, 9}}[:3]
	isTwo(t, a, b, []byte{96, 96, 96, 96})
	isAll(t, l, []byte{1, 2, 3, 4})
	isAll(t, [][]byte{a, a}, noughts)
	if whole := string(a[:cap(a)]); !strings.HasPrefix(whole, "abcd------------") {
		t.Errorf("a block, or the room behind, became %q", whole)
	}
	if whole := string(b[:cap(b)]); !strings.HasPrefix(whole, "\x01\x02\x03\x04------------") {
		t.Errorf("a block, or the room behind, became %q", whole)
	}
	if &l[0][0] != &a[0] || &l[1][0] != &b[0] || &l[2][0] != &a[0] || !bytes.Equal(l[:4][3], []byte{9, 9, 9, 9}) {
		t.Errorf("the list of blocks, or the room behind, became %v", l[:4])
	}
}

// fill writes over a list and all its spare room.
func fill(b []byte, x byte) {
	b = b[:cap(b)]
	for k := range b {
		b[k] = x
	}
}

// isOwn fails if the answer and a block share memory, or two answers do.
func isOwn(t *testing.T, name string, call func(block []byte) []byte) {
	t.Helper()
	block := withRoom([]byte("abcd"), '-')
	first, second := call(block), call(block)
	want := bytes.Clone(second)
	fill(first, '+')
	if whole := string(block[:cap(block)]); !strings.HasPrefix(whole, "abcd------------") {
		t.Errorf("%s: a block became %q when the answer was changed", name, whole)
	}
	fill(block, '*')
	if !bytes.Equal(second, want) {
		t.Errorf("%s: an answer became %v, was %v", name, second, want)
	}
}

func TestZ2AnswersNewMemory(t *testing.T) {
	isOwn(t, "Two, first", func(b []byte) []byte { return xor.Two(b, []byte{0, 0, 0, 0}) })
	isOwn(t, "Two, second", func(b []byte) []byte { return xor.Two([]byte{0, 0, 0, 0}, b) })
	isOwn(t, "Two, both", func(b []byte) []byte { return xor.Two(b, b) })
	isOwn(t, "All of one", func(b []byte) []byte { return xor.All([][]byte{b}) })
	isOwn(t, "All of more", func(b []byte) []byte { return xor.All([][]byte{b, {0, 0, 0, 0}, b, b}) })
	isOwn(t, "All without any", func([]byte) []byte { return xor.All(nil) })
}

// The tests' own numbers stand for the limit: that it is so is seen here.
func TestC1BlockSize(t *testing.T) {
	for _, got := range [][]byte{xor.Two(full, noughts), xor.All(nil), xor.All(bits())} {
		if len(got) != api.BlockSize {
			t.Errorf("%v has %d bytes, not BlockSize", got, len(got))
		}
	}
}
