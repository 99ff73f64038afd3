package model_test

import (
	"bytes"
	"math"
	"strings"
	"testing"

	"mirrorheal/api"
	"mirrorheal/model"
)

// whole are all blocks as a value, so that what should come is worked out without a list that could be shared.
type whole [9][4]byte

// lists is w as a list of blocks, each with memory of its own.
func (w whole) lists() [][]byte {
	var l [][]byte
	for _, b := range w {
		l = append(l, bytes.Clone(b[:]))
	}
	return l
}

// written is w where block n is data.
func (w whole) written(n int, data string) whole {
	w[n] = [4]byte([]byte(data))
	return w
}

// swapped is w where blocks n and m change what they are.
func (w whole) swapped(n, m int) whole {
	w[n], w[m] = w[m], w[n]
	return w
}

// unlike are blocks each of which is another one, as is each byte.
func unlike() whole {
	var w whole
	for k := range w {
		for at := range w[k] {
			w[k][at] = byte(10*k + at + 1)
		}
	}
	return w
}

func write(n int, data string) api.Deed {
	return api.Deed{Kind: api.DeedWrite, N: n, Data: []byte(data)}
}

func swap(n, m int) api.Deed {
	return api.Deed{Kind: api.DeedSwap, N: n, M: m}
}

// rightDeeds are writes of each block, and swaps of each pair of each stripe, each block with itself too.
func rightDeeds() []api.Deed {
	var l []api.Deed
	for n := range 9 {
		l = append(l, write(n, "abcd"), write(n, "\x00\x00\x00\x00"), write(n, "\xff\x00\xfe\x01"))
		for place := range 3 {
			l = append(l, swap(n, n-n%3+place))
		}
	}
	return l
}

// noBlocks are numbers that are no block; the low bits of some are those of one.
func noBlocks() []int {
	return []int{
		math.MinInt, math.MinInt + 1, math.MinInt32, -1 << 32, -257, -256, -255, -10, -9, -8, -4, -3, -2, -1,
		9, 10, 11, 12, 16, 255, 256, 257, 260, 264, 1 << 16, math.MaxInt32, 1 << 32, 1<<32 + 1, math.MaxInt - 1, math.MaxInt,
	}
}

// isWrong fails unless Wrong tells this of a deed.
func isWrong(t *testing.T, d api.Deed, want api.Errno) {
	t.Helper()
	if got := model.Wrong(d); got != want {
		t.Errorf("Wrong(%v) = %d, want %d", d, got, want)
	}
}

// makes fails unless the deed is right, and makes this of w.
func makes(t *testing.T, w whole, d api.Deed, want whole) {
	t.Helper()
	isWrong(t, d, api.OK)
	isList(t, model.Do(w.lists(), d), want)
}

// isList fails unless l has all blocks, as they are in want.
func isList(t *testing.T, l [][]byte, want whole) {
	t.Helper()
	if len(l) != len(want) {
		t.Fatalf("%v has %d blocks, want %d", l, len(l), len(want))
	}
	for k, b := range l {
		if !bytes.Equal(b, want[k][:]) {
			t.Errorf("block %d of %v is %v, want %v", k, l, b, want[k])
		}
	}
}

// isSame fails unless Same tells this of a and b, in both orders.
func isSame(t *testing.T, a, b [][]byte, want bool) {
	t.Helper()
	if got := model.Same(a, b); got != want {
		t.Errorf("Same(%v, %v) = %v, want %v", a, b, got, want)
	}
	if got := model.Same(b, a); got != want {
		t.Errorf("Same(%v, %v) = %v, want %v", b, a, got, want)
	}
}

func TestE1NewIsNoughts(t *testing.T) {
	isList(t, model.New(), whole{})
	isSame(t, model.New(), model.New(), true)
}

func TestE1WrongKind(t *testing.T) {
	kinds := append(noBlocks(), 0, 3, 4, 5, 6, 7, 8, 258, 1<<32+2)
	for _, kind := range kinds {
		for _, d := range []api.Deed{
			{},
			{N: 4, Data: []byte("abcd")},
			{N: 4, M: 5},
			{N: 9, M: -1},
			{N: 4, Data: []byte("abc")},
			{N: 9, M: 4, Data: []byte("abcde")},
		} {
			d.Kind = kind
			isWrong(t, d, api.ErrKind)
		}
	}
}

func TestE1WrongWriteBlocks(t *testing.T) {
	for n := range 9 {
		isWrong(t, write(n, "abcd"), api.OK)
	}
	for _, n := range noBlocks() {
		isWrong(t, write(n, "abcd"), api.ErrRange)
	}
	for n := range 300 {
		isWrong(t, write(-1-n, "abcd"), api.ErrRange)
		isWrong(t, write(9+n, "abcd"), api.ErrRange)
	}
}

// The M of a write must be 0: a block that there is, also N itself, is as wrong as one that there is not.
func TestE1WrongWriteWithM(t *testing.T) {
	for n := range 9 {
		for _, m := range append(noBlocks(), 1, 2, 3, 4, 5, 6, 7, 8) {
			d := write(n, "abcd")
			d.M = m
			isWrong(t, d, api.ErrRange)
		}
	}
}

func TestE1WrongWriteData(t *testing.T) {
	for n := range 9 {
		for size := range 40 {
			want := api.ErrMuch
			if size == 4 {
				want = api.OK
			}
			isWrong(t, write(n, strings.Repeat("x", size)), want)
		}
		isWrong(t, write(n, strings.Repeat("x", 260)), api.ErrMuch)
		isWrong(t, api.Deed{Kind: api.DeedWrite, N: n}, api.ErrMuch)
	}
}

func TestE1WrongWriteTellsRangeFirst(t *testing.T) {
	for _, data := range []string{"", "abc", "abcde"} {
		isWrong(t, write(-1, data), api.ErrRange)
		isWrong(t, write(9, data), api.ErrRange)
		isWrong(t, api.Deed{Kind: api.DeedWrite, N: 4, M: 5, Data: []byte(data)}, api.ErrRange)
		isWrong(t, api.Deed{Kind: api.DeedWrite, N: 9, M: 5, Data: []byte(data)}, api.ErrRange)
		isWrong(t, write(8, data), api.ErrMuch)
	}
}

// stripes are the blocks of each, written out.
func stripes() [][]int {
	return [][]int{{0, 1, 2}, {3, 4, 5}, {6, 7, 8}}
}

func TestE1WrongSwapByStripes(t *testing.T) {
	for s, blocks := range stripes() {
		for o, others := range stripes() {
			want := api.ErrRange
			if s == o {
				want = api.OK
			}
			for _, n := range blocks {
				for _, m := range others {
					isWrong(t, swap(n, m), want)
				}
			}
		}
	}
}

// Of blocks that there are not none is of one stripe with another, also not with itself.
func TestE1WrongSwapOfNoBlock(t *testing.T) {
	for _, no := range noBlocks() {
		for n := range 9 {
			isWrong(t, swap(n, no), api.ErrRange)
			isWrong(t, swap(no, n), api.ErrRange)
		}
		for _, other := range noBlocks() {
			isWrong(t, swap(no, other), api.ErrRange)
		}
	}
}

func TestE1WrongSwapWithData(t *testing.T) {
	for _, d := range rightDeeds() {
		if d.Kind != api.DeedSwap {
			continue
		}
		for size := 1; size < 9; size++ {
			d.Data = make([]byte, size)
			isWrong(t, d, api.ErrMuch)
		}
	}
}

func TestE1WrongSwapTellsRangeFirst(t *testing.T) {
	for _, d := range []api.Deed{swap(5, 6), swap(6, 5), swap(8, 9), swap(9, 8), swap(-1, 0), swap(0, -1), swap(9, 9)} {
		d.Data = []byte("a")
		isWrong(t, d, api.ErrRange)
	}
}

// Data without bytes is none, be it nil or not.
func TestZ3DataWithoutBytes(t *testing.T) {
	for _, data := range [][]byte{nil, {}, []byte("abcd")[:0]} {
		d := swap(4, 5)
		d.Data = data
		makes(t, unlike(), d, unlike().swapped(4, 5))
		isWrong(t, api.Deed{Kind: api.DeedWrite, N: 4, Data: data}, api.ErrMuch)
	}
}

func TestE1WrittenThenSwapped(t *testing.T) {
	l := model.Do(model.New(), write(4, "abcd"))
	isList(t, l, whole{4: {'a', 'b', 'c', 'd'}})
	l = model.Do(l, swap(4, 5))
	isList(t, l, whole{5: {'a', 'b', 'c', 'd'}})
	l = model.Do(l, swap(5, 3))
	isList(t, l, whole{3: {'a', 'b', 'c', 'd'}})
	l = model.Do(l, write(3, "\x00\x00\x00\x00"))
	isList(t, l, whole{})
}

func TestE1WriteOfEachBlock(t *testing.T) {
	for n := range 9 {
		for _, data := range []string{"abcd", "\x00\x00\x00\x00", "\xff\xff\xff\xff", "\x01\x02\x03\x04"} {
			makes(t, whole{}, write(n, data), whole{}.written(n, data))
			makes(t, unlike(), write(n, data), unlike().written(n, data))
		}
	}
}

// A write of what is there already changes nothing.
func TestE1WriteOfTheSame(t *testing.T) {
	for n, b := range unlike() {
		makes(t, unlike(), write(n, string(b[:])), unlike())
	}
}

func TestE1SwapWithinEachStripe(t *testing.T) {
	for _, blocks := range stripes() {
		for _, n := range blocks {
			for _, m := range blocks {
				makes(t, unlike(), swap(n, m), unlike().swapped(n, m))
				makes(t, whole{}, swap(n, m), whole{})
			}
		}
	}
}

func TestE1SwapOfABlockWithItself(t *testing.T) {
	for n := range 9 {
		makes(t, unlike(), swap(n, n), unlike())
		makes(t, whole{}, swap(n, n), whole{})
	}
}

func TestE1TurnedTwiceIsAsItWas(t *testing.T) {
	for _, d := range rightDeeds() {
		once := model.Do(unlike().lists(), d)
		twice := model.Do(once, d)
		if d.Kind == api.DeedSwap {
			isList(t, twice, unlike())
			isSame(t, once, unlike().lists(), d.N == d.M)
		} else {
			isSame(t, once, twice, true)
		}
	}
}

// Deeds of two stripes may be done in either order.
func TestE1WhoIsApartMayGoFirst(t *testing.T) {
	for _, d := range rightDeeds() {
		for _, e := range rightDeeds() {
			if d.N/3 == e.N/3 {
				continue
			}
			one := model.Do(model.Do(unlike().lists(), d), e)
			other := model.Do(model.Do(unlike().lists(), e), d)
			isSame(t, one, other, true)
		}
	}
}

func TestE1FirstAndLastBlock(t *testing.T) {
	makes(t, unlike(), write(0, "abcd"), unlike().written(0, "abcd"))
	makes(t, unlike(), write(8, "abcd"), unlike().written(8, "abcd"))
	makes(t, unlike(), swap(0, 2), unlike().swapped(0, 2))
	makes(t, unlike(), swap(8, 6), unlike().swapped(8, 6))
	isWrong(t, write(-1, "abcd"), api.ErrRange)
	isWrong(t, write(9, "abcd"), api.ErrRange)
	isWrong(t, swap(-1, 0), api.ErrRange)
	isWrong(t, swap(8, 9), api.ErrRange)
}

func TestE1SameOfLikeBlocks(t *testing.T) {
	isSame(t, unlike().lists(), unlike().lists(), true)
	isSame(t, whole{}.lists(), model.New(), true)
	l := unlike().lists()
	isSame(t, l, l, true)
	isSame(t, unlike().written(4, "abcd").lists(), model.Do(l, write(4, "abcd")), true)
}

// One bit of one byte, at whatever place, is enough for blocks not to be the same.
func TestE1SameOfUnlikeBlocks(t *testing.T) {
	for k := range 9 {
		for at := range 4 {
			for bit := range 8 {
				w := unlike()
				w[k][at] ^= 1 << bit
				isSame(t, unlike().lists(), w.lists(), false)
			}
		}
	}
}

// The same blocks at other places are not the same.
func TestE1SameHangsOnThePlace(t *testing.T) {
	for n := range 9 {
		for m := range 9 {
			isSame(t, unlike().lists(), unlike().swapped(n, m).lists(), n == m)
		}
	}
}

func TestE1SameOfOtherLengths(t *testing.T) {
	for n := range 9 {
		isSame(t, unlike().lists()[:n], unlike().lists(), false)
		isSame(t, model.New()[:n], model.New(), false)
		short := model.New()
		short[n] = short[n][:3]
		isSame(t, short, model.New(), false)
	}
}

func TestZ3SameOfNothing(t *testing.T) {
	isSame(t, nil, nil, true)
	isSame(t, nil, [][]byte{}, true)
	isSame(t, [][]byte{nil}, [][]byte{{}}, true)
	isSame(t, nil, [][]byte{nil}, false)
	isSame(t, nil, model.New(), false)
}

// Of wrong deeds, and of lists that are not all blocks, nothing is said but that no call panics.
func TestZ1NoCallPanics(t *testing.T) {
	deeds := rightDeeds()
	for _, n := range append(noBlocks(), 0, 4, 8) {
		for _, kind := range []int{math.MinInt, -1, 0, 1, 2, 3, math.MaxInt} {
			deeds = append(deeds, api.Deed{Kind: kind, N: n, M: n}, api.Deed{Kind: kind, N: n, Data: make([]byte, 4)}, api.Deed{Kind: kind, M: n, Data: make([]byte, 5)})
		}
	}
	for _, d := range deeds {
		model.Wrong(d)
		for size := range 12 {
			model.Do(make([][]byte, size), d)
		}
		model.Do(nil, d)
		model.Do(model.New(), d)
	}
}

// withRoom is a copy of b with spare room behind it.
func withRoom(b []byte) []byte {
	return append(bytes.Clone(b), "------------"...)[:len(b)]
}

// roomy are all blocks of w with spare room behind each, and behind the list.
func roomy(w whole) [][]byte {
	var l [][]byte
	for _, b := range w {
		l = append(l, withRoom(b[:]))
	}
	return append(l, []byte("behind"))[:len(w)]
}

// isUntouched fails unless l is as roomy made it of w, its spare room too.
func isUntouched(t *testing.T, l [][]byte, w whole) {
	t.Helper()
	isList(t, l, w)
	for k, b := range l {
		if room := string(b[len(b) : len(b)+12]); room != "------------" {
			t.Errorf("the room behind block %d became %q", k, room)
		}
	}
	if behind := string(l[:len(l)+1][len(l)]); behind != "behind" {
		t.Errorf("the room behind the list became %q", behind)
	}
}

func TestZ2HandedInIsOnlyRead(t *testing.T) {
	for _, d := range rightDeeds() {
		before := string(d.Data)
		d.Data = withRoom(d.Data)
		l := roomy(unlike())
		heads := append([][]byte(nil), l...)
		model.Wrong(d)
		got := model.Do(l, d)
		isSame(t, got, model.Do(unlike().lists(), d), true)
		model.Same(l, got)
		isUntouched(t, l, unlike())
		for k := range l {
			if &l[k][0] != &heads[k][0] {
				t.Errorf("Do(.., %v) put another block at place %d of what it was handed", d, k)
			}
		}
		if data := string(d.Data[:len(before)+12]); data != before+"------------" {
			t.Errorf("Data, or the room behind, became %q", data)
		}
	}
}

// What stands behind a block, or behind the list, is not looked at.
func TestZ2SpareRoomIsNotLookedAt(t *testing.T) {
	isSame(t, roomy(unlike()), unlike().lists(), true)
	isSame(t, roomy(unlike())[:8], unlike().lists(), false)
	isWrong(t, write(4, "abcd"), api.OK)
	d := write(4, "")
	d.Data = []byte("abcd")[:3]
	isWrong(t, d, api.ErrMuch)
	d.Data = []byte("abcde")[:4]
	makes(t, unlike(), d, unlike().written(4, "abcd"))
}

// fill writes over a list and all its spare room.
func fill(b []byte, x byte) {
	b = b[:cap(b)]
	for k := range b {
		b[k] = x
	}
}

// isApart fails if two blocks of one list share memory.
func isApart(t *testing.T, l [][]byte) {
	t.Helper()
	for k := range l {
		fill(l[k], byte(100+k))
	}
	for k := range l {
		if want := bytes.Repeat([]byte{byte(100 + k)}, 4); !bytes.Equal(l[k], want) {
			t.Errorf("block %d became %v when another one was changed", k, l[k])
		}
	}
}

func TestZ2NewAnswersNewMemory(t *testing.T) {
	first, second := model.New(), model.New()
	isApart(t, first)
	first[0] = nil
	isList(t, second, whole{})
	isList(t, model.New(), whole{})
}

func TestZ2DoAnswersNewMemory(t *testing.T) {
	for _, d := range rightDeeds() {
		before := string(d.Data)
		d.Data = withRoom(d.Data)
		l := roomy(unlike())
		first, second := model.Do(l, d), model.Do(l, d)
		want := whole{}
		for k := range want {
			want[k] = [4]byte(second[k])
		}
		isApart(t, first)
		isUntouched(t, l, unlike())
		if string(d.Data) != before {
			t.Errorf("Data became %q when the answer was changed", d.Data)
		}
		for k := range l {
			fill(l[k], '*')
			l[k] = nil
		}
		fill(d.Data, '*')
		isList(t, second, want)
	}
}

// The tests' own numbers stand for the limits: that they are so is seen here.
func TestE1Limits(t *testing.T) {
	if api.MaxBlocks != 9 || api.BlockSize != 4 || len(model.New()) != 9 || len(model.New()[0]) != 4 {
		t.Errorf("limits are %d blocks of %d bytes", api.MaxBlocks, api.BlockSize)
	}
}
