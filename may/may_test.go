package may_test

import (
	"bytes"
	"fmt"
	"math"
	"reflect"
	"slices"
	"strings"
	"testing"

	"mirrorheal/api"
	"mirrorheal/array"
	"mirrorheal/may"
	"mirrorheal/mend"
	"mirrorheal/play"
)

// whole are all blocks as a value, so that what should come is worked out without a list that could be shared.
type whole [9][4]byte

// list is w as a list of blocks.
func (w whole) list() [][]byte {
	var l [][]byte
	for _, b := range w {
		l = append(l, bytes.Clone(b[:]))
	}
	return l
}

// behind is w behind a right deed.
func (w whole) behind(d api.Deed) whole {
	if d.Kind == api.DeedWrite {
		w[d.N] = [4]byte(d.Data)
	} else {
		w[d.N], w[d.M] = w[d.M], w[d.N]
	}
	return w
}

// unlike are blocks each of which is another one, as is each byte.
func unlike() whole {
	var w whole
	for k := range w {
		for at := range w[k] {
			w[k][at] = byte(17*k + 53*at + 1)
		}
	}
	return w
}

// wholes are some blocks: noughts, unlike ones, and such as are all the same.
func wholes() []whole {
	var same whole
	for k := range same {
		same[k] = [4]byte{255, 0, 128, 1}
	}
	return []whole{{}, unlike(), same}
}

func write(n int, data string) api.Deed {
	return api.Deed{Kind: api.DeedWrite, N: n, Data: []byte(data)}
}

func swap(n, m int) api.Deed {
	return api.Deed{Kind: api.DeedSwap, N: n, M: m}
}

func deed(d api.Deed) api.Step           { return api.Step{Kind: api.StepDeed, Deed: d} }
func fall(many int, d api.Deed) api.Step { return api.Step{Kind: api.StepFall, N: many, Deed: d} }
func rot(place, at int) api.Step         { return api.Step{Kind: api.StepRot, N: place, M: at} }
func gone(disk int) api.Step             { return api.Step{Kind: api.StepGone, N: disk} }
func mended(s int) api.Step              { return api.Step{Kind: api.StepMend, N: s} }

// rightDeeds are a write of each block, and each change of two of one stripe, of one with itself too.
func rightDeeds() []api.Deed {
	var l []api.Deed
	for n := range 9 {
		l = append(l, write(n, string([]byte{byte(n), 0, 255, byte(200 + n)})))
		for k := range 3 {
			l = append(l, swap(n, n/3*3+k))
		}
	}
	return l
}

// wrongDeeds are such as chapter 5 names wrong.
func wrongDeeds() []api.Deed {
	l := []api.Deed{
		{}, write(0, ""), write(8, "abc"), write(4, "abcde"), write(4, "abcdabcd"),
		{Kind: api.DeedSwap, N: 4, M: 5, Data: []byte("abcd")}, {Kind: api.DeedSwap, Data: []byte{0}},
		{Kind: api.DeedWrite, N: 4, M: 1, Data: []byte("abcd")}, {Kind: api.DeedWrite, N: 4, M: -1, Data: []byte("abcd")},
		swap(2, 3), swap(5, 6), swap(8, 0), {Kind: api.DeedSwap, N: 0, M: 3, Data: []byte("abcd")},
	}
	for _, n := range []int{math.MinInt, -9, -1, 9, 10, 256, math.MaxInt} {
		l = append(l, write(n, "abcd"), write(n, ""), swap(n, n), swap(n, 0), swap(8, n))
	}
	for _, kind := range []int{math.MinInt, -1, 0, 3, 4, 5, 257, 258, math.MaxInt} {
		l = append(l, api.Deed{Kind: kind}, api.Deed{Kind: kind, N: 4, Data: []byte("abcd")}, api.Deed{Kind: kind, N: 4, M: 5})
	}
	return l
}

// noNumbers are numbers that are no place, no disk, no stripe and no byte of a cell; the low bits of some are those of one.
func noNumbers() []int {
	return []int{math.MinInt, math.MinInt + 1, math.MinInt + 2, math.MinInt32, -1 << 32, -256, -13, -12, -11, -10, -9, -8, -7, -6, -5, -4, -3, -2, -1, 12, 13, 14, 15, 16, 23, 24, 255, 256, 257, 768, math.MaxInt32, 1 << 32, 1<<32 + 1, math.MaxInt - 1, math.MaxInt}
}

// noBytes are numbers that are no byte of a cell of eight.
func noBytes() []int { return append(noNumbers(), 8, 9, 10, 11) }

// noKinds are numbers that are no kind of steps.
func noKinds() []int {
	return []int{math.MinInt, math.MinInt + 1, math.MinInt32, -1 << 32, -256, -5, -4, -3, -2, -1, 0, 6, 7, 8, 10, 100, 255, 256, 257, 258, 259, 261, math.MaxInt32, 1 << 32, 1<<32 + 1, 1<<32 + 2, math.MaxInt}
}

// manyWrites are numbers of writes, and whether a deed that falls behind as many is done.
func manyWrites() map[int]bool {
	l := map[int]bool{math.MinInt: false, math.MaxInt: true, -1 << 32: false, 1 << 32: true, -256: false, 256: true}
	for n := -7; n < 13; n++ {
		l[n] = n > 0
	}
	return l
}

// sheet is what is known of an array by what was done to it, without cells' bytes: where Walk ends is worked out by it anew.
type sheet struct {
	blocks whole
	none   [3][4]bool
}

// right tells whether chapter 5 has nothing against a deed.
func right(d api.Deed) bool {
	there := func(n int) bool { return n >= 0 && n < 9 }
	switch d.Kind {
	case 1:
		return there(d.N) && d.M == 0 && len(d.Data) == 4
	case 2:
		return there(d.N) && there(d.M) && d.N/3 == d.M/3 && len(d.Data) == 0
	}
	return false
}

// behind is w behind a step that is not the rot of a cell that is none.
func (w sheet) behind(s api.Step) sheet {
	switch {
	case s.Kind == 1 && right(s.Deed), s.Kind == 2 && right(s.Deed) && s.N > 0:
		w.blocks = w.blocks.behind(s.Deed)
		w.none[s.Deed.N/3] = [4]bool{}
	case s.Kind == 3 && s.N >= 0 && s.N < 12 && s.M >= 0 && s.M < 8:
		w.none[s.N%3][s.N/3] = true
	case s.Kind == 4 && s.N >= 0 && s.N < 4:
		for k := range w.none {
			w.none[k][s.N] = true
		}
	case s.Kind == 5 && s.N >= 0 && s.N < 3:
		w.none[s.N] = [4]bool{}
	}
	return w
}

// worst is how many cells are none of the stripe that has most of these.
func (w sheet) worst() int {
	worst := 0
	for _, l := range w.none {
		count := 0
		for _, none := range l {
			if none {
				count++
			}
		}
		worst = max(worst, count)
	}
	return worst
}

// endsAt is how many steps are done until Walk ends, and what is there then.
func endsAt(l []api.Step) (int, sheet) {
	var w sheet
	for k, s := range l {
		if s.Kind == 3 && s.N >= 0 && s.N < 12 && w.none[s.N%3][s.N/3] {
			return k, w
		}
		next := w.behind(s)
		if next.worst() > 1 {
			return k, w
		}
		w = next
	}
	return len(l), w
}

// text tells lists and numbers; nil is told as a list without entries is.
func text(x any) string { return fmt.Sprint(x) }

// hasLists fails unless Lists tells these, and no others.
func hasLists(t *testing.T, w whole, s api.Step, want ...whole) {
	t.Helper()
	l := [][][]byte{}
	for _, one := range want {
		l = append(l, one.list())
	}
	if got := may.Lists(w.list(), s); text(got) != text(l) {
		t.Errorf("Lists(%v, %v) = %v, want %v", w, s, got, l)
	}
}

// walks fails unless Walk does as many steps as that, and tells true.
func walks(t *testing.T, l []api.Step, want int) {
	t.Helper()
	if n, ok := may.Walk(l); n != want || !ok {
		t.Errorf("Walk(%v) = %d, %v, want %d, true", l, n, ok, want)
	}
}

// walksAll fails unless Walk does all of them.
func walksAll(t *testing.T, l ...api.Step) {
	t.Helper()
	walks(t, l, len(l))
}

// endsBehind fails unless Walk does all of l, and ends ahead of the step behind these, whatever comes behind that.
func endsBehind(t *testing.T, s api.Step, l ...api.Step) {
	t.Helper()
	walks(t, l, len(l))
	walks(t, slices.Concat(l, []api.Step{s}), len(l))
	walks(t, slices.Concat(l, []api.Step{s, deed(write(4, "abcd")), {}}), len(l))
}

// Block 4 is written, and changes with block 5; the blocks are written out, so that what should come hangs on nothing else.
func TestL1KnownLists(t *testing.T) {
	var noughts whole
	abcd := whole{4: {'a', 'b', 'c', 'd'}}
	at5 := whole{5: {'a', 'b', 'c', 'd'}}
	hasLists(t, noughts, deed(write(4, "abcd")), abcd)
	hasLists(t, noughts, fall(0, write(4, "abcd")), noughts, abcd)
	hasLists(t, noughts, fall(3, write(4, "abcd")), noughts, abcd)
	hasLists(t, abcd, deed(swap(4, 5)), at5)
	hasLists(t, abcd, fall(2, swap(4, 5)), abcd, at5)
	hasLists(t, abcd, fall(2, swap(4, 6)), abcd)
	hasLists(t, abcd, deed(swap(4, 6)), abcd)
	hasLists(t, abcd, rot(4, 3), abcd)
	hasLists(t, abcd, gone(1), abcd)
	hasLists(t, abcd, mended(1), abcd)
	hasLists(t, abcd, api.Step{}, abcd)
}

func TestL1ListsOfADeed(t *testing.T) {
	for _, w := range wholes() {
		for _, d := range rightDeeds() {
			hasLists(t, w, deed(d), w.behind(d))
		}
	}
}

// A fall may leave the deed done, or not: two lists, the first the blocks as they are, behind each number of writes; two even where these are the same.
func TestL1ListsOfAFall(t *testing.T) {
	for _, w := range wholes() {
		for _, d := range rightDeeds() {
			for many := range manyWrites() {
				hasLists(t, w, fall(many, d), w, w.behind(d))
			}
		}
	}
}

func TestL1ListsOfWrongDeeds(t *testing.T) {
	for _, w := range wholes() {
		for _, d := range wrongDeeds() {
			hasLists(t, w, deed(d), w)
			for many := range manyWrites() {
				hasLists(t, w, fall(many, d), w)
			}
		}
	}
}

func TestL1ListsOfOtherKinds(t *testing.T) {
	numbers := append(noNumbers(), 0, 1, 2, 3, 4, 7, 8, 11)
	for _, w := range wholes() {
		for _, n := range numbers {
			hasLists(t, w, gone(n), w)
			hasLists(t, w, mended(n), w)
			for _, m := range []int{math.MinInt, -1, 0, 3, 7, 8, math.MaxInt} {
				hasLists(t, w, rot(n, m), w)
			}
		}
		for _, kind := range append(noKinds(), api.StepRot, api.StepGone, api.StepMend) {
			for _, d := range append(rightDeeds(), wrongDeeds()...) {
				hasLists(t, w, api.Step{Kind: kind, N: 4, M: 5, Deed: d}, w)
			}
		}
	}
}

func TestL1NoSteps(t *testing.T) {
	for _, l := range [][]api.Step{nil, {}, make([]api.Step, 3)[:0]} {
		walks(t, l, 0)
	}
}

// Each right deed, one behind the other, and each once more; whichever disk is gone ahead of them.
func TestL1WalkOfDeeds(t *testing.T) {
	var l []api.Step
	for _, d := range rightDeeds() {
		walksAll(t, deed(d))
		l = append(l, deed(d))
	}
	l = append(l, l...)
	walksAll(t, l...)
	for disk := range 4 {
		walksAll(t, slices.Concat([]api.Step{gone(disk)}, l)...)
	}
}

// A deed that falls behind each number of its writes, below 0 and above six too; whichever disk is gone ahead of it.
func TestL1WalkOfFalls(t *testing.T) {
	ahead := []api.Step{deed(write(3, "abcd")), deed(write(4, "efgh")), deed(write(5, "ijkl")), deed(write(0, "mnop")), deed(write(8, "qrst"))}
	for many := range manyWrites() {
		for _, d := range rightDeeds() {
			walksAll(t, fall(many, d))
			walksAll(t, slices.Concat(ahead, []api.Step{fall(many, d), mended(0), fall(many, d)})...)
			for disk := range 4 {
				walksAll(t, slices.Concat(ahead, []api.Step{gone(disk), fall(many, d), mended(d.N / 3)})...)
			}
		}
	}
}

// A fall that does the deed mends its stripe, as a deed does: another disk may go then, as far as that stripe goes; one that does nothing mends nothing.
func TestL1FallMendsItsStripeOrNot(t *testing.T) {
	for s := range 3 {
		l := []api.Step{rot(s, 4), deed(write(3*s, "abcd")), rot(s, 4)}
		endsBehind(t, rot(3+s, 4), l...)
		walksAll(t, append(l, fall(6, swap(3*s, 3*s+1)), rot(3+s, 4))...)
		for many, done := range manyWrites() {
			first := []api.Step{rot(s, 4), fall(many, write(3*s, "abcd"))}
			if done {
				walksAll(t, slices.Concat(first, []api.Step{gone(3)})...)
				walksAll(t, slices.Concat(first, []api.Step{rot(s, 5), mended(s), gone(1)})...)
				continue
			}
			endsBehind(t, gone(3), first...)
			endsBehind(t, rot(s, 5), first...)
		}
	}
}

// Of two disks that go the second one is one too many; the same one may go again.
func TestL1SecondDiskThatGoes(t *testing.T) {
	for disk := range 4 {
		for other := range 4 {
			if disk == other {
				walksAll(t, gone(disk), gone(other), gone(disk))
				continue
			}
			endsBehind(t, gone(other), gone(disk))
			endsBehind(t, gone(other), deed(write(4, "abcd")), gone(disk), gone(disk), api.Step{})
			endsBehind(t, gone(other), gone(disk), mended(0), mended(2))
			endsBehind(t, gone(other), gone(disk), mended(1), deed(write(8, "abcd")))
			walksAll(t, gone(disk), mended(0), mended(1), mended(2), gone(other))
			walksAll(t, gone(disk), mended(2), fall(1, write(4, "abcd")), deed(swap(0, 2)), gone(other))
		}
	}
}

// Two cells of one stripe that rot: the second one is too many; of two stripes both may.
func TestL1SecondCellThatRots(t *testing.T) {
	for place := range 12 {
		for other := range 12 {
			if place == other {
				continue
			}
			for _, at := range []int{0, 1, 4, 7} {
				l := []api.Step{rot(place, at)}
				if place%3 == other%3 {
					endsBehind(t, rot(other, 7-at), l...)
					walksAll(t, append(l, mended(place%3), rot(other, 7-at))...)
				} else {
					walksAll(t, append(l, rot(other, 7-at))...)
				}
			}
		}
		for disk := range 4 {
			l := []api.Step{rot(place, 3)}
			if disk == place/3 {
				walksAll(t, append(l, gone(disk))...)
			} else {
				endsBehind(t, gone(disk), l...)
			}
			for s := range 3 {
				if s != place%3 {
					endsBehind(t, rot(3*((disk+1)%4)+s, 3), gone(disk))
				}
			}
		}
	}
}

// The rot of a cell that is none already ends it, whichever cell, and whichever byte, of its own or none; of one that is mended it doesn't.
func TestL1RotOfACellThatIsNone(t *testing.T) {
	for place := range 12 {
		for _, at := range append(noBytes(), 0, 1, 2, 3, 4, 5, 6, 7) {
			endsBehind(t, rot(place, at), rot(place, 2))
			endsBehind(t, rot(place, at), gone(place/3))
			endsBehind(t, rot(place, at), deed(write(8, "abcd")), rot(place, 7), gone(place/3), fall(0, write(0, "abcd")))
			walksAll(t, rot(place, 2), mended(place%3), rot(place, at))
			walksAll(t, gone(place/3), mended(place%3), rot(place, at))
			walksAll(t, gone(place/3), deed(write(place%3*3, "abcd")), rot(place, at))
		}
		for other := range 3 {
			if other != place%3 {
				endsBehind(t, rot(place, 0), gone(place/3), mended(other))
			}
		}
	}
}

// The first and the last place, written out.
func TestL1RotOfTheFirstAndTheLastPlace(t *testing.T) {
	walksAll(t, rot(0, 0))
	walksAll(t, rot(11, 7))
	walksAll(t, rot(0, 0), rot(11, 7))
	endsBehind(t, rot(0, 0), rot(0, 0))
	endsBehind(t, rot(11, 7), rot(11, 7))
	endsBehind(t, rot(0, 0), gone(0))
	endsBehind(t, rot(11, 7), gone(3))
	endsBehind(t, rot(0, 7), rot(0, 0), rot(11, 7))
	endsBehind(t, rot(11, 0), rot(0, 0), rot(11, 7))
	walksAll(t, rot(0, 0), rot(-1, 0), rot(-12, 0), rot(12, 0), rot(11, 0))
	walksAll(t, gone(3), rot(12, 7), rot(-1, 7), rot(0, 8))
	endsBehind(t, rot(9, 7), gone(3), rot(12, 7))
}

// Each byte of each sound cell: one that is there spoils it, one that is not changes nothing.
func TestL1RotOfASoundCell(t *testing.T) {
	for place := range 12 {
		other := (place + 3) % 12
		for at := range 8 {
			walksAll(t, rot(place, at))
			endsBehind(t, rot(other, at), rot(place, at))
		}
		for _, at := range noBytes() {
			walksAll(t, rot(place, at), rot(place, at), rot(other, 0))
			endsBehind(t, rot(other, 1), rot(place, at), rot(place, 0))
		}
	}
}

// What there is not of a step changes nothing, whatever is none ahead of it: Walk goes on behind it.
func TestL1WrongSteps(t *testing.T) {
	var l []api.Step
	for _, n := range noNumbers() {
		l = append(l, rot(n, 0), rot(n, n), rot(n, 7), gone(n), mended(n))
	}
	for _, kind := range noKinds() {
		l = append(l, api.Step{Kind: kind}, api.Step{Kind: kind, N: 1, M: 1, Deed: write(4, "abcd")})
	}
	for _, d := range wrongDeeds() {
		l = append(l, deed(d), fall(0, d), fall(1, d), fall(6, d))
	}
	l = append(l, gone(4), gone(11), mended(3), mended(11))
	for _, ahead := range [][]api.Step{nil, {deed(write(4, "abcd"))}, {gone(0)}, {gone(3), mended(1)}, {rot(0, 0), rot(4, 4), rot(11, 7)}} {
		walksAll(t, slices.Concat(ahead, l)...)
		for _, s := range l {
			walksAll(t, slices.Concat(ahead, []api.Step{s, s, deed(swap(3, 4)), s})...)
		}
	}
	endsBehind(t, gone(1), slices.Concat([]api.Step{gone(0)}, l)...)
	endsBehind(t, rot(0, 0), slices.Concat([]api.Step{rot(0, 0)}, l)...)
}

// It ends ahead of the first step, of one in the midst, and of the last one.
func TestL1WhereItEnds(t *testing.T) {
	l := []api.Step{gone(2), deed(write(4, "abcd")), mended(0), rot(8, 0), mended(2), gone(0)}
	walks(t, l, 3)
	for k := range l {
		walks(t, l[:k], min(k, 3))
	}
	for k := range 120 {
		ahead := slices.Repeat([]api.Step{deed(write(k%9, "abcd"))}, k)
		endsBehind(t, gone(3), append(ahead, gone(1))...)
		endsBehind(t, rot(3, 2), append(ahead, gone(1))...)
	}
}

// Chapter 12 says nothing of MaxSteps: more are done all the same.
func TestL1MoreThanMaxSteps(t *testing.T) {
	next := made(12)
	var l []api.Step
	for k := range 5000 {
		l = append(l, fall(next(8), write(k%9, string([]byte{byte(k), 1, byte(k / 256), 2}))))
		if k == 98 || k == 99 || k == 100 || k == 255 || k == 256 {
			walksAll(t, l...)
			endsBehind(t, rot(7, 0), slices.Concat(l, []api.Step{gone(2)})...)
		}
	}
	walksAll(t, l...)
	endsBehind(t, gone(2), slices.Concat(l, []api.Step{gone(1), mended(0)})...)
	walks(t, make([]api.Step, 70000), 70000)
	if api.MaxSteps != 100 {
		t.Errorf("MaxSteps is %d", api.MaxSteps)
	}
}

// A block is written, a disk goes, the block changes with another one, in the midst of which all falls; of two disks that go the second one is one too many.
func TestL1WhatComesOfIt(t *testing.T) {
	for disk := range 4 {
		for many := range manyWrites() {
			l := []api.Step{deed(write(4, "abcd")), gone(disk), fall(many, swap(4, 5))}
			walksAll(t, l...)
			endsBehind(t, gone((disk+1)%4), l...)
			endsBehind(t, rot(3*disk+2, 0), l...)
			walksAll(t, append(l, mended(0), mended(1), mended(2), gone((disk+1)%4))...)
		}
	}
}

// made tells numbers from 0 to below a bound, one behind the other, the same ones for the same beginning.
func made(from int) func(below int) int {
	x := uint32(from)
	return func(below int) int {
		x = x*1664525 + 1013904223
		return int(x>>8) % below
	}
}

// stepOf is a step of any kind, now and then a wrong one.
func stepOf(next func(int) int) api.Step {
	n, data := next(10)-next(15)/14, string([]byte{byte(next(256)), byte(next(256)), byte(next(256)), byte(next(256))})
	d := write(n, data[next(15)/14:])
	if next(2) == 0 {
		d = swap(n, n/3*3+next(3))
	}
	switch next(13) {
	case 0, 1, 2:
		return deed(d)
	case 3, 4, 5:
		return fall(next(9)-1, d)
	case 6, 7:
		return rot(next(14)-1, next(10)-1)
	case 8:
		return gone(next(9))
	case 9:
		return api.Step{Kind: next(9), N: next(6) - 1, M: next(9), Deed: d}
	}
	return mended(next(4))
}

// stepsOf are steps; the more care, the more often all stripes are mended ahead of one that could end a walk, so that long ones come, too.
func stepsOf(next func(int) int, many, care int) []api.Step {
	var l []api.Step
	for len(l) < many {
		s := stepOf(next)
		if (s.Kind == api.StepRot || s.Kind == api.StepGone) && next(care) > 0 {
			l = append(l, mended(0), mended(1), mended(2))
		}
		l = append(l, s)
	}
	return l
}

// Many lists of steps: Walk ends where the sheet tells, and behind each step up to there are the blocks that the sheet tells, and that are one of Lists.
func TestL1ListsOfSteps(t *testing.T) {
	var short, long, whole int
	for k := range 600 {
		next := made(k)
		l := stepsOf(next, next(150), 1+k%3)
		want, last := endsAt(l)
		walks(t, l, want)
		isOneOfLists(t, l[:want], last)
		switch {
		case want == len(l):
			whole++
		case want < 5:
			short++
		case want > 40:
			long++
		}
	}
	if short < 20 || long < 20 || whole < 20 {
		t.Errorf("only %d short walks, %d long ones, and %d to the end", short, long, whole)
	}
}

// isOneOfLists fails unless the blocks behind each of these steps are one of Lists of those ahead of it, and the last ones are the sheet's.
func isOneOfLists(t *testing.T, l []api.Step, last sheet) {
	t.Helper()
	a := array.New()
	ahead, _ := array.Blocks(a)
	for k, s := range l {
		a, _ = play.Do(a, s)
		behind, err := array.Blocks(a)
		if err != api.OK || mend.Worst(a) > 1 {
			t.Fatalf("%v: behind step %d, error %d, worst %d", l, k, err, mend.Worst(a))
		}
		found := false
		for _, one := range may.Lists(ahead, s) {
			found = found || text(one) == text(behind)
		}
		if !found {
			t.Fatalf("%v: behind step %d are %v, none of Lists(%v, %v)", l, k, behind, ahead, s)
		}
		ahead = behind
	}
	if text(ahead) != text(last.blocks.list()) || mend.Worst(a) != last.worst() {
		t.Errorf("%v: at the end are %v, want %v", l, ahead, last)
	}
}

// Walk begins with a new array each time: nothing of one call is there in the next one.
func TestZ1AskedAgain(t *testing.T) {
	for range 3 {
		endsBehind(t, gone(1), gone(0), deed(write(4, "abcd")))
		endsBehind(t, gone(0), gone(1))
		walksAll(t, rot(0, 0))
		walks(t, nil, 0)
		hasLists(t, unlike(), fall(2, swap(0, 1)), unlike(), unlike().behind(swap(0, 1)))
	}
}

// Of other numbers of blocks, and blocks of other sizes, nothing is said but that no call panics.
func TestZ1NoCallPanics(t *testing.T) {
	lists := [][][]byte{nil, {}, make([][]byte, 9), make([][]byte, 5000), append(unlike().list(), unlike().list()...), {4: []byte("abcdefgh"), 8: nil}}
	for size := range 9 {
		lists = append(lists, unlike().list()[:size])
	}
	numbers := append(noNumbers(), 0, 1, 2, 3, 7, 11)
	for kind := -1; kind < 8; kind++ {
		for _, n := range numbers {
			for _, d := range []api.Deed{{}, write(4, "abcd"), write(8, "abcd"), swap(0, 2), swap(8, 6), write(n, "wxyz"), swap(n, -n)} {
				s := api.Step{Kind: kind, N: n, M: n, Deed: d}
				for _, l := range lists {
					may.Lists(l, s)
				}
				may.Walk([]api.Step{s, s, s})
			}
		}
	}
}

func TestZ3ListsWithoutEntries(t *testing.T) {
	d := swap(3, 5)
	d.Data = []byte{}
	w := unlike()
	hasLists(t, w, deed(d), w.behind(d))
	hasLists(t, w, fall(1, d), w, w.behind(d))
	hasLists(t, w, deed(api.Deed{Kind: api.DeedWrite, N: 4, Data: []byte{}}), w)
	walksAll(t, gone(1), deed(d), rot(4, 0))
	endsBehind(t, rot(4, 0), gone(1), deed(api.Deed{Kind: api.DeedWrite, N: 4, Data: []byte{}}))
}

// Fields that a kind has not mean nothing, whatever stands in them.
func TestZ5FieldsThatAKindHasNot(t *testing.T) {
	numbers := []int{math.MinInt, -1, 0, 1, 3, 8, 12, math.MaxInt}
	deeds := []api.Deed{{}, write(4, "abcd"), write(9, ""), swap(0, 8), swap(4, 5), {Kind: -1, N: 5, M: 7, Data: []byte("behind")}}
	for _, ahead := range [][]api.Step{nil, {deed(write(4, "abcd")), gone(0)}, {rot(0, 0), rot(4, 4), rot(11, 7)}} {
		for _, s := range steps() {
			lists := text(may.Lists(unlike().list(), s))
			want, _ := endsAt(slices.Concat(ahead, []api.Step{s, gone(0)}))
			for k, n := range numbers {
				for _, d := range deeds {
					other := withOthers(s, n, numbers[len(numbers)-1-k], d)
					if got := text(may.Lists(unlike().list(), other)); got != lists {
						t.Errorf("Lists of %v = %v, want %v, as of %v", other, got, lists, s)
					}
					walks(t, slices.Concat(ahead, []api.Step{other, gone(0)}), want)
				}
			}
		}
	}
}

// withOthers is s with these in the fields that its kind has not.
func withOthers(s api.Step, n, m int, d api.Deed) api.Step {
	switch s.Kind {
	case api.StepDeed:
		s.N, s.M = n, m
	case api.StepFall:
		s.M = m
	case api.StepRot:
		s.Deed = d
	case api.StepGone, api.StepMend:
		s.M, s.Deed = m, d
	default:
		s.N, s.M, s.Deed = n, m, d
	}
	return s
}

// steps are some of each kind, right ones and wrong ones.
func steps() []api.Step {
	l := []api.Step{{}, {Kind: -1}, {Kind: 6, N: 1, M: 1, Deed: write(4, "abcd")}, {Kind: api.StepDeed}, {Kind: api.StepFall, N: 3}}
	for n := -1; n < 10; n++ {
		l = append(l, deed(write(n, "wxyz")), deed(swap(n, n+1)), fall(n, write(4, "abcd")), fall(n, swap(4, 5)), gone(n), mended(n))
	}
	for place := -1; place < 13; place++ {
		l = append(l, rot(place, (place+8)%8), rot(place, 8), rot(place, -1))
	}
	return l
}

// roomyBlocks is a copy of l with spare room behind each entry, and behind the list.
func roomyBlocks(l [][]byte) [][]byte {
	var out [][]byte
	for _, b := range l {
		out = append(out, append(bytes.Clone(b), "------"...)[:len(b)])
	}
	return append(out, []byte("more"), []byte("more"))[:len(l)]
}

// roomySteps is a copy of l with spare room behind it, and behind the bytes of each deed.
func roomySteps(l []api.Step) []api.Step {
	var out []api.Step
	for _, s := range l {
		s.Deed.Data = append(bytes.Clone(s.Deed.Data), "------"...)[:len(s.Deed.Data)]
		out = append(out, s)
	}
	return append(out, gone(1), gone(2))[:len(l)]
}

// piece is the memory of one list, its spare room too.
type piece struct{ from, to uintptr }

// pieces are the memory of all lists of v, of those in spare room too; tell hears of what each list has, and where.
func pieces(v reflect.Value, tell func(string)) []piece {
	var out []piece
	switch v.Kind() {
	case reflect.Slice:
		tell(fmt.Sprintf("%d of %d at %x: ", v.Len(), v.Cap(), v.Pointer()))
		if size := uintptr(v.Cap()) * v.Type().Elem().Size(); size > 0 {
			out = append(out, piece{v.Pointer(), v.Pointer() + size})
		}
		for k := range v.Cap() {
			out = append(out, pieces(v.Slice(0, v.Cap()).Index(k), tell)...)
		}
	case reflect.Struct:
		for k := range v.NumField() {
			out = append(out, pieces(v.Field(k), tell)...)
		}
	default:
		tell(fmt.Sprint(v.Interface(), " "))
	}
	return out
}

// memory are the pieces of what is answered or handed in, and a text of all that is in them.
func memory(l ...any) ([]piece, string) {
	var all strings.Builder
	var out []piece
	for _, x := range l {
		out = append(out, pieces(reflect.ValueOf(x), func(s string) { all.WriteString(s) })...)
	}
	return out, all.String()
}

// isApart fails if two of these pieces share memory.
func isApart(t *testing.T, name string, l []piece) {
	t.Helper()
	slices.SortFunc(l, func(a, b piece) int {
		if a.from < b.from {
			return -1
		}
		return 1
	})
	for k := 1; k < len(l); k++ {
		if l[k].from < l[k-1].to {
			t.Errorf("%s: memory is shared", name)
			return
		}
	}
}

// Neither the blocks nor a deed's bytes are changed, nor handed out: each answer is new memory, each of its lists of its own.
func TestZ2BlocksAndDeedsAreOnlyRead(t *testing.T) {
	for _, w := range wholes() {
		l := roomyBlocks(w.list())
		for _, s := range roomySteps(steps()) {
			in, was := memory(l, s)
			first, second := may.Lists(l, s), may.Lists(l, s)
			if _, is := memory(l, s); is != was {
				t.Errorf("Lists of %v: what was handed in became %s, was %s", s, is, was)
			}
			if text(first) != text(second) || text(first) != text(may.Lists(w.list(), s)) {
				t.Errorf("Lists of %v: answers %v, and then %v", s, first, second)
			}
			out, _ := memory(first, second)
			isApart(t, fmt.Sprint("Lists of ", s), slices.Concat(in, out))
		}
	}
}

func TestZ2StepsAreOnlyRead(t *testing.T) {
	for k := range 60 {
		next := made(k)
		l := roomySteps(stepsOf(next, 60, 1+k%3))
		_, was := memory(l)
		n, ok := may.Walk(l)
		again, still := may.Walk(l)
		if _, is := memory(l); is != was {
			t.Errorf("Walk: what was handed in became %s, was %s", is, was)
		}
		if n != again || !ok || !still {
			t.Errorf("Walk(%v) = %d, %v, and then %d, %v", l, n, ok, again, still)
		}
	}
}

// Whoever handed in blocks and a deed's bytes may change them as soon as the call has answered, as may whoever was answered.
func TestZ2NothingIsKept(t *testing.T) {
	for _, kind := range []int{api.StepDeed, api.StepFall, api.StepMend, 0} {
		l, data := unlike().list(), []byte("abcd")
		s := api.Step{Kind: kind, Deed: api.Deed{Kind: api.DeedWrite, N: 4, Data: data}}
		first, second := may.Lists(l, s), may.Lists(l, s)
		was := text(first)
		for _, b := range l {
			clear(b)
		}
		copy(data, "zapp")
		if text(first) != was {
			t.Errorf("kind %d: the answer became %v, was %s", kind, first, was)
		}
		for _, b := range first[0] {
			clear(b)
		}
		if text(second) != was || len(first) > 1 && text(first[1]) != text(second[1]) {
			t.Errorf("kind %d: the other lists became %v, %v", kind, first, second)
		}
	}
}

// What stands behind a list is not looked at: no byte behind a deed's, no step behind the last one, no block behind the ninth.
func TestZ2SpareRoomIsNotLookedAt(t *testing.T) {
	data := []byte("abcdef")
	short := api.Deed{Kind: api.DeedWrite, N: 4, Data: data[:3]}
	four := api.Deed{Kind: api.DeedWrite, N: 4, Data: data[:4]}
	empty := api.Deed{Kind: api.DeedSwap, N: 4, M: 5, Data: data[:0]}
	w := unlike()
	hasLists(t, w, deed(short), w)
	hasLists(t, w, fall(2, short), w)
	hasLists(t, w, deed(four), w.behind(write(4, "abcd")))
	hasLists(t, w, fall(2, empty), w, w.behind(swap(4, 5)))
	l := []api.Step{gone(0), deed(four), gone(1), gone(2)}
	walks(t, l[:2], 2)
	walks(t, l, 2)
	walks(t, []api.Step{gone(0), deed(short), rot(1, 0)}, 2)
	walks(t, []api.Step{gone(0), deed(four), rot(1, 0)}, 3)
}

// The tests' own numbers stand for the kinds and limits: that they are so is seen here.
func TestL1Kinds(t *testing.T) {
	kinds := []int{api.StepDeed, api.StepFall, api.StepRot, api.StepGone, api.StepMend, api.DeedWrite, api.DeedSwap}
	if !slices.Equal(kinds, []int{1, 2, 3, 4, 5, 1, 2}) {
		t.Errorf("kinds are %v", kinds)
	}
	limits := []int{api.MaxDisks, api.MaxStripes, api.MaxBlocks, api.BlockSize, api.CellSize}
	if !slices.Equal(limits, []int{4, 3, 9, 4, 8}) {
		t.Errorf("limits are %v", limits)
	}
}
