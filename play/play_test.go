package play_test

import (
	"bytes"
	"fmt"
	"math"
	"reflect"
	"slices"
	"strings"
	"testing"

	"mirrorheal/api"
	"mirrorheal/array"
	"mirrorheal/cell"
	"mirrorheal/play"
)

// layout are the blocks by stripes and disks, written out; -1 is on the spare disk.
func layout() [3][4]int {
	return [3][4]int{{0, 1, 2, -1}, {3, 4, -1, 5}, {6, -1, 7, 8}}
}

// whole are all blocks as a value, so that what should come is worked out without a list that could be shared.
type whole [9][4]byte

// lists is w as a list of blocks.
func (w whole) lists() [][]byte {
	var l [][]byte
	for _, b := range w {
		l = append(l, bytes.Clone(b[:]))
	}
	return l
}

// cells are those of a stripe that has w, by disks.
func (w whole) cells(s int) [4]string {
	var spare [4]byte
	for _, block := range layout()[s] {
		if block >= 0 {
			spare = together(spare, w[block])
		}
	}
	var l [4]string
	for disk, block := range layout()[s] {
		data := spare
		if block >= 0 {
			data = w[block]
		}
		l[disk] = string(cell.Bytes(disk, s, data[:]))
	}
	return l
}

// array is one that has w, without Intents.
func (w whole) array() api.Array {
	return sheet{cells: [3][4]string{w.cells(0), w.cells(1), w.cells(2)}}.array()
}

// behind is w behind a right deed.
func (w whole) behind(d api.Deed) whole {
	if d.Kind == api.DeedWrite {
		w[d.N] = [4]byte(d.Data)
	} else {
		w[d.N], w[d.M] = w[d.M], w[d.N]
	}
	return w
}

func together(a, b [4]byte) [4]byte {
	for k := range a {
		a[k] ^= b[k]
	}
	return a
}

// unlike are blocks each of which is another one, as is each byte.
func unlike() whole {
	var w whole
	for k := range w {
		for at := range w[k] {
			w[k][at] = byte(17*k + 53*at + 1)
		}
	}
	return w
}

func write(n int, data string) api.Deed {
	return api.Deed{Kind: api.DeedWrite, N: n, Data: []byte(data)}
}

func swap(n, m int) api.Deed {
	return api.Deed{Kind: api.DeedSwap, N: n, M: m}
}

func deed(d api.Deed) api.Step           { return api.Step{Kind: api.StepDeed, Deed: d} }
func fall(many int, d api.Deed) api.Step { return api.Step{Kind: api.StepFall, N: many, Deed: d} }
func rot(place, at int) api.Step         { return api.Step{Kind: api.StepRot, N: place, M: at} }
func gone(disk int) api.Step             { return api.Step{Kind: api.StepGone, N: disk} }
func mended(s int) api.Step              { return api.Step{Kind: api.StepMend, N: s} }

// rightDeeds are a write of each block, and each change of two of one stripe, of one with itself too.
func rightDeeds() []api.Deed {
	var l []api.Deed
	for n := range 9 {
		l = append(l, write(n, string([]byte{byte(n), 0, 255, byte(200 + n)})))
		for k := range 3 {
			l = append(l, swap(n, n/3*3+k))
		}
	}
	return l
}

// wrongDeeds are such as chapter 5 names wrong, by the error that it names.
func wrongDeeds() map[api.Errno][]api.Deed {
	l := map[api.Errno][]api.Deed{
		api.ErrMuch: {
			write(0, ""), write(8, "abc"), write(4, "abcde"), write(4, "abcdabcd"),
			{Kind: api.DeedSwap, N: 4, M: 5, Data: []byte("abcd")}, {Kind: api.DeedSwap, Data: []byte{0}},
		},
		api.ErrRange: {
			{Kind: api.DeedWrite, N: 4, M: 1, Data: []byte("abcd")}, {Kind: api.DeedWrite, N: 4, M: -1, Data: []byte("abcd")},
			swap(2, 3), swap(5, 6), swap(8, 0), {Kind: api.DeedSwap, N: 0, M: 3, Data: []byte("abcd")},
		},
	}
	for _, n := range []int{math.MinInt, -9, -1, 9, 10, 256, math.MaxInt} {
		l[api.ErrRange] = append(l[api.ErrRange], write(n, "abcd"), write(n, ""), swap(n, n), swap(n, 0), swap(8, n))
	}
	for _, kind := range []int{math.MinInt, -1, 0, 3, 4, 5, 257, 258, math.MaxInt} {
		l[api.ErrKind] = append(l[api.ErrKind], api.Deed{Kind: kind}, api.Deed{Kind: kind, N: 4, Data: []byte("abcd")}, api.Deed{Kind: kind, N: 9, M: -1, Data: []byte("abc")})
	}
	return l
}

// noDisks are numbers that are no disk; the low bits of some are those of one.
func noDisks() []int {
	return []int{math.MinInt, math.MinInt + 1, math.MinInt32, -1 << 32, -256, -12, -4, -3, -2, -1, 4, 5, 6, 7, 8, 11, 12, 255, 256, 257, math.MaxInt32, 1 << 32, 1<<32 + 1, math.MaxInt}
}

// noStripes are numbers that are no stripe.
func noStripes() []int { return append(noDisks(), 3) }

// noPlaces are numbers that are no place of twelve.
func noPlaces() []int {
	return []int{math.MinInt, math.MinInt + 1, math.MinInt + 2, math.MinInt32, -1 << 32, -256, -13, -12, -11, -10, -9, -8, -7, -6, -5, -4, -3, -2, -1, 12, 13, 14, 15, 16, 23, 24, 255, 256, 257, 768, math.MaxInt32, 1 << 32, 1<<32 + 1, math.MaxInt - 1, math.MaxInt}
}

// noBytes are numbers that are no byte of a cell of eight.
func noBytes() []int {
	return []int{math.MinInt, math.MinInt32, -1 << 32, -256, -9, -8, -7, -1, 8, 9, 15, 16, 255, 256, 257, math.MaxInt32, 1 << 32, 1<<32 + 1, math.MaxInt}
}

// noKinds are numbers that are no kind of steps.
func noKinds() []int {
	return []int{math.MinInt, math.MinInt + 1, math.MinInt32, -1 << 32, -256, -5, -4, -3, -2, -1, 0, 6, 7, 8, 10, 100, 255, 256, 257, 261, math.MaxInt32, 1 << 32, 1<<32 + 1, math.MaxInt}
}

// sheet is an array as a value, by stripes and disks, with what is noted if anything is: what steps make of one is worked out by it anew.
type sheet struct {
	cells  [3][4]string
	noted  bool
	stripe int
	note   [4]string
}

// sheetOf is a as a sheet.
func sheetOf(a api.Array) sheet {
	var w sheet
	for disk, l := range a.Disks {
		for s, b := range l {
			w.cells[s][disk] = string(b)
		}
	}
	for _, i := range a.Intents {
		w.noted, w.stripe = true, i.Stripe
		for disk, b := range i.Cells {
			w.note[disk] = string(b)
		}
	}
	return w
}

// array is w as an array.
func (w sheet) array() api.Array {
	a := api.Array{Disks: make([][][]byte, 4)}
	for s := range 3 {
		for disk, b := range w.cells[s] {
			a.Disks[disk] = append(a.Disks[disk], []byte(b))
		}
	}
	if w.noted {
		i := api.Intent{Stripe: w.stripe}
		for _, b := range w.note {
			i.Cells = append(i.Cells, []byte(b))
		}
		a.Intents = []api.Intent{i}
	}
	return a
}

// data are what a stripe's disks have, even if one of its cells is none; or false, if more are.
func (w sheet) data(s int) ([4][4]byte, bool) {
	var out [4][4]byte
	var all [4]byte
	var none []int
	for disk, c := range w.cells[s] {
		b, err := cell.Read([]byte(c), disk, s)
		if err != api.OK {
			none = append(none, disk)
			continue
		}
		out[disk] = [4]byte(b)
		all = together(all, out[disk])
	}
	if len(none) == 1 {
		out[none[0]] = all
	}
	return out, len(none) < 2
}

// blocks are those of a stripe, with noughts for those of others; or false, if more than one cell is none.
func (w sheet) blocks(s int) (whole, bool) {
	var out whole
	data, ok := w.data(s)
	for disk, block := range layout()[s] {
		if block >= 0 {
			out[block] = data[disk]
		}
	}
	return out, ok
}

// wrong is what chapter 5 tells of a deed.
func wrong(d api.Deed) api.Errno {
	there := func(n int) bool { return n >= 0 && n < 9 }
	switch {
	case d.Kind != 1 && d.Kind != 2:
		return api.ErrKind
	case !there(d.N), d.Kind == 1 && d.M != 0, d.Kind == 2 && (!there(d.M) || d.N/3 != d.M/3):
		return api.ErrRange
	case d.Kind == 1 && len(d.Data) != 4, d.Kind == 2 && len(d.Data) > 0:
		return api.ErrMuch
	}
	return api.OK
}

// deed is w behind a deed that is done as soon as one of its writes is.
func (w sheet) deed(d api.Deed, many int) (sheet, api.Errno) {
	if err := wrong(d); err != api.OK {
		return w, err
	}
	s := d.N / 3
	b, ok := w.blocks(s)
	if !ok {
		return w, api.ErrLost
	}
	if many > 0 {
		w.cells[s] = b.behind(d).cells(s)
	} else if w.noted {
		// What was noted ahead of it is done, since the new one is not noted in its place.
		w.cells[w.stripe] = w.note
	}
	return sheet{cells: w.cells}, api.OK
}

// behind is w behind a step.
func (w sheet) behind(s api.Step) (sheet, api.Errno) {
	switch s.Kind {
	case 1:
		return w.deed(s.Deed, 6)
	case 2:
		return w.deed(s.Deed, s.N)
	case 3:
		return w.rot(s.N, s.M)
	case 4:
		return w.gone(s.N)
	case 5:
		return w.mended(s.N)
	}
	return w, api.ErrKind
}

func (w sheet) rot(place, at int) (sheet, api.Errno) {
	if place < 0 || place > 11 {
		return w, api.ErrNone
	}
	c := &w.cells[place%3][place/3]
	if at < 0 || at >= len(*c) {
		return w, api.ErrNone
	}
	*c = turned(*c, at)
	return w, api.OK
}

func (w sheet) gone(disk int) (sheet, api.Errno) {
	if disk < 0 || disk > 3 {
		return w, api.ErrNone
	}
	for s := range w.cells {
		w.cells[s][disk] = ""
	}
	return w, api.OK
}

func (w sheet) mended(s int) (sheet, api.Errno) {
	if s < 0 || s > 2 {
		return w, api.ErrRange
	}
	data, ok := w.data(s)
	if !ok {
		return w, api.ErrLost
	}
	for disk, b := range data {
		w.cells[s][disk] = string(cell.Bytes(disk, s, b[:]))
	}
	return w, api.OK
}

// turned is b where the lowest bit of a byte is turned, worked out by what it is rather than by xor.
func turned(b string, at int) string {
	out := []byte(b)
	if out[at]%2 == 0 {
		out[at]++
	} else {
		out[at]--
	}
	return string(out)
}

// text tells arrays, lists and numbers; nil is told as a list without entries is.
func text(x any) string { return fmt.Sprint(x) }

// does fails unless Do tells OK, and a is this behind the step; it is what Do made.
func does(t *testing.T, a api.Array, s api.Step, want api.Array) api.Array {
	t.Helper()
	got, err := play.Do(a, s)
	if err != api.OK || text(got) != text(want) {
		t.Errorf("Do(%v, %v) = %v, %d, want %v", a, s, got, err, want)
	}
	return got
}

// doesNot fails unless Do tells this error, and a is as it was.
func doesNot(t *testing.T, a api.Array, s api.Step, want api.Errno) {
	t.Helper()
	got, err := play.Do(a, s)
	if err != want || text(got) != text(a) {
		t.Errorf("Do(%v, %v) = %v, %d, want as it was, %d", a, s, got, err, want)
	}
}

// isAsTold fails unless Do is what the sheet makes of a; it is what Do made.
func isAsTold(t *testing.T, a api.Array, s api.Step) (api.Array, api.Errno) {
	t.Helper()
	w, want := sheetOf(a).behind(s)
	if want != api.OK {
		doesNot(t, a, s, want)
		return a, want
	}
	return does(t, a, s, w.array()), want
}

// plays fails unless Play makes this array, and tells these errors.
func plays(t *testing.T, l []api.Step, want api.Array, told ...api.Errno) {
	t.Helper()
	got, es, err := play.Play(l)
	if err != api.OK || len(es) != len(l) || !slices.Equal(es, told) || text(got) != text(want) {
		t.Errorf("Play(%v) = %v, %v, %d, want %v, %v", l, got, es, err, want, told)
	}
}

// playsAsTold fails unless Play is what the sheet makes of a new array, step by step.
func playsAsTold(t *testing.T, l []api.Step) {
	t.Helper()
	w := sheetOf(array.New())
	told := make([]api.Errno, len(l))
	for k, s := range l {
		w, told[k] = w.behind(s)
	}
	plays(t, l, w.array(), told...)
}

// has fails unless the array has these blocks.
func has(t *testing.T, a api.Array, want whole) {
	t.Helper()
	got, err := array.Blocks(a)
	if err != api.OK || text(got) != text(want.lists()) {
		t.Errorf("Blocks(%v) = %v, %d, want %v", a, got, err, want)
	}
}

// begun is an array that has unlike blocks, behind the first writes of a deed, without Mount.
func begun(t *testing.T, d api.Deed, many int) api.Array {
	t.Helper()
	a := unlike().array()
	i, err := array.Plan(a, d)
	if err != api.OK {
		t.Fatalf("Plan(%v) tells %d", d, err)
	}
	return array.Write(a, i, many)
}

// withCell is a copy of a where one cell has these bytes.
func withCell(a api.Array, disk, s int, b string) api.Array {
	w := sheetOf(a)
	w.cells[s][disk] = b
	return w.array()
}

// withoutDisk is a copy of a where none of a disk's cells has bytes.
func withoutDisk(a api.Array, disk int) api.Array {
	for s := range 3 {
		a = withCell(a, disk, s, "")
	}
	return a
}

// withStripe is a copy of a where a stripe has what w has there.
func withStripe(a api.Array, s int, w whole) api.Array {
	for disk, b := range w.cells(s) {
		a = withCell(a, disk, s, b)
	}
	return a
}

// arrays are such as steps and Write make: whole ones, some with an intent, some with cells that are none.
func arrays(t *testing.T) []api.Array {
	t.Helper()
	w := unlike()
	l := []api.Array{array.New(), w.array()}
	for many := range 7 {
		l = append(l, begun(t, write(3*(many%3), "abcd"), many), withoutDisk(begun(t, swap(3, 5), many), many%4))
	}
	for disk := range 4 {
		s := disk % 3
		rotten := withCell(w.array(), disk, s, turned(w.cells(s)[disk], 2*disk))
		l = append(l, withoutDisk(w.array(), disk), withoutDisk(withoutDisk(w.array(), disk), (disk+1)%4), rotten, withoutDisk(rotten, (disk+2)%4))
	}
	return l
}

// steps are some of each kind, right ones and wrong ones.
func steps() []api.Step {
	l := []api.Step{{}, {Kind: -1}, {Kind: 6, N: 1, M: 1, Deed: write(4, "abcd")}, {Kind: api.StepDeed}, {Kind: api.StepFall, N: 3}}
	for n := -1; n < 10; n++ {
		l = append(l, deed(write(n, "wxyz")), deed(swap(n, n+1)), fall(n, write(4, "abcd")), fall(n, swap(4, 5)), gone(n), mended(n))
	}
	for place := -1; place < 13; place++ {
		l = append(l, rot(place, place%8), rot(place, 8), rot(place, -1))
	}
	return l
}

// The cells' bytes are written out, so that what should come hangs on no other package.
func TestK1Known(t *testing.T) {
	known := func() api.Array {
		return api.Array{Disks: [][][]byte{
			{{0, 0, 0, 0, 0, 0, 236, 127}, {0, 1, 0, 0, 0, 0, 144, 145}, {0, 2, 0, 0, 0, 0, 52, 163}},
			{{1, 0, 0, 0, 0, 0, 175, 243}, {1, 1, 97, 98, 99, 100, 191, 156}, {1, 2, 0, 0, 0, 0, 248, 8}},
			{{2, 0, 0, 0, 0, 0, 115, 103}, {2, 1, 97, 98, 99, 100, 131, 16}, {2, 2, 0, 0, 0, 0, 187, 124}},
			{{3, 0, 0, 0, 0, 0, 54, 219}, {3, 1, 0, 0, 0, 0, 218, 222}, {3, 2, 0, 0, 0, 0, 126, 240}},
		}}
	}
	plays(t, []api.Step{deed(write(4, "abcd"))}, known(), 0)
	plays(t, []api.Step{fall(2, write(4, "abcd"))}, known(), 0)
	plays(t, []api.Step{deed(write(4, "abcd")), fall(0, swap(4, 5))}, known(), 0, 0)
	does(t, array.New(), deed(write(4, "abcd")), known())
	does(t, known(), rot(4, 3), withCell(known(), 1, 1, "\x01\x01accd\xbf\x9c"))
	does(t, known(), rot(0, 0), withCell(known(), 0, 0, "\x01\x00\x00\x00\x00\x00\xec\x7f"))
	does(t, known(), rot(11, 7), withCell(known(), 3, 2, "\x03\x02\x00\x00\x00\x00\x7e\xf1"))
	does(t, known(), gone(2), withoutDisk(known(), 2))
	does(t, withoutDisk(known(), 1), mended(1), withCell(withCell(known(), 1, 0, ""), 1, 2, ""))
	doesNot(t, known(), rot(12, 0), api.ErrNone)
	doesNot(t, known(), gone(4), api.ErrNone)
	doesNot(t, known(), mended(3), api.ErrRange)
	doesNot(t, known(), api.Step{Kind: 6}, api.ErrKind)
}

// Each right deed, of whole arrays and of such as lack one cell a stripe: what it makes is whole in its stripe.
func TestK1DeedIsDone(t *testing.T) {
	for _, w := range []whole{{}, unlike()} {
		for _, d := range rightDeeds() {
			got := does(t, w.array(), deed(d), w.behind(d).array())
			has(t, got, w.behind(d))
			for disk := range 4 {
				a := withoutDisk(w.array(), disk)
				has(t, does(t, a, deed(d), withStripe(a, d.N/3, w.behind(d))), w.behind(d))
			}
		}
	}
}

// Behind one write at least the deed is done when all starts anew; behind none, or fewer, it is not. Nothing is left noted.
func TestK1FallBehindEachNumberOfWrites(t *testing.T) {
	w := unlike()
	for _, d := range rightDeeds() {
		for _, many := range []int{1, 2, 3, 4, 5, 6, 7, 8, 12, 256, 1 << 32, math.MaxInt} {
			got := does(t, w.array(), fall(many, d), w.behind(d).array())
			has(t, got, w.behind(d))
			plays(t, []api.Step{fall(many, d)}, whole{}.behind(d).array(), api.OK)
		}
		for _, many := range []int{0, -1, -2, -6, -7, -256, -1 << 32, math.MinInt} {
			has(t, does(t, w.array(), fall(many, d), w.array()), w)
			plays(t, []api.Step{fall(many, d)}, array.New(), api.OK)
		}
	}
}

// One disk is gone: a fall behind any number of writes leaves the deed done, or not, and no block lost.
func TestK1FallWithoutOneDisk(t *testing.T) {
	w := unlike()
	for disk := range 4 {
		for _, d := range rightDeeds() {
			for many := -1; many < 9; many++ {
				a := withoutDisk(w.array(), disk)
				want, now := a, w
				if many > 0 {
					now = w.behind(d)
					want = withStripe(a, d.N/3, now)
				}
				has(t, does(t, a, fall(many, d), want), now)
			}
		}
	}
}

// Of an array that has something noted: a fall behind no write does that; behind one and more it is let go, as a deed lets it go.
func TestK1WhatWasNoted(t *testing.T) {
	noted := write(4, "abcd")
	for many := 1; many < 6; many++ {
		a := begun(t, noted, many)
		if len(a.Intents) != 1 {
			t.Fatalf("behind %d writes: %v", many, a)
		}
		for _, n := range []int{math.MinInt, -1, 0} {
			for _, d := range rightDeeds() {
				does(t, a, fall(n, d), unlike().behind(noted).array())
			}
		}
		for _, d := range rightDeeds() {
			if d.N/3 == 1 {
				continue
			}
			want := withStripe(a, d.N/3, unlike().behind(d))
			want.Intents = nil
			does(t, a, deed(d), want)
			for n := 1; n < 8; n++ {
				does(t, a, fall(n, d), want)
			}
		}
		isAsTold(t, a, rot(7, 3))
		isAsTold(t, a, gone(1))
		isAsTold(t, a, mended(0))
		doesNot(t, a, fall(0, write(9, "abcd")), api.ErrRange)
		doesNot(t, a, fall(3, write(4, "abc")), api.ErrMuch)
		doesNot(t, withoutDisk(withoutDisk(a, 0), 1), fall(0, noted), api.ErrLost)
	}
}

// Wrong deeds: the error is the one that chapter 5 names, however many cells are none, and nothing is done.
func TestK1WrongDeeds(t *testing.T) {
	for err, l := range wrongDeeds() {
		for _, d := range l {
			for _, a := range arrays(t) {
				doesNot(t, a, deed(d), err)
				for _, many := range []int{math.MinInt, -1, 0, 1, 3, 6, 7, math.MaxInt} {
					doesNot(t, a, fall(many, d), err)
				}
			}
			plays(t, []api.Step{deed(d), fall(2, d), fall(0, d)}, array.New(), err, err, err)
		}
	}
}

// Two cells of a stripe are none: no deed of it is done; of another stripe it is.
func TestK1DeedOfALostStripe(t *testing.T) {
	w := unlike()
	for disk := range 4 {
		for other := range disk {
			for s := range 3 {
				a := withCell(withCell(w.array(), disk, s, ""), other, s, turned(w.cells(s)[other], 4))
				for _, d := range rightDeeds() {
					if d.N/3 == s {
						doesNot(t, a, deed(d), api.ErrLost)
						for many := -1; many < 8; many++ {
							doesNot(t, a, fall(many, d), api.ErrLost)
						}
						continue
					}
					want := withStripe(a, d.N/3, w.behind(d))
					does(t, a, deed(d), want)
					does(t, a, fall(2, d), want)
				}
				for _, d := range []api.Deed{{}, write(3*s, "abc"), write(3*s-9, "abcd"), swap(3*s, 3*s+3)} {
					doesNot(t, a, deed(d), wrong(d))
					doesNot(t, a, fall(4, d), wrong(d))
				}
			}
		}
	}
}

// Places are counted disk by disk, each with its stripes: each byte of each cell rots, and turned twice it is as it was.
func TestK1RotOfEachCell(t *testing.T) {
	for _, a := range arrays(t) {
		place := 0
		for disk := range 4 {
			for s := range 3 {
				b := string(a.Disks[disk][s])
				for at := range len(b) {
					got := does(t, a, rot(place, at), withCell(a, disk, s, turned(b, at)))
					does(t, got, rot(place, at), a)
				}
				for _, at := range append(noBytes(), len(b), len(b)+1) {
					doesNot(t, a, rot(place, at), api.ErrNone)
				}
				place++
			}
		}
		if place != 12 {
			t.Fatalf("%d places", place)
		}
	}
}

func TestK1RotOfNoPlace(t *testing.T) {
	for _, a := range arrays(t) {
		for _, place := range noPlaces() {
			for _, at := range append(noBytes(), 0, 3, 7) {
				doesNot(t, a, rot(place, at), api.ErrNone)
			}
		}
	}
	for k := range 800 {
		doesNot(t, unlike().array(), rot(-1-k, k%8), api.ErrNone)
		doesNot(t, unlike().array(), rot(12+k, k%8), api.ErrNone)
	}
}

func TestK1RotOfACellWithoutBytes(t *testing.T) {
	for place := range 12 {
		a := withCell(unlike().array(), place/3, place%3, "")
		for at := -9; at < 17; at++ {
			doesNot(t, a, rot(place, at), api.ErrNone)
		}
		one := withCell(a, place/3, place%3, "a")
		does(t, one, rot(place, 0), withCell(a, place/3, place%3, "`"))
		doesNot(t, one, rot(place, 1), api.ErrNone)
	}
}

func TestK1GoneOfEachDisk(t *testing.T) {
	for _, a := range arrays(t) {
		for disk := range 4 {
			got := does(t, a, gone(disk), withoutDisk(a, disk))
			does(t, got, gone(disk), got)
			for s := range 3 {
				doesNot(t, got, rot(3*disk+s, 0), api.ErrNone)
			}
		}
		for _, disk := range noDisks() {
			doesNot(t, a, gone(disk), api.ErrNone)
		}
	}
}

// One cell of a stripe, whichever, and whatever of it rotted: mended the stripe is as it was, and no other one changes.
func TestK1MendOfEachStripe(t *testing.T) {
	w := unlike()
	for s := range 3 {
		does(t, w.array(), mended(s), w.array())
		does(t, array.New(), mended(s), array.New())
		for disk := range 4 {
			for at := range 8 {
				does(t, withCell(w.array(), disk, s, turned(w.cells(s)[disk], at)), mended(s), w.array())
			}
			a := withoutDisk(w.array(), disk)
			does(t, a, mended(s), withCell(a, disk, s, w.cells(s)[disk]))
		}
	}
}

func TestK1MendOfNoStripe(t *testing.T) {
	for _, a := range arrays(t) {
		for _, s := range noStripes() {
			doesNot(t, a, mended(s), api.ErrRange)
		}
	}
}

// What can't be mended is let be: two cells are too many, and more; the other stripes are mended all the same.
func TestK1MendOfALostStripe(t *testing.T) {
	w := unlike()
	for disk := range 4 {
		for other := range disk {
			for s := range 3 {
				lost := withCell(withCell(w.array(), disk, s, ""), other, s, w.cells(s)[disk])
				doesNot(t, lost, mended(s), api.ErrLost)
				for next := range 3 {
					if next == s {
						continue
					}
					a := withCell(lost, (disk+1)%4, next, "")
					does(t, a, mended(next), lost)
					doesNot(t, a, mended(s), api.ErrLost)
				}
			}
			a := withoutDisk(withoutDisk(w.array(), disk), other)
			for s := range 3 {
				doesNot(t, a, mended(s), api.ErrLost)
			}
		}
	}
	none := sheet{}.array()
	for s := range 3 {
		doesNot(t, none, mended(s), api.ErrLost)
	}
}

func TestK1NoSuchKind(t *testing.T) {
	for _, kind := range noKinds() {
		for _, a := range arrays(t) {
			doesNot(t, a, api.Step{Kind: kind}, api.ErrKind)
			for _, n := range []int{math.MinInt, -1, 0, 1, 2, 3, 12, math.MaxInt} {
				for _, d := range []api.Deed{{}, write(4, "abcd"), write(9, ""), swap(0, 1)} {
					doesNot(t, a, api.Step{Kind: kind, N: n, M: n, Deed: d}, api.ErrKind)
				}
			}
		}
		plays(t, []api.Step{{Kind: kind, Deed: write(4, "abcd")}}, array.New(), api.ErrKind)
	}
	for k := range 600 {
		doesNot(t, unlike().array(), api.Step{Kind: -k, Deed: write(4, "abcd")}, api.ErrKind)
		doesNot(t, unlike().array(), api.Step{Kind: 6 + k, Deed: write(4, "abcd")}, api.ErrKind)
	}
}

// Each of these steps of each of these arrays is what the sheet, that works it out in its own way, tells.
func TestK1EachStepOfEachArray(t *testing.T) {
	for _, a := range arrays(t) {
		for _, s := range steps() {
			isAsTold(t, a, s)
		}
	}
}

func TestK1NoSteps(t *testing.T) {
	for _, l := range [][]api.Step{nil, {}, make([]api.Step, 3)[:0]} {
		plays(t, l, array.New())
	}
}

func TestK1MaxSteps(t *testing.T) {
	var l []api.Step
	var want whole
	for k := range 100 {
		d := write(k%9, string([]byte{byte(k), 1, 2, byte(255 - k)}))
		l = append(l, deed(d))
		want = want.behind(d)
		if k == 98 || k == 99 {
			plays(t, l, want.array(), make([]api.Errno, k+1)...)
		}
	}
	for _, more := range [][]api.Step{make([]api.Step, 101), make([]api.Step, 102), make([]api.Step, 256), make([]api.Step, 5000), append(l, deed(write(4, "abcd"))), append(l, l...)} {
		a, es, err := play.Play(more)
		if err != api.ErrMany || len(es) != 0 || len(a.Disks) != 0 || len(a.Intents) != 0 {
			t.Errorf("Play of %d steps = %v, %v, %d, want nothing, ErrMany", len(more), a, es, err)
		}
	}
	kinds := slices.Repeat([]api.Errno{api.ErrKind}, 100)
	plays(t, make([]api.Step, 100), array.New(), kinds...)
	if api.MaxSteps != 100 {
		t.Errorf("MaxSteps is %d", api.MaxSteps)
	}
}

// A block is written, a disk goes, the block changes with another one, in the midst of which all falls: it is there.
func TestK1WhatWasAnsweredIsThere(t *testing.T) {
	want := whole{5: [4]byte([]byte("abcd"))}
	for disk := range 4 {
		for many := 1; many < 7; many++ {
			a, es, err := play.Play([]api.Step{deed(write(4, "abcd")), gone(disk), fall(many, swap(4, 5))})
			if err != api.OK || !slices.Equal(es, []api.Errno{0, 0, 0}) {
				t.Errorf("disk %d, %d writes: %v, %d", disk, many, es, err)
			}
			has(t, a, want)
		}
	}
}

// Each kind of step, and each of its errors: they are told in their order, and what comes behind an error goes on from the array as it was.
func TestK1EachStepsError(t *testing.T) {
	w := whole{}.behind(write(4, "abcd")).behind(swap(4, 5)).behind(write(8, "wxyz"))
	lost := withCell(withCell(withoutDisk(w.array(), 0), 3, 1, ""), 3, 2, "")
	lost = withCell(lost, 1, 2, turned(w.cells(2)[1], 7))
	l := []api.Step{
		deed(write(4, "abcd")),
		deed(write(9, "abcd")),
		fall(3, swap(4, 5)),
		fall(3, swap(4, 6)),
		{},
		rot(12, 0),
		fall(-5, write(8, "zapp")),
		deed(write(8, "wxyz")),
		gone(-1),
		rot(0, 8),
		gone(0),
		rot(0, 0),
		mended(0),
		mended(-1),
		gone(3),
		mended(0),
		rot(5, 7),
		mended(2),
		gone(0),
		mended(1),
		deed(write(4, "zapp")),
		fall(0, write(4, "zapp")),
		{Kind: 6},
		deed(write(4, "zap")),
	}
	plays(t, l, lost, 0, 3, 0, 3, 1, 6, 0, 0, 6, 6, 0, 6, 0, 3, 0, 0, 0, 9, 0, 9, 9, 9, 1, 4)
	slices.Reverse(l)
	playsAsTold(t, l)
}

// made tells numbers from 0 to below a bound, one behind the other, the same ones for the same beginning.
func made(from int) func(below int) int {
	x := uint32(from)
	return func(below int) int {
		x = x*1664525 + 1013904223
		return int(x>>8) % below
	}
}

// stepOf is a step of any kind, now and then a wrong one.
func stepOf(next func(int) int) api.Step {
	n, data := next(10)-next(15)/14, string([]byte{byte(next(256)), byte(next(256)), byte(next(256)), byte(next(256))})
	d := write(n, data[next(15)/14:])
	if next(2) == 0 {
		d = swap(n, n/3*3+next(3))
	}
	switch next(13) {
	case 0, 1, 2:
		return deed(d)
	case 3, 4, 5:
		return fall(next(9)-1, d)
	case 6, 7:
		return rot(next(14)-1, next(10)-1)
	case 8:
		return gone(next(12))
	case 9:
		return api.Step{Kind: next(9), N: next(6) - 1, M: next(9), Deed: d}
	}
	return mended(next(4))
}

// Many lists of steps: Play is what the sheet tells, as is Do, step by step.
func TestK1ListsOfSteps(t *testing.T) {
	seen := map[api.Errno]int{}
	for k := range 400 {
		next := made(k)
		var l []api.Step
		a := array.New()
		for range next(101) {
			s := stepOf(next)
			l = append(l, s)
			var err api.Errno
			a, err = isAsTold(t, a, s)
			seen[err]++
		}
		playsAsTold(t, l)
	}
	for _, err := range []api.Errno{api.OK, api.ErrKind, api.ErrRange, api.ErrMuch, api.ErrNone, api.ErrLost} {
		if seen[err] < 20 {
			t.Errorf("only %d steps told %d", seen[err], err)
		}
	}
}

// Play begins with a new array each time: nothing of one call is there in the next one.
func TestZ1AskedAgain(t *testing.T) {
	l := []api.Step{deed(write(4, "abcd")), gone(2), fall(2, swap(4, 5)), rot(12, 0)}
	for range 3 {
		playsAsTold(t, l)
		plays(t, nil, array.New())
		isAsTold(t, unlike().array(), fall(3, write(0, "wxyz")))
	}
}

// Of arrays of other sizes nothing is said but that no call panics.
func TestZ1NoCallPanics(t *testing.T) {
	l := []api.Array{{}, {Disks: make([][][]byte, 5)}, {Disks: [][][]byte{nil, {nil}, {nil, nil}, make([][]byte, 9)}}, {Intents: make([]api.Intent, 2)}}
	l = append(l, api.Array{Disks: unlike().array().Disks, Intents: []api.Intent{{Stripe: -1, Cells: make([][]byte, 4)}, {Stripe: 7}, {Stripe: 1, Cells: make([][]byte, 9)}}})
	for size := range 6 {
		a, b := unlike().array(), unlike().array()
		a.Disks = append(a.Disks, a.Disks[0])[:size]
		b.Disks[2] = append(b.Disks[2], nil, []byte("zapzapza"))[:min(size, 5)]
		l = append(l, a, b)
	}
	numbers := slices.Concat(noPlaces(), noBytes(), []int{0, 1, 2, 3, 7, 11})
	for _, a := range l {
		for kind := -1; kind < 8; kind++ {
			for _, n := range numbers {
				for _, d := range []api.Deed{{}, write(4, "abcd"), swap(0, 2), write(n, "wxyz"), swap(n, -n)} {
					play.Do(a, api.Step{Kind: kind, N: n, M: n, Deed: d})
				}
			}
		}
	}
}

func TestZ3ListsWithoutEntries(t *testing.T) {
	a := unlike().array()
	a.Intents = []api.Intent{}
	d := swap(3, 5)
	d.Data = []byte{}
	does(t, a, deed(d), unlike().behind(d).array())
	does(t, a, fall(1, d), unlike().behind(d).array())
	doesNot(t, a, deed(api.Deed{Kind: api.DeedWrite, N: 4, Data: []byte{}}), api.ErrMuch)
	a.Disks[2] = [][]byte{{}, {}, {}}
	does(t, a, gone(2), withoutDisk(unlike().array(), 2))
	doesNot(t, a, rot(6, 0), api.ErrNone)
}

// Fields that a kind has not mean nothing, whatever stands in them.
func TestZ5FieldsThatAKindHasNot(t *testing.T) {
	numbers := []int{math.MinInt, -1, 0, 1, 3, 8, 12, math.MaxInt}
	deeds := []api.Deed{{}, write(4, "abcd"), write(9, ""), swap(0, 8), {Kind: -1, N: 5, M: 7, Data: []byte("behind")}}
	for _, a := range arrays(t) {
		for _, s := range steps() {
			w, err := sheetOf(a).behind(s)
			want := w.array()
			for k, n := range numbers {
				other := s
				d := deeds[k%len(deeds)]
				switch s.Kind {
				case api.StepDeed:
					other.N, other.M = n, numbers[len(numbers)-1-k]
				case api.StepFall:
					other.M = n
				case api.StepRot:
					other.Deed = d
				case api.StepGone, api.StepMend:
					other.M, other.Deed = n, d
				default:
					other.N, other.M, other.Deed = n, n, d
				}
				got, told := play.Do(a, other)
				if told != err || text(got) != text(want) {
					t.Errorf("Do(%v, %v) = %v, %d, want %v, %d", a, other, got, told, want, err)
				}
			}
		}
	}
}

// roomyCells is a copy of l with spare room behind each entry, and behind the list.
func roomyCells(l [][]byte) [][]byte {
	var out [][]byte
	for _, b := range l {
		out = append(out, append(bytes.Clone(b), "------------"...)[:len(b)])
	}
	return append(out, []byte("behind"), []byte("behind"))[:len(l)]
}

// roomy is a copy of a with spare room behind each of its lists.
func roomy(a api.Array) api.Array {
	var out api.Array
	for _, l := range a.Disks {
		out.Disks = append(out.Disks, roomyCells(l))
	}
	out.Disks = append(out.Disks, [][]byte{[]byte("behind")})[:len(a.Disks)]
	for _, i := range a.Intents {
		out.Intents = append(out.Intents, api.Intent{Stripe: i.Stripe, Cells: roomyCells(i.Cells)})
	}
	out.Intents = append(out.Intents, api.Intent{Stripe: 1, Cells: [][]byte{[]byte("behind")}})[:len(a.Intents)]
	return out
}

// roomySteps is a copy of l with spare room behind it, and behind the bytes of each deed.
func roomySteps(l []api.Step) []api.Step {
	var out []api.Step
	for _, s := range l {
		s.Deed.Data = append(bytes.Clone(s.Deed.Data), "------"...)[:len(s.Deed.Data)]
		out = append(out, s)
	}
	return append(out, deed(write(4, "abcd")), gone(1))[:len(l)]
}

// piece is the memory of one list, its spare room too.
type piece struct{ from, to uintptr }

// pieces are the memory of all lists of v, of those in spare room too; tell hears of what each list has, and where.
func pieces(v reflect.Value, tell func(string)) []piece {
	var out []piece
	switch v.Kind() {
	case reflect.Slice:
		tell(fmt.Sprintf("%d of %d at %x: ", v.Len(), v.Cap(), v.Pointer()))
		if size := uintptr(v.Cap()) * v.Type().Elem().Size(); size > 0 {
			out = append(out, piece{v.Pointer(), v.Pointer() + size})
		}
		for k := range v.Cap() {
			out = append(out, pieces(v.Slice(0, v.Cap()).Index(k), tell)...)
		}
	case reflect.Struct:
		for k := range v.NumField() {
			out = append(out, pieces(v.Field(k), tell)...)
		}
	default:
		tell(fmt.Sprint(v.Interface(), " "))
	}
	return out
}

// memory are the pieces of what is answered or handed in, and a text of all that is in them.
func memory(l ...any) ([]piece, string) {
	var all strings.Builder
	var out []piece
	for _, x := range l {
		out = append(out, pieces(reflect.ValueOf(x), func(s string) { all.WriteString(s) })...)
	}
	return out, all.String()
}

// isApart fails if two of these pieces share memory.
func isApart(t *testing.T, name string, l []piece) {
	t.Helper()
	slices.SortFunc(l, func(a, b piece) int {
		if a.from < b.from {
			return -1
		}
		return 1
	})
	for k := 1; k < len(l); k++ {
		if l[k].from < l[k-1].to {
			t.Errorf("%s: memory is shared", name)
			return
		}
	}
}

// answer is what a call answered.
type answer struct {
	A    api.Array
	Told []api.Errno
	Err  api.Errno
}

// isClean fails if the call changes what it is handed, or if an answer shares memory with that, with another answer, or within itself.
func isClean(t *testing.T, name string, call func() answer, handed ...any) {
	t.Helper()
	in, was := memory(handed...)
	first := call()
	second := call()
	if _, is := memory(handed...); is != was {
		t.Errorf("%s: what was handed in became %s, was %s", name, is, was)
	}
	if text(first) != text(second) {
		t.Errorf("%s: answers %v, and then %v", name, first, second)
	}
	out, _ := memory(first, second)
	isApart(t, name, slices.Concat(in, out))
}

func TestZ2ArraysAndDeedsAreOnlyRead(t *testing.T) {
	l := roomySteps(steps())
	for _, was := range arrays(t) {
		a := roomy(was)
		for _, s := range l {
			isClean(t, "Do", func() answer {
				out, err := play.Do(a, s)
				return answer{A: out, Err: err}
			}, a, s)
		}
	}
}

func TestZ2StepsAreOnlyRead(t *testing.T) {
	all := steps()
	for from := 0; from < len(all); from += 7 {
		l := roomySteps(all[from:min(len(all), from+40)])
		isClean(t, "Play", func() answer {
			out, told, err := play.Play(l)
			return answer{out, told, err}
		}, l)
	}
}

// Whoever handed in a deed's bytes may change them as soon as the call has answered, as may whoever was answered.
func TestZ2NothingIsKept(t *testing.T) {
	for many := range 9 {
		data := []byte("abcd")
		l := []api.Step{fall(many, api.Deed{Kind: api.DeedWrite, N: 4, Data: data}), deed(api.Deed{Kind: api.DeedWrite, N: 8, Data: data})}
		a, es, _ := play.Play(l)
		b, _ := play.Do(a, l[0])
		wasA, wasB := text(a), text(b)
		copy(data, "zapp")
		clear(l)
		es[0] = api.ErrLost
		if text(a) != wasA || text(b) != wasB {
			t.Errorf("%d writes: the answers became %v and %v", many, a, b)
		}
		clear(a.Disks[1][1])
		if text(b) != wasB {
			t.Errorf("%d writes: the second answer became %v", many, b)
		}
		plays(t, nil, array.New())
	}
}

// What stands behind a list is not looked at: no byte behind a deed's, no step behind the last one, no byte behind a cell's.
func TestZ2SpareRoomIsNotLookedAt(t *testing.T) {
	data := []byte("abcdef")
	short := api.Deed{Kind: api.DeedWrite, N: 4, Data: data[:3]}
	right := api.Deed{Kind: api.DeedWrite, N: 4, Data: data[:4]}
	empty := api.Deed{Kind: api.DeedSwap, N: 4, M: 5, Data: data[:0]}
	l := append(make([]api.Step, 0, 300), deed(short), deed(right), fall(2, short), fall(2, empty))
	plays(t, l, whole{5: [4]byte([]byte("abcd"))}.array(), api.ErrMuch, 0, api.ErrMuch, 0)
	plays(t, l[:300][:2], whole{4: [4]byte([]byte("abcd"))}.array(), api.ErrMuch, 0)
	for _, was := range arrays(t) {
		a := roomy(was)
		for _, s := range steps() {
			w, err := sheetOf(was).behind(s)
			got, told := play.Do(a, s)
			if told != err || text(got) != text(w.array()) {
				t.Errorf("Do(%v, %v) = %v, %d, want %v, %d", a, s, got, told, w.array(), err)
			}
		}
		for place := range 12 {
			for at := len(was.Disks[place/3][place%3]); at < 20; at++ {
				doesNot(t, a, rot(place, at), api.ErrNone)
			}
		}
	}
}

// Beside an error the array is a copy of what was handed in, its Intents too.
func TestZ4BesideAnError(t *testing.T) {
	count := 0
	for _, a := range arrays(t) {
		for _, s := range steps() {
			if _, err := sheetOf(a).behind(s); err != api.OK {
				doesNot(t, a, s, err)
				count++
			}
		}
	}
	if count < 1000 {
		t.Errorf("only %d errors", count)
	}
}

// The tests' own numbers stand for the kinds and limits: that they are so is seen here.
func TestK1Kinds(t *testing.T) {
	kinds := []int{api.StepDeed, api.StepFall, api.StepRot, api.StepGone, api.StepMend, api.DeedWrite, api.DeedSwap}
	if !slices.Equal(kinds, []int{1, 2, 3, 4, 5, 1, 2}) {
		t.Errorf("kinds are %v", kinds)
	}
	limits := []int{api.MaxDisks, api.MaxStripes, api.MaxBlocks, api.BlockSize, api.CellSize}
	if !slices.Equal(limits, []int{4, 3, 9, 4, 8}) {
		t.Errorf("limits are %v", limits)
	}
}
