package array_test

import (
	"bytes"
	"fmt"
	"math"
	"math/bits"
	"reflect"
	"slices"
	"strings"
	"testing"

	"mirrorheal/api"
	"mirrorheal/array"
	"mirrorheal/cell"
)

// layout are the blocks by stripes and disks, written out; -1 is on the spare disk.
func layout() [3][4]int {
	return [3][4]int{{0, 1, 2, -1}, {3, 4, -1, 5}, {6, -1, 7, 8}}
}

// diskOf is the disk of a block.
func diskOf(block int) int {
	disks := layout()[block/3]
	return slices.Index(disks[:], block)
}

// whole are all blocks as a value, so that what should come is worked out without a list that could be shared.
type whole [9][4]byte

// lists is w as a list of blocks.
func (w whole) lists() [][]byte {
	var l [][]byte
	for _, b := range w {
		l = append(l, bytes.Clone(b[:]))
	}
	return l
}

// after is w behind a right deed.
func (w whole) after(d api.Deed) whole {
	if d.Kind == api.DeedSwap {
		w[d.N], w[d.M] = w[d.M], w[d.N]
		return w
	}
	w[d.N] = [4]byte(d.Data)
	return w
}

// cells are those of a stripe that has w, by disks.
func (w whole) cells(s int) [][]byte {
	var spare [4]byte
	for _, block := range layout()[s] {
		if block >= 0 {
			spare = together(spare, w[block])
		}
	}
	var l [][]byte
	for disk, block := range layout()[s] {
		data := spare
		if block >= 0 {
			data = w[block]
		}
		l = append(l, cell.Bytes(disk, s, data[:]))
	}
	return l
}

// array is one that has w, without Intents.
func (w whole) array() api.Array {
	a := api.Array{Disks: make([][][]byte, 4)}
	for s := range 3 {
		for disk, b := range w.cells(s) {
			a.Disks[disk] = append(a.Disks[disk], b)
		}
	}
	return a
}

func together(a, b [4]byte) [4]byte {
	for k := range a {
		a[k] ^= b[k]
	}
	return a
}

// unlike are blocks each of which is another one, as is each byte.
func unlike() whole {
	var w whole
	for k := range w {
		for at := range w[k] {
			w[k][at] = byte(17*k + 53*at + 1)
		}
	}
	return w
}

func write(n int, data string) api.Deed {
	return api.Deed{Kind: api.DeedWrite, N: n, Data: []byte(data)}
}

func swap(n, m int) api.Deed {
	return api.Deed{Kind: api.DeedSwap, N: n, M: m}
}

// deedsOf are right deeds of a stripe: writes of each block, and swaps of each pair, each block with itself too.
func deedsOf(s int) []api.Deed {
	var l []api.Deed
	for n := 3 * s; n < 3*s+3; n++ {
		l = append(l, write(n, "abcd"), write(n, "\x00\x00\x00\x00"), write(n, "\xff\x00\xfe\x01"))
		for m := 3 * s; m < 3*s+3; m++ {
			l = append(l, swap(n, m))
		}
	}
	return l
}

// rightDeeds are those of all stripes.
func rightDeeds() []api.Deed {
	return slices.Concat(deedsOf(0), deedsOf(1), deedsOf(2))
}

// wrongDeeds are deeds of each error that chapter 5 names, by what is wrong first.
func wrongDeeds() map[api.Errno][]api.Deed {
	long := append(write(4, "abcd").Data, 'e')
	out := map[api.Errno][]api.Deed{
		api.ErrKind: {{}, {Kind: 3, N: 4, Data: long[:4]}, {Kind: -1, N: 4, M: 5}, {Kind: 258, N: 4, M: 5}, {Kind: 0, N: 9, M: 9, Data: long}, {Kind: math.MaxInt}},
		api.ErrRange: {
			{Kind: 1, N: 4, M: 5, Data: long[:4]}, {Kind: 1, N: 4, M: 4, Data: long[:4]}, {Kind: 1, N: 4, M: -1, Data: long[:4]}, {Kind: 1, N: 9, Data: long}, {Kind: 1, N: 0, M: 1},
			swap(2, 3), swap(3, 2), swap(0, 8), swap(5, 6), {Kind: 2, N: 0, M: 3, Data: long},
		},
		api.ErrMuch: {write(4, ""), write(0, "abc"), write(8, "abcde"), {Kind: 1, N: 4}, {Kind: 2, N: 4, M: 5, Data: long[:4]}, {Kind: 2, N: 4, M: 4, Data: long[:1]}},
	}
	for _, n := range noBlocks() {
		out[api.ErrRange] = append(out[api.ErrRange], write(n, "abcd"), swap(n, 4), swap(4, n), swap(n, n))
	}
	return out
}

// noBlocks are numbers that are no block; the low bits of some are those of one.
func noBlocks() []int {
	return []int{math.MinInt, math.MinInt32, -1 << 32, -257, -256, -9, -3, -2, -1, 9, 10, 12, 255, 256, 257, 260, math.MaxInt32, 1 << 32, 1<<32 + 4, math.MaxInt}
}

// without is a copy of a where the cells of a stripe are none on the disks whose bits mask has.
func without(a api.Array, s int, mask int) api.Array {
	out := array.Own(a)
	for disk := range out.Disks {
		if mask>>disk&1 == 1 {
			out.Disks[disk][s] = nil
		}
	}
	return out
}

// spoilt are bytes that are no cell of that place, made of the one that is.
func spoilt(b []byte, disk, s int) map[string][]byte {
	turned := bytes.Clone(b)
	turned[5] ^= 1
	return map[string][]byte{
		"nil":               nil,
		"no bytes":          {},
		"a byte too short":  b[:7],
		"a byte too long":   append(bytes.Clone(b), 0),
		"a byte turned":     turned,
		"noughts":           make([]byte, 8),
		"of another disk":   cell.Bytes((disk+1)%4, s, b[2:6]),
		"of another stripe": cell.Bytes(disk, (s+1)%3, b[2:6]),
		"of no disk":        cell.Bytes(disk+4, s, b[2:6]),
	}
}

// text tells an array, an intent or blocks; nil is told as a list without entries is.
func text(x any) string { return fmt.Sprint(x) }

// isText fails unless got is told as want is.
func isText(t *testing.T, name string, got, want any) {
	t.Helper()
	if text(got) != text(want) {
		t.Errorf("%s: %v, want %v", name, got, want)
	}
}

// reads fails unless block is this.
func reads(t *testing.T, a api.Array, block int, want []byte) {
	t.Helper()
	if got, err := array.Read(a, block); err != api.OK || !bytes.Equal(got, want) {
		t.Errorf("Read(%v, %d) = %v, %d, want %v", a, block, got, err, want)
	}
}

// readsNot fails unless there is this error of block, and nothing beside it.
func readsNot(t *testing.T, a api.Array, block int, want api.Errno) {
	t.Helper()
	if got, err := array.Read(a, block); err != want || len(got) != 0 {
		t.Errorf("Read(%v, %d) = %v, %d, want nothing, %d", a, block, got, err, want)
	}
}

// has fails unless the array has these blocks, told one by one and all at once.
func has(t *testing.T, a api.Array, want whole) {
	t.Helper()
	for block := range want {
		reads(t, a, block, want[block][:])
	}
	got, err := array.Blocks(a)
	if err != api.OK || text(got) != text(want.lists()) {
		t.Errorf("Blocks(%v) = %v, %d, want %v", a, got, err, want)
	}
}

// hasNot fails unless there is this error of all blocks, and nothing beside it.
func hasNot(t *testing.T, a api.Array, want api.Errno) {
	t.Helper()
	if got, err := array.Blocks(a); err != want || len(got) != 0 {
		t.Errorf("Blocks(%v) = %v, %d, want nothing, %d", a, got, err, want)
	}
}

// plans fails unless Plan tells these cells of the deed's stripe.
func plans(t *testing.T, a api.Array, d api.Deed, want [][]byte) api.Intent {
	t.Helper()
	i, err := array.Plan(a, d)
	if err != api.OK || text(i) != text(api.Intent{Stripe: d.N / 3, Cells: want}) {
		t.Errorf("Plan(%v, %v) = %v, %d, want %v", a, d, i, err, want)
	}
	return i
}

// does fails unless a is this behind the deed.
func does(t *testing.T, a api.Array, d api.Deed, want api.Array) {
	t.Helper()
	got, err := array.Do(a, d)
	if err != api.OK || text(got) != text(want) {
		t.Errorf("Do(%v, %v) = %v, %d, want %v", a, d, got, err, want)
	}
}

// refuses fails unless Plan and Do tell this error; beside it there is no intent, and a is as it was.
func refuses(t *testing.T, a api.Array, d api.Deed, want api.Errno) {
	t.Helper()
	if i, err := array.Plan(a, d); err != want || text(i) != text(api.Intent{}) {
		t.Errorf("Plan(%v, %v) = %v, %d, want nothing, %d", a, d, i, err, want)
	}
	if got, err := array.Do(a, d); err != want || text(got) != text(a) {
		t.Errorf("Do(%v, %v) = %v, %d, want as it was, %d", a, d, got, err, want)
	}
}

// behindWrites is a behind the first writes of an intent, worked out one by one.
func behindWrites(a api.Array, i api.Intent, many int) api.Array {
	out := api.Array{Intents: a.Intents}
	for disk, l := range a.Disks {
		l = slices.Clone(l)
		if many >= 2+disk {
			l[i.Stripe] = i.Cells[disk]
		}
		out.Disks = append(out.Disks, l)
	}
	if many >= 1 {
		out.Intents = []api.Intent{i}
	}
	if many >= 6 {
		out.Intents = nil
	}
	return out
}

// manies are numbers of writes, below none, and above all.
func manies() []int {
	return []int{math.MinInt, math.MinInt32, -6, -2, -1, 0, 1, 2, 3, 4, 5, 6, 7, 8, 12, 256, math.MaxInt32, 1 << 32, math.MaxInt}
}

func TestH1New(t *testing.T) {
	isText(t, "New", array.New(), api.Array{Disks: [][][]byte{
		{{0, 0, 0, 0, 0, 0, 236, 127}, {0, 1, 0, 0, 0, 0, 144, 145}, {0, 2, 0, 0, 0, 0, 52, 163}},
		{{1, 0, 0, 0, 0, 0, 175, 243}, {1, 1, 0, 0, 0, 0, 84, 5}, {1, 2, 0, 0, 0, 0, 248, 8}},
		{{2, 0, 0, 0, 0, 0, 115, 103}, {2, 1, 0, 0, 0, 0, 23, 121}, {2, 2, 0, 0, 0, 0, 187, 124}},
		{{3, 0, 0, 0, 0, 0, 54, 219}, {3, 1, 0, 0, 0, 0, 218, 222}, {3, 2, 0, 0, 0, 0, 126, 240}},
	}})
	has(t, array.New(), whole{})
}

// arrays are such as steps and Write make: whole ones, some with cells that are none, some with an intent.
func arrays() []api.Array {
	w := unlike()
	l := []api.Array{array.New(), w.array()}
	for s := range 3 {
		i := api.Intent{Stripe: s, Cells: w.after(write(3*s, "abcd")).cells(s)}
		for many := range 6 {
			l = append(l, behindWrites(w.array(), i, many), without(behindWrites(w.array(), i, many), s, 1<<(many%4)))
		}
		for mask := range 16 {
			l = append(l, without(w.array(), s, mask))
		}
		for disk := range 4 {
			for _, b := range spoilt(w.cells(s)[disk], disk, s) {
				a := w.array()
				a.Disks[disk][s] = b
				l = append(l, a)
			}
		}
	}
	return l
}

func TestH1OwnIsACopy(t *testing.T) {
	for _, a := range arrays() {
		isText(t, "Own", array.Own(a), text(a))
		isText(t, "Own of Own", array.Own(array.Own(a)), text(a))
	}
}

func TestH1ReadOfEachBlock(t *testing.T) {
	has(t, unlike().array(), unlike())
	for n := range 9 {
		w := whole{}.after(write(n, "abcd"))
		has(t, w.array(), w)
		reads(t, w.array(), n, []byte("abcd"))
	}
}

func TestH1ReadOfNoBlock(t *testing.T) {
	for _, n := range noBlocks() {
		readsNot(t, array.New(), n, api.ErrRange)
		readsNot(t, unlike().array(), n, api.ErrRange)
		readsNot(t, without(unlike().array(), 2, 15), n, api.ErrRange)
	}
	for n := range 300 {
		readsNot(t, unlike().array(), -1-n, api.ErrRange)
		readsNot(t, unlike().array(), 9+n, api.ErrRange)
	}
}

// Whichever one cell of each stripe is spoilt, in whatever way: the blocks are what they were.
func TestH1AnyOneMayBeNone(t *testing.T) {
	for s := range 3 {
		for disk := range 4 {
			for name, b := range spoilt(unlike().cells(s)[disk], disk, s) {
				t.Run(fmt.Sprintf("disk %d stripe %d %s", disk, s, name), func(t *testing.T) {
					a := unlike().array()
					a.Disks[disk][s] = b
					has(t, a, unlike())
				})
			}
		}
	}
}

// A disk that is gone has none of its stripes' cells; with one more gone, the blocks of both are lost, and no other.
func TestH1DisksThatAreGone(t *testing.T) {
	for one := range 4 {
		a := unlike().array()
		a.Disks[one] = make([][]byte, 3)
		has(t, a, unlike())
		for two := range 4 {
			if two == one {
				continue
			}
			b := array.Own(a)
			b.Disks[two] = [][]byte{{}, nil, {}}
			hasNot(t, b, api.ErrLost)
			for block := range 9 {
				if at := diskOf(block); at == one || at == two {
					readsNot(t, b, block, api.ErrLost)
				} else {
					w := unlike()
					reads(t, b, block, w[block][:])
				}
			}
		}
	}
}

// Of each set of a stripe's cells that are none: a block is lost if its own is one of two or more.
func TestH1LostOnTheseCellsAlone(t *testing.T) {
	w := unlike()
	for s := range 3 {
		for mask := range 16 {
			a := without(w.array(), s, mask)
			lost := false
			for block := range 9 {
				if block/3 == s && mask>>diskOf(block)&1 == 1 && bits.OnesCount(uint(mask)) > 1 {
					readsNot(t, a, block, api.ErrLost)
					lost = true
				} else {
					reads(t, a, block, w[block][:])
				}
			}
			if lost {
				hasNot(t, a, api.ErrLost)
			} else {
				has(t, a, w)
			}
		}
	}
}

// A sound cell is told as it is, though the four are not noughts together; one that is none is what the others have.
func TestH1ReadOfAStripeThatIsNotEven(t *testing.T) {
	for s := range 3 {
		for disk, block := range layout()[s] {
			if block < 0 {
				continue
			}
			a := unlike().array()
			a.Disks[disk][s] = cell.Bytes(disk, s, []byte("odd!"))
			has(t, a, unlike().after(write(block, "odd!")))
			for other, gone := range layout()[s] {
				if other == disk || gone < 0 {
					continue
				}
				w := unlike()
				turned := together(together(w[gone], w[block]), [4]byte([]byte("odd!")))
				has(t, without(a, s, 1<<other), w.after(write(block, "odd!")).after(write(gone, string(turned[:]))))
			}
		}
	}
}

// What is noted is not there until it is written.
func TestH1ReadDoesNotLookAtIntents(t *testing.T) {
	for s := range 3 {
		for _, d := range deedsOf(s) {
			a := unlike().array()
			a.Intents = []api.Intent{{Stripe: s, Cells: unlike().after(d).cells(s)}}
			has(t, a, unlike())
			has(t, without(a, s, 1<<(d.N%4)), unlike())
			readsNot(t, without(a, s, 15), 3*s, api.ErrLost)
		}
	}
}

func TestH2Known(t *testing.T) {
	i := plans(t, array.New(), write(4, "abcd"), [][]byte{{0, 1, 0, 0, 0, 0, 144, 145}, {1, 1, 97, 98, 99, 100, 191, 156}, {2, 1, 97, 98, 99, 100, 131, 16}, {3, 1, 0, 0, 0, 0, 218, 222}})
	two := array.Write(array.New(), i, 2)
	has(t, two, whole{})
	has(t, array.Mount(two), whole{4: {97, 98, 99, 100}})
	has(t, array.Mount(array.Write(array.New(), i, 0)), whole{})
	plans(t, array.Mount(two), swap(4, 5), [][]byte{{0, 1, 0, 0, 0, 0, 144, 145}, {1, 1, 0, 0, 0, 0, 84, 5}, {2, 1, 97, 98, 99, 100, 131, 16}, cell.Bytes(3, 1, []byte("abcd"))})
	plans(t, array.New(), write(0, "0123"), [][]byte{{0, 0, 48, 49, 50, 51, 92, 149}, {1, 0, 0, 0, 0, 0, 175, 243}, {2, 0, 0, 0, 0, 0, 115, 103}, {3, 0, 48, 49, 50, 51, 166, 226}})
	plans(t, array.New(), write(8, "wxyz"), [][]byte{{0, 2, 0, 0, 0, 0, 52, 163}, {1, 2, 119, 120, 121, 122, 35, 2}, {2, 2, 0, 0, 0, 0, 187, 124}, {3, 2, 119, 120, 121, 122, 169, 219}})
}

func TestH2PlanAndDoOfEachDeed(t *testing.T) {
	for _, w := range []whole{{}, unlike()} {
		for _, d := range rightDeeds() {
			plans(t, w.array(), d, w.after(d).cells(d.N/3))
			does(t, w.array(), d, w.after(d).array())
			done, _ := array.Do(w.array(), d)
			has(t, done, w.after(d))
		}
	}
}

// Deeds one behind the other, each on what the one ahead of it made.
func TestH2DeedBehindDeed(t *testing.T) {
	w, a := whole{}, array.New()
	for k := range 400 {
		d := write(k*5%9, string([]byte{byte(k), byte(k >> 1), byte(7 * k), byte(255 - k)}))
		if k%3 == 2 {
			n := k * 4 % 9
			d = swap(n, n-n%3+k/3%3)
		}
		var err api.Errno
		if a, err = array.Do(a, d); err != api.OK {
			t.Fatalf("deed %d, %v: %d", k, d, err)
		}
		w = w.after(d)
		isText(t, fmt.Sprintf("behind deed %d", k), a, w.array())
	}
	has(t, a, w)
}

// With one cell that is none, whichever it is, all is done as without it, and no cell of the stripe is none behind it.
func TestH2DeedsWithOneCellThatIsNone(t *testing.T) {
	w := unlike()
	for _, d := range rightDeeds() {
		s := d.N / 3
		for disk := range 4 {
			for _, b := range spoilt(w.cells(s)[disk], disk, s) {
				a := w.array()
				a.Disks[disk][s] = b
				plans(t, a, d, w.after(d).cells(s))
				does(t, a, d, w.after(d).array())
			}
		}
	}
}

func TestH2DeedsOfAStripeThatIsLost(t *testing.T) {
	for _, d := range rightDeeds() {
		for mask := range 16 {
			if bits.OnesCount(uint(mask)) > 1 {
				refuses(t, without(unlike().array(), d.N/3, mask), d, api.ErrLost)
			}
		}
	}
}

// However many cells of the other stripes are none: the deed is done, and they are let be.
func TestH2DeedsTouchTheirStripeAlone(t *testing.T) {
	for _, d := range rightDeeds() {
		s := d.N / 3
		for mask := range 256 {
			a := without(without(unlike().array(), (s+1)%3, mask&15), (s+2)%3, mask>>4)
			plans(t, a, d, unlike().after(d).cells(s))
			does(t, a, d, without(without(unlike().after(d).array(), (s+1)%3, mask&15), (s+2)%3, mask>>4))
		}
	}
}

// Spoilt cells of other stripes stay spoilt as they are, and odd ones odd.
func TestH2CellsOfOtherStripesAreAsTheyWere(t *testing.T) {
	for _, d := range rightDeeds() {
		other := (d.N/3 + 1) % 3
		for disk := range 4 {
			for _, b := range spoilt(unlike().cells(other)[disk], disk, other) {
				a, want := unlike().array(), unlike().after(d).array()
				a.Disks[disk][other], want.Disks[disk][other] = b, b
				does(t, a, d, want)
			}
			odd := cell.Bytes(disk, other, []byte("odd!"))
			a, want := unlike().array(), unlike().after(d).array()
			a.Disks[disk][other], want.Disks[disk][other] = odd, odd
			does(t, a, d, want)
		}
	}
}

// Where the four are not noughts together, a deed has the spare one be what the others are.
func TestH2DeedsOfAStripeThatIsNotEven(t *testing.T) {
	for _, d := range rightDeeds() {
		s := d.N / 3
		for disk, block := range layout()[s] {
			a, w := unlike().array(), unlike()
			a.Disks[disk][s] = cell.Bytes(disk, s, []byte("odd!"))
			if block >= 0 {
				w = w.after(write(block, "odd!"))
			}
			plans(t, a, d, w.after(d).cells(s))
			does(t, a, d, w.after(d).array())
		}
	}
}

func TestH2WrongDeeds(t *testing.T) {
	noted := unlike().array()
	noted.Intents = []api.Intent{{Stripe: 1, Cells: unlike().after(swap(3, 4)).cells(1)}}
	for err, deeds := range wrongDeeds() {
		for _, d := range deeds {
			refuses(t, array.New(), d, err)
			refuses(t, unlike().array(), d, err)
			refuses(t, without(unlike().array(), 1, 1), d, err)
			refuses(t, noted, d, err)
		}
	}
}

// What is wrong with a deed is told ahead of what is lost.
func TestH2WrongIsToldFirst(t *testing.T) {
	lost := api.Array{Disks: [][][]byte{{nil, nil, nil}, {nil, nil, nil}, {nil, nil, nil}, {nil, nil, nil}}}
	for err, deeds := range wrongDeeds() {
		for _, d := range deeds {
			refuses(t, lost, d, err)
		}
	}
	for _, d := range rightDeeds() {
		refuses(t, lost, d, api.ErrLost)
	}
}

func TestH2WriteOfEachNumber(t *testing.T) {
	for _, d := range rightDeeds() {
		i := plans(t, unlike().array(), d, unlike().after(d).cells(d.N/3))
		for _, many := range manies() {
			want := behindWrites(unlike().array(), i, many)
			isText(t, fmt.Sprintf("Write of %v, %d", d, many), array.Write(unlike().array(), i, many), want)
		}
		isText(t, "all six", array.Write(unlike().array(), i, 6), unlike().after(d).array())
	}
}

// Of an array that has an intent already: without a write it is still there, from the first one on the new one is.
func TestH2WriteWhereThereIsAnIntent(t *testing.T) {
	for _, first := range []api.Deed{write(1, "abcd"), swap(3, 5), write(8, "wxyz")} {
		a := unlike().array()
		a.Intents = []api.Intent{{Stripe: first.N / 3, Cells: unlike().after(first).cells(first.N / 3)}}
		for _, d := range rightDeeds() {
			i := plans(t, a, d, unlike().after(d).cells(d.N/3))
			for _, many := range manies() {
				isText(t, fmt.Sprintf("Write of %v, %d", d, many), array.Write(a, i, many), behindWrites(a, i, many))
			}
			does(t, a, d, unlike().after(d).array())
		}
	}
}

// All of it, or nothing: behind none of the writes the deed is not done, behind one at least it is.
func TestH2MountBehindEachNumber(t *testing.T) {
	for _, d := range rightDeeds() {
		s := d.N / 3
		for mask := range 16 {
			if bits.OnesCount(uint(mask)) > 1 {
				continue
			}
			a := without(unlike().array(), s, mask)
			i := plans(t, a, d, unlike().after(d).cells(s))
			for _, many := range manies() {
				want := a
				if many > 0 {
					want = unlike().after(d).array()
				}
				got := array.Mount(array.Write(a, i, many))
				isText(t, fmt.Sprintf("Mount behind %d of %v", many, d), got, want)
				isText(t, "Mount of Mount", array.Mount(got), want)
			}
		}
	}
}

// An intent that is noted is enough, whatever became of its stripe's cells; other stripes are let be.
func TestH2MountOfWhatIsHarmed(t *testing.T) {
	for _, d := range []api.Deed{write(0, "abcd"), swap(4, 5), write(8, "wxyz")} {
		s := d.N / 3
		i := plans(t, unlike().array(), d, unlike().after(d).cells(s))
		for many := 1; many < 6; many++ {
			for mask := range 16 {
				a := without(without(array.Write(unlike().array(), i, many), s, mask), (s+1)%3, mask)
				want := without(unlike().after(d).array(), (s+1)%3, mask)
				isText(t, fmt.Sprintf("Mount behind %d of %v", many, d), array.Mount(a), want)
			}
		}
	}
}

func TestH2MountWithoutIntents(t *testing.T) {
	for _, a := range arrays() {
		a.Intents = nil
		isText(t, "Mount", array.Mount(a), text(a))
		a.Intents = []api.Intent{}
		isText(t, "Mount", array.Mount(a), text(a))
	}
}

// Where one cell is none, a list without bytes is as good as nil, and so is it for data and Intents that there are not.
func TestZ3ListsWithoutEntries(t *testing.T) {
	for s := range 3 {
		for disk := range 4 {
			a := unlike().array()
			a.Disks[disk][s], a.Intents = []byte{}, []api.Intent{}
			has(t, a, unlike())
			d := api.Deed{Kind: api.DeedSwap, N: 3 * s, M: 3*s + 1, Data: []byte{}}
			plans(t, a, d, unlike().after(d).cells(s))
			does(t, a, d, unlike().after(d).array())
			a.Disks[(disk+1)%4][s] = []byte{}
			refuses(t, a, d, api.ErrLost)
		}
	}
}

func TestZ4NothingBesideAnError(t *testing.T) {
	for s := range 3 {
		a := without(unlike().array(), s, 15)
		for block := 3 * s; block < 3*s+3; block++ {
			readsNot(t, a, block, api.ErrLost)
		}
		hasNot(t, a, api.ErrLost)
		if i, err := array.Plan(a, write(3*s+1, "abcd")); err != api.ErrLost || i.Stripe != 0 || len(i.Cells) != 0 {
			t.Errorf("Plan = %v, %d, want nothing, ErrLost", i, err)
		}
	}
	hasNot(t, api.Array{}, api.ErrLost)
}

// oddArrays are arrays that no step makes, of other sizes than there are.
func oddArrays() []api.Array {
	l := []api.Array{{}, {Disks: make([][][]byte, 5)}, {Disks: [][][]byte{nil, {nil}, {nil, nil}, make([][]byte, 9)}}}
	for size := range 6 {
		a := unlike().array()
		a.Disks = append(a.Disks, a.Disks[0])[:size]
		b := unlike().array()
		b.Disks[2] = append(b.Disks[2], nil, nil)[:min(size, 5)]
		l = append(l, a, b)
	}
	return append(l, unlike().array())
}

// oddIntents are intents that Plan never tells.
func oddIntents() []api.Intent {
	l := []api.Intent{{}, {Cells: make([][]byte, 9)}}
	for _, s := range append(noBlocks(), 0, 1, 2, 3, 4) {
		for size := range 6 {
			l = append(l, api.Intent{Stripe: s, Cells: append(unlike().cells(1), nil)[:size]})
		}
	}
	return l
}

// Of other arrays and intents than the chapter's nothing is said but that no call panics.
func TestZ1NoCallPanics(t *testing.T) {
	for _, a := range oddArrays() {
		isText(t, "Own", array.Own(a), a)
		array.Blocks(a)
		for _, n := range append(noBlocks(), 0, 1, 2, 3, 4, 5, 6, 7, 8) {
			array.Read(a, n)
		}
		for _, d := range rightDeeds() {
			array.Plan(a, d)
			array.Do(a, d)
		}
		for err, deeds := range wrongDeeds() {
			for _, d := range deeds {
				refuses(t, a, d, err)
			}
		}
		for _, i := range oddIntents() {
			for _, many := range manies() {
				array.Mount(array.Write(a, i, many))
			}
			a.Intents = []api.Intent{i, i, {}}
			array.Mount(a)
		}
	}
}

func TestZ1AskedAgain(t *testing.T) {
	a := without(unlike().array(), 1, 4)
	for range 3 {
		does(t, a, swap(3, 5), unlike().after(swap(3, 5)).array())
		has(t, a, unlike())
		isText(t, "New", array.New(), whole{}.array())
	}
}

// roomyBytes is a copy of b with spare room behind it.
func roomyBytes(b []byte) []byte {
	return append(bytes.Clone(b), "------------"...)[:len(b)]
}

// roomyCells is a copy of l with spare room behind each entry, and behind the list.
func roomyCells(l [][]byte) [][]byte {
	var out [][]byte
	for _, b := range l {
		out = append(out, roomyBytes(b))
	}
	return append(out, []byte("behind"), []byte("behind"))[:len(l)]
}

// roomyIntent is a copy of i with spare room behind each of its lists.
func roomyIntent(i api.Intent) api.Intent {
	return api.Intent{Stripe: i.Stripe, Cells: roomyCells(i.Cells)}
}

// roomy is a copy of a with spare room behind each of its lists; behind Intents stands one that would change it.
func roomy(a api.Array) api.Array {
	var out api.Array
	for _, l := range a.Disks {
		out.Disks = append(out.Disks, roomyCells(l))
	}
	out.Disks = append(out.Disks, [][]byte{[]byte("behind")})[:len(a.Disks)]
	for _, i := range a.Intents {
		out.Intents = append(out.Intents, roomyIntent(i))
	}
	behind := api.Intent{Stripe: 1, Cells: unlike().after(write(4, "else")).cells(1)}
	out.Intents = append(out.Intents, behind)[:len(a.Intents)]
	return out
}

// roomyDeed is a copy of d with spare room behind its data.
func roomyDeed(d api.Deed) api.Deed {
	d.Data = roomyBytes(d.Data)
	return d
}

// piece is the memory of one list, its spare room too.
type piece struct{ from, to uintptr }

// pieces are the memory of all lists of v, of those in spare room too; tell hears of what each list has, and where.
func pieces(v reflect.Value, tell func(string)) []piece {
	var out []piece
	switch v.Kind() {
	case reflect.Slice:
		tell(fmt.Sprintf("%d of %d at %x: ", v.Len(), v.Cap(), v.Pointer()))
		if size := uintptr(v.Cap()) * v.Type().Elem().Size(); size > 0 {
			out = append(out, piece{v.Pointer(), v.Pointer() + size})
		}
		for k := range v.Cap() {
			out = append(out, pieces(v.Slice(0, v.Cap()).Index(k), tell)...)
		}
	case reflect.Struct:
		for k := range v.NumField() {
			out = append(out, pieces(v.Field(k), tell)...)
		}
	default:
		tell(fmt.Sprint(v.Interface(), " "))
	}
	return out
}

// memory are the pieces of what is answered or handed in, and a text of all that is in them.
func memory(l []any) ([]piece, string) {
	var all strings.Builder
	var out []piece
	for _, x := range l {
		out = append(out, pieces(reflect.ValueOf(x), func(s string) { all.WriteString(s) })...)
	}
	return out, all.String()
}

// isApart fails if two of these pieces share memory.
func isApart(t *testing.T, name string, l []piece) {
	t.Helper()
	slices.SortFunc(l, func(a, b piece) int {
		if a.from < b.from {
			return -1
		}
		return 1
	})
	for k := 1; k < len(l); k++ {
		if l[k].from < l[k-1].to {
			t.Errorf("%s: memory is shared", name)
			return
		}
	}
}

// isClean fails if the call changes what it is handed, or if an answer shares memory with that, with another answer, or within itself.
func isClean(t *testing.T, name string, handed []any, call func() []any) {
	t.Helper()
	in, was := memory(handed)
	first, second := call(), call()
	if _, is := memory(handed); is != was {
		t.Errorf("%s: what was handed in became %s, was %s", name, is, was)
	}
	if text(first) != text(second) {
		t.Errorf("%s: answers %v, and then %v", name, first, second)
	}
	out, _ := memory(slices.Concat(first, second))
	isApart(t, name, slices.Concat(in, out))
}

func TestZ2ArraysAreOnlyRead(t *testing.T) {
	isClean(t, "New", nil, func() []any { return []any{array.New()} })
	for _, was := range arrays() {
		a := roomy(was)
		isClean(t, "Own", []any{a}, func() []any { return []any{array.Own(a)} })
		isClean(t, "Mount", []any{a}, func() []any { return []any{array.Mount(a)} })
		isClean(t, "Blocks", []any{a}, func() []any { l, _ := array.Blocks(a); return []any{l} })
		for block := -1; block < 10; block++ {
			isClean(t, "Read", []any{a}, func() []any { b, _ := array.Read(a, block); return []any{b} })
		}
	}
}

func TestZ2DeedsAndIntentsAreOnlyRead(t *testing.T) {
	deeds := []api.Deed{write(0, "abcd"), swap(4, 5), swap(7, 7), write(8, "wxyz"), write(9, "abcd"), write(4, "abc"), {Kind: 7, Data: []byte("abcd")}}
	for _, was := range arrays() {
		for _, d := range deeds {
			a, d := roomy(was), roomyDeed(d)
			isClean(t, "Plan", []any{a, d}, func() []any { i, _ := array.Plan(a, d); return []any{i} })
			isClean(t, "Do", []any{a, d}, func() []any { x, _ := array.Do(a, d); return []any{x} })
			planned, err := array.Plan(a, d)
			if err != api.OK {
				continue
			}
			i := roomyIntent(planned)
			for many := -1; many < 8; many++ {
				isClean(t, "Write", []any{a, i}, func() []any { return []any{array.Write(a, i, many)} })
			}
		}
	}
}

// One list at all places: the answer has one of its own at each.
func TestZ2OneListAtAllPlaces(t *testing.T) {
	c := []byte("abcdefgh")
	l := [][]byte{c, c, c}
	a := api.Array{Disks: [][][]byte{l, l, l, l}}
	i := api.Intent{Stripe: 1, Cells: [][]byte{c, c, c, c}}
	for _, many := range manies() {
		out, _ := memory([]any{array.Write(a, i, many), a.Disks[0][0]})
		isApart(t, "Write", out)
	}
	a.Intents = []api.Intent{i}
	out, _ := memory([]any{array.Own(a), array.Mount(a), a.Disks[0][0]})
	isApart(t, "Own and Mount", out)
	if string(c) != "abcdefgh" {
		t.Errorf("what was handed in became %q", c)
	}
}

// What stands behind a list is not looked at.
func TestZ2SpareRoomIsNotLookedAt(t *testing.T) {
	for _, was := range arrays() {
		a := roomy(was)
		isText(t, "Own", array.Own(a), was)
		isText(t, "Mount", array.Mount(a), array.Mount(was))
		l, err := array.Blocks(a)
		want, wantErr := array.Blocks(was)
		isText(t, "Blocks", []any{l, err}, []any{want, wantErr})
		for _, d := range []api.Deed{write(4, "abcd"), swap(8, 6)} {
			x, err := array.Do(a, roomyDeed(d))
			want, wantErr := array.Do(was, d)
			isText(t, "Do", []any{x, err}, []any{want, wantErr})
		}
	}
	a := unlike().array()
	a.Disks[0][0], a.Disks[1][0] = a.Disks[0][0][:7], a.Disks[1][0][:0]
	readsNot(t, a, 0, api.ErrLost)
	readsNot(t, a, 1, api.ErrLost)
	refuses(t, a, write(2, "abcd"), api.ErrLost)
	refuses(t, a, api.Deed{Kind: api.DeedWrite, N: 4, Data: []byte("abcd")[:3]}, api.ErrMuch)
}

// The tests' own numbers stand for the limits: that they are so is seen here.
func TestH1Limits(t *testing.T) {
	if api.MaxDisks != 4 || api.MaxStripes != 3 || api.MaxBlocks != 9 || api.BlockSize != 4 || api.CellSize != 8 {
		t.Errorf("limits are %d disks, %d stripes, %d blocks, %d and %d bytes", api.MaxDisks, api.MaxStripes, api.MaxBlocks, api.BlockSize, api.CellSize)
	}
}
