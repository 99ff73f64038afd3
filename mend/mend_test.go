package mend_test

import (
	"bytes"
	"fmt"
	"math"
	"math/bits"
	"reflect"
	"slices"
	"strings"
	"testing"

	"mirrorheal/api"
	"mirrorheal/array"
	"mirrorheal/cell"
	"mirrorheal/mend"
)

// layout are the blocks by stripes and disks, written out; -1 is on the spare disk.
func layout() [3][4]int {
	return [3][4]int{{0, 1, 2, -1}, {3, 4, -1, 5}, {6, -1, 7, 8}}
}

// whole are all blocks as a value, so that what should come is worked out without a list that could be shared.
type whole [9][4]byte

// lists is w as a list of blocks.
func (w whole) lists() [][]byte {
	var l [][]byte
	for _, b := range w {
		l = append(l, bytes.Clone(b[:]))
	}
	return l
}

// data are what the disks have of a stripe.
func (w whole) data(s int) [4][4]byte {
	var out [4][4]byte
	var spare [4]byte
	for disk, block := range layout()[s] {
		if block >= 0 {
			out[disk] = w[block]
			spare = together(spare, w[block])
		}
	}
	for disk, block := range layout()[s] {
		if block < 0 {
			out[disk] = spare
		}
	}
	return out
}

// cells are those of a stripe that has w, by disks.
func (w whole) cells(s int) [][]byte {
	var l [][]byte
	for disk, b := range w.data(s) {
		l = append(l, cell.Bytes(disk, s, b[:]))
	}
	return l
}

// array is one that has w, without Intents.
func (w whole) array() api.Array {
	a := api.Array{Disks: make([][][]byte, 4)}
	for s := range 3 {
		for disk, b := range w.cells(s) {
			a.Disks[disk] = append(a.Disks[disk], b)
		}
	}
	return a
}

func together(a, b [4]byte) [4]byte {
	for k := range a {
		a[k] ^= b[k]
	}
	return a
}

// unlike are blocks each of which is another one, as is each byte.
func unlike() whole {
	var w whole
	for k := range w {
		for at := range w[k] {
			w[k][at] = byte(17*k + 53*at + 1)
		}
	}
	return w
}

func write(n int, data string) api.Deed {
	return api.Deed{Kind: api.DeedWrite, N: n, Data: []byte(data)}
}

func swap(n, m int) api.Deed {
	return api.Deed{Kind: api.DeedSwap, N: n, M: m}
}

// behindDeeds is a behind these deeds.
func behindDeeds(t *testing.T, a api.Array, deeds ...api.Deed) api.Array {
	t.Helper()
	for _, d := range deeds {
		var err api.Errno
		if a, err = array.Do(a, d); err != api.OK {
			t.Fatalf("Do(%v) tells %d", d, err)
		}
	}
	return a
}

// begun is an array that has unlike blocks, behind the first writes of a deed, without Mount.
func begun(t *testing.T, d api.Deed, many int) api.Array {
	t.Helper()
	a := unlike().array()
	i, err := array.Plan(a, d)
	if err != api.OK {
		t.Fatalf("Plan(%v) tells %d", d, err)
	}
	return array.Write(a, i, many)
}

// without is a copy of a where the cells of a stripe are none on the disks whose bits mask has.
func without(a api.Array, s int, mask int) api.Array {
	out := array.Own(a)
	for disk := range out.Disks {
		if mask>>disk&1 == 1 {
			out.Disks[disk][s] = nil
		}
	}
	return out
}

// withCell is a copy of a where one cell has these bytes.
func withCell(a api.Array, disk, s int, b []byte) api.Array {
	out := array.Own(a)
	out.Disks[disk][s] = bytes.Clone(b)
	return out
}

// spoilt are bytes that are no cell of that place, made of the one that is.
func spoilt(b []byte, disk, s int) map[string][]byte {
	out := map[string][]byte{
		"nil":              nil,
		"no bytes":         {},
		"one byte":         b[:1],
		"a byte too short": b[:7],
		"a byte too long":  append(bytes.Clone(b), 0),
		"noughts":          make([]byte, 8),
		"a longer cell":    cell.Bytes(disk, s, append(bytes.Clone(b[2:6]), 0)),
		"a shorter cell":   cell.Bytes(disk, s, b[2:5]),
		"of no disk":       cell.Bytes(disk+4, s, b[2:6]),
		"of no stripe":     cell.Bytes(disk, s+3, b[2:6]),
	}
	for step := 1; step < 4; step++ {
		out[fmt.Sprintf("of disk %d on", step)] = cell.Bytes((disk+step)%4, s, b[2:6])
	}
	for step := 1; step < 3; step++ {
		out[fmt.Sprintf("of stripe %d on", step)] = cell.Bytes(disk, (s+step)%3, b[2:6])
	}
	for at := range b {
		turned := bytes.Clone(b)
		turned[at] ^= 1
		out[fmt.Sprintf("byte %d turned", at)] = turned
	}
	return out
}

// noStripes are numbers that are no stripe; the low bits of some are those of one.
func noStripes() []int {
	return []int{math.MinInt, math.MinInt + 1, math.MinInt32, -1 << 32, -256, -255, -4, -3, -2, -1, 3, 4, 5, 8, 9, 12, 255, 256, 257, 258, math.MaxInt32, 1 << 32, 1<<32 + 1, math.MaxInt}
}

// text tells arrays, lists and numbers; nil is told as a list without entries is.
func text(x any) string { return fmt.Sprint(x) }

// mends fails unless Stripe tells this many cells and OK, and a is this behind it.
func mends(t *testing.T, a api.Array, s, many int, want api.Array) {
	t.Helper()
	got, n, err := mend.Stripe(a, s)
	if err != api.OK || n != many || text(got) != text(want) {
		t.Errorf("Stripe(%v, %d) = %v, %d, %d, want %v, %d", a, s, got, n, err, want, many)
	}
}

// mendsNot fails unless Stripe tells this many cells and this error, and a is as it was.
func mendsNot(t *testing.T, a api.Array, s, many int, want api.Errno) {
	t.Helper()
	got, n, err := mend.Stripe(a, s)
	if err != want || n != many || text(got) != text(a) {
		t.Errorf("Stripe(%v, %d) = %v, %d, %d, want as it was, %d, %d", a, s, got, n, err, many, want)
	}
}

// mendsAll fails unless All tells these numbers, and a is this behind it.
func mendsAll(t *testing.T, a api.Array, told []int, want api.Array) {
	t.Helper()
	got, n := mend.All(a)
	if !slices.Equal(n, told) || text(got) != text(want) {
		t.Errorf("All(%v) = %v, %v, want %v, %v", a, got, n, want, told)
	}
}

// isWorst fails unless at most this many cells of a stripe are none.
func isWorst(t *testing.T, a api.Array, want int) {
	t.Helper()
	if got := mend.Worst(a); got != want {
		t.Errorf("Worst(%v) = %d, want %d", a, got, want)
	}
}

// isWell fails unless there is nothing to mend: nothing changes, and noughts are told.
func isWell(t *testing.T, a api.Array) {
	t.Helper()
	for s := range 3 {
		mends(t, a, s, 0, a)
	}
	mendsAll(t, a, []int{0, 0, 0}, a)
	isWorst(t, a, 0)
}

// has fails unless the array has these blocks.
func has(t *testing.T, a api.Array, want whole) {
	t.Helper()
	got, err := array.Blocks(a)
	if err != api.OK || text(got) != text(want.lists()) {
		t.Errorf("Blocks(%v) = %v, %d, want %v", a, got, err, want)
	}
}

// The cells' bytes are written out, so that what should come hangs on no other package.
func TestI1Known(t *testing.T) {
	known := func() api.Array {
		return api.Array{Disks: [][][]byte{
			{{0, 0, 0, 0, 0, 0, 236, 127}, {0, 1, 0, 0, 0, 0, 144, 145}, {0, 2, 0, 0, 0, 0, 52, 163}},
			{{1, 0, 0, 0, 0, 0, 175, 243}, {1, 1, 97, 98, 99, 100, 191, 156}, {1, 2, 0, 0, 0, 0, 248, 8}},
			{{2, 0, 0, 0, 0, 0, 115, 103}, {2, 1, 97, 98, 99, 100, 131, 16}, {2, 2, 0, 0, 0, 0, 187, 124}},
			{{3, 0, 0, 0, 0, 0, 54, 219}, {3, 1, 0, 0, 0, 0, 218, 222}, {3, 2, 0, 0, 0, 0, 126, 240}},
		}}
	}
	isWell(t, known())
	rotten := known()
	rotten.Disks[1][1][3] ^= 1
	isWorst(t, rotten, 1)
	mends(t, rotten, 0, 0, rotten)
	mends(t, rotten, 1, 1, known())
	mends(t, rotten, 2, 0, rotten)
	mendsAll(t, rotten, []int{0, 1, 0}, known())
	rotten.Disks[2][1] = nil
	isWorst(t, rotten, 2)
	mendsNot(t, rotten, 1, 2, api.ErrLost)
	mendsAll(t, rotten, []int{0, 2, 0}, rotten)
}

func TestI1NothingToMend(t *testing.T) {
	isWell(t, array.New())
	isWell(t, unlike().array())
	a := array.New()
	for k := range 60 {
		n := k * 5 % 9
		a = behindDeeds(t, a, write(n, string([]byte{byte(k), byte(7 * k), 0, byte(255 - k)})), swap(n, n-n%3+k%3))
		isWell(t, a)
	}
}

// Whichever cell of a stripe is none, in whatever way: behind it the array is what it was ahead of the harm.
func TestI1AnyOneCell(t *testing.T) {
	for _, w := range []whole{{}, unlike()} {
		for s := range 3 {
			for disk := range 4 {
				for name, b := range spoilt(w.cells(s)[disk], disk, s) {
					t.Run(fmt.Sprintf("disk %d stripe %d %s", disk, s, name), func(t *testing.T) {
						a := withCell(w.array(), disk, s, b)
						isWorst(t, a, 1)
						mends(t, a, s, 1, w.array())
						mended, _, _ := mend.Stripe(a, s)
						has(t, mended, w)
						isWell(t, mended)
						told := []int{0, 0, 0}
						told[s] = 1
						mendsAll(t, a, told, w.array())
						for _, other := range []int{(s + 1) % 3, (s + 2) % 3} {
							mends(t, a, other, 0, a)
						}
					})
				}
			}
		}
	}
}

// A deed between harms is done on what is left, and a mended stripe bears the next harm.
func TestI1HarmBehindMending(t *testing.T) {
	w, a := unlike(), unlike().array()
	for k := range 120 {
		disk, s := k*7%4, k*5%3
		a.Disks[disk][s] = [][]byte{nil, []byte("zap"), make([]byte, 8)}[k%3]
		n, err := 0, api.OK
		if a, n, err = mend.Stripe(a, s); n != 1 || err != api.OK {
			t.Fatalf("harm %d: %d, %d", k, n, err)
		}
		d := write(k*4%9, string([]byte{byte(k), 0, byte(3 * k), 255}))
		w[d.N] = [4]byte(d.Data)
		a = behindDeeds(t, a, d)
		if text(a) != text(w.array()) {
			t.Fatalf("behind harm %d: %v, want %v", k, a, w.array())
		}
	}
}

// However many cells of other stripes are none, in whatever way: these are let be.
func TestI1OtherStripesAreLetBe(t *testing.T) {
	for s := range 3 {
		for disk := range 4 {
			for mask := range 256 {
				rest := without(without(unlike().array(), (s+1)%3, mask&15), (s+2)%3, mask>>4)
				mends(t, without(rest, s, 1<<disk), s, 1, rest)
				mends(t, rest, s, 0, rest)
			}
			for other := range 4 {
				next := (s + 1) % 3
				for _, b := range spoilt(unlike().cells(next)[other], other, next) {
					rest := withCell(unlike().array(), other, next, b)
					mends(t, without(rest, s, 1<<disk), s, 1, rest)
				}
			}
		}
	}
}

// Of each set of a stripe's cells that are none: more than one are told, and let be.
func TestI1EachSetOfCells(t *testing.T) {
	for s := range 3 {
		for mask := range 16 {
			a, many := without(unlike().array(), s, mask), bits.OnesCount(uint(mask))
			isWorst(t, a, many)
			if many > 1 {
				mendsNot(t, a, s, many, api.ErrLost)
			} else {
				mends(t, a, s, many, unlike().array())
			}
		}
	}
}

// What can't be mended keeps each of its bytes: those that are spoilt, too.
func TestI1LostStripesKeepTheirBytes(t *testing.T) {
	for s := range 3 {
		for one := range 4 {
			two := (one + 1) % 4
			for _, b := range spoilt(unlike().cells(s)[one], one, s) {
				a := withCell(withCell(unlike().array(), one, s, b), two, s, []byte("zap"))
				isWorst(t, a, 2)
				mendsNot(t, a, s, 2, api.ErrLost)
				told := []int{0, 0, 0}
				told[s] = 2
				mendsAll(t, a, told, a)
			}
		}
	}
}

// Two cells that changed their places are none, both of them: in one stripe that is too many, in two it is one of each.
func TestI1CellsThatChangedPlaces(t *testing.T) {
	for s := range 3 {
		a := unlike().array()
		a.Disks[0][s], a.Disks[3][s] = a.Disks[3][s], a.Disks[0][s]
		mendsNot(t, a, s, 2, api.ErrLost)
		isWorst(t, a, 2)
		a = unlike().array()
		a.Disks[1][s], a.Disks[1][(s+1)%3] = a.Disks[1][(s+1)%3], a.Disks[1][s]
		isWorst(t, a, 1)
		told := []int{1, 1, 1}
		told[(s+2)%3] = 0
		mendsAll(t, a, told, unlike().array())
	}
}

func TestI1NoSuchStripe(t *testing.T) {
	l := []api.Array{array.New(), unlike().array(), begun(t, swap(3, 4), 3)}
	for mask := range 16 {
		l = append(l, without(unlike().array(), 0, mask), without(unlike().array(), 2, mask))
	}
	for _, a := range l {
		for _, s := range noStripes() {
			mendsNot(t, a, s, 0, api.ErrRange)
		}
	}
	for k := range 600 {
		mendsNot(t, without(unlike().array(), 1, 3), -1-k, 0, api.ErrRange)
		mendsNot(t, without(unlike().array(), 1, 3), 3+k, 0, api.ErrRange)
	}
}

// Of each set of the cells of all stripes: what can be mended is, whatever becomes of the others.
func TestI1AllOfEachSetOfCells(t *testing.T) {
	for sets := range 4096 {
		a, want := unlike().array(), unlike().array()
		told := make([]int, 3)
		for s := range 3 {
			mask := sets >> (4 * s) & 15
			a, told[s] = without(a, s, mask), bits.OnesCount(uint(mask))
			if told[s] > 1 {
				want = without(want, s, mask)
			}
		}
		isWorst(t, a, slices.Max(told))
		mendsAll(t, a, told, want)
		left := slices.Clone(told)
		for s := range left {
			if left[s] == 1 {
				left[s] = 0
			}
		}
		isWorst(t, want, slices.Max(left))
		mendsAll(t, want, left, want)
	}
}

// A disk that is gone is one cell of each stripe; of two no stripe can be mended.
func TestI1DisksThatAreGone(t *testing.T) {
	for one := range 4 {
		a := unlike().array()
		a.Disks[one] = make([][]byte, 3)
		isWorst(t, a, 1)
		mendsAll(t, a, []int{1, 1, 1}, unlike().array())
		for two := range one {
			b := array.Own(a)
			b.Disks[two] = make([][]byte, 3)
			isWorst(t, b, 2)
			mendsAll(t, b, []int{2, 2, 2}, b)
			for s := range 3 {
				mendsNot(t, b, s, 2, api.ErrLost)
			}
		}
	}
}

// All is Stripe of each, in turn.
func TestI1AllIsStripeOfEach(t *testing.T) {
	for _, a := range arrays(t) {
		want := a
		var told []int
		for s := range 3 {
			var n int
			want, n, _ = mend.Stripe(want, s)
			told = append(told, n)
		}
		mendsAll(t, a, told, want)
		isWorst(t, a, slices.Max(told))
	}
}

// Sound cells stay as they are, though the four are not noughts together; one that is none is what the others are.
func TestI1StripesThatAreNotEven(t *testing.T) {
	for s := range 3 {
		for disk := range 4 {
			odd := withCell(unlike().array(), disk, s, cell.Bytes(disk, s, []byte("odd!")))
			isWell(t, odd)
			for gone := range 4 {
				if gone == disk {
					mends(t, without(odd, s, 1<<gone), s, 1, unlike().array())
					continue
				}
				data := unlike().data(s)
				made := together(together(data[gone], data[disk]), [4]byte([]byte("odd!")))
				mends(t, without(odd, s, 1<<gone), s, 1, withCell(odd, gone, s, cell.Bytes(gone, s, made[:])))
			}
		}
	}
}

// What is noted is neither done nor let go.
func TestI1IntentsAreLetBe(t *testing.T) {
	for _, d := range []api.Deed{write(1, "abcd"), swap(3, 5), write(8, "wxyz")} {
		for many := range 6 {
			isWell(t, begun(t, d, many))
		}
		for s := range 3 {
			for mask := range 16 {
				want := begun(t, d, 1)
				a, n := without(want, s, mask), bits.OnesCount(uint(mask))
				told := []int{0, 0, 0}
				told[s] = n
				isWorst(t, a, n)
				if n > 1 {
					mendsNot(t, a, s, n, api.ErrLost)
					mendsAll(t, a, told, a)
				} else {
					mends(t, a, s, n, want)
					mendsAll(t, a, told, want)
				}
			}
		}
	}
}

// arrays are such as steps and Write make: whole ones, some with cells that are none, some with an intent.
func arrays(t *testing.T) []api.Array {
	t.Helper()
	l := []api.Array{array.New(), unlike().array()}
	for s := range 3 {
		for many := range 6 {
			a := begun(t, write(3*s, "abcd"), many)
			l = append(l, a, without(a, s, 1<<(many%4)), without(a, (s+1)%3, many))
		}
		for mask := range 16 {
			l = append(l, without(unlike().array(), s, mask), without(without(unlike().array(), s, mask), (s+1)%3, 8))
		}
		for disk := range 4 {
			for _, b := range spoilt(unlike().cells(s)[disk], disk, s) {
				l = append(l, withCell(unlike().array(), disk, s, b))
			}
		}
	}
	return l
}

// Of arrays of other sizes nothing is said but that no call panics.
func TestZ1NoCallPanics(t *testing.T) {
	l := []api.Array{{}, {Disks: make([][][]byte, 5)}, {Disks: [][][]byte{nil, {nil}, {nil, nil}, make([][]byte, 9)}}, {Intents: make([]api.Intent, 2)}}
	for size := range 6 {
		a, b := unlike().array(), unlike().array()
		a.Disks = append(a.Disks, a.Disks[0])[:size]
		b.Disks[2] = append(b.Disks[2], nil, nil)[:min(size, 5)]
		l = append(l, a, b)
	}
	for _, a := range l {
		for _, s := range noStripes() {
			mendsNot(t, a, s, 0, api.ErrRange)
		}
		for s := range 3 {
			mend.Stripe(a, s)
		}
		mend.All(a)
		mend.Worst(a)
	}
}

func TestZ1AskedAgain(t *testing.T) {
	a := without(without(unlike().array(), 1, 4), 2, 9)
	for range 3 {
		mends(t, a, 1, 1, without(unlike().array(), 2, 9))
		mendsNot(t, a, 2, 2, api.ErrLost)
		mendsNot(t, a, 3, 0, api.ErrRange)
		mendsAll(t, a, []int{0, 1, 2}, without(unlike().array(), 2, 9))
		isWorst(t, a, 2)
	}
}

func TestZ3ListsWithoutEntries(t *testing.T) {
	for s := range 3 {
		for disk := range 4 {
			a := withCell(unlike().array(), disk, s, []byte{})
			a.Intents = []api.Intent{}
			mends(t, a, s, 1, unlike().array())
			isWorst(t, a, 1)
			a.Disks[(disk+1)%4][s] = []byte{}
			mendsNot(t, a, s, 2, api.ErrLost)
			isWorst(t, a, 2)
		}
	}
}

// Beside an error there are how many cells are none, and a as it was; of no such stripe 0, whatever is lost elsewhere.
func TestZ4BesideAnError(t *testing.T) {
	for _, a := range arrays(t) {
		for s := -4; s < 8; s++ {
			got, n, err := mend.Stripe(a, s)
			switch err {
			case api.OK:
				if s < 0 || s > 2 || n > 1 {
					t.Errorf("Stripe(%v, %d) = %d, OK", a, s, n)
				}
				continue
			case api.ErrRange:
				if s >= 0 && s <= 2 || n != 0 {
					t.Errorf("Stripe(%v, %d) = %d, ErrRange", a, s, n)
				}
			case api.ErrLost:
				if n < 2 || n > 4 {
					t.Errorf("Stripe(%v, %d) = %d, ErrLost", a, s, n)
				}
			default:
				t.Errorf("Stripe(%v, %d) tells %d", a, s, err)
			}
			if text(got) != text(a) {
				t.Errorf("Stripe(%v, %d) = %v, want as it was", a, s, got)
			}
		}
	}
}

// roomyCells is a copy of l with spare room behind each entry, and behind the list.
func roomyCells(l [][]byte) [][]byte {
	var out [][]byte
	for _, b := range l {
		out = append(out, append(bytes.Clone(b), "------------"...)[:len(b)])
	}
	return append(out, []byte("behind"), []byte("behind"))[:len(l)]
}

// roomy is a copy of a with spare room behind each of its lists.
func roomy(a api.Array) api.Array {
	var out api.Array
	for _, l := range a.Disks {
		out.Disks = append(out.Disks, roomyCells(l))
	}
	out.Disks = append(out.Disks, [][]byte{[]byte("behind")})[:len(a.Disks)]
	for _, i := range a.Intents {
		out.Intents = append(out.Intents, api.Intent{Stripe: i.Stripe, Cells: roomyCells(i.Cells)})
	}
	out.Intents = append(out.Intents, api.Intent{Stripe: 1, Cells: [][]byte{[]byte("behind")}})[:len(a.Intents)]
	return out
}

// piece is the memory of one list, its spare room too.
type piece struct{ from, to uintptr }

// pieces are the memory of all lists of v, of those in spare room too; tell hears of what each list has, and where.
func pieces(v reflect.Value, tell func(string)) []piece {
	var out []piece
	switch v.Kind() {
	case reflect.Slice:
		tell(fmt.Sprintf("%d of %d at %x: ", v.Len(), v.Cap(), v.Pointer()))
		if size := uintptr(v.Cap()) * v.Type().Elem().Size(); size > 0 {
			out = append(out, piece{v.Pointer(), v.Pointer() + size})
		}
		for k := range v.Cap() {
			out = append(out, pieces(v.Slice(0, v.Cap()).Index(k), tell)...)
		}
	case reflect.Struct:
		for k := range v.NumField() {
			out = append(out, pieces(v.Field(k), tell)...)
		}
	default:
		tell(fmt.Sprint(v.Interface(), " "))
	}
	return out
}

// memory are the pieces of what is answered or handed in, and a text of all that is in them.
func memory(l []any) ([]piece, string) {
	var all strings.Builder
	var out []piece
	for _, x := range l {
		out = append(out, pieces(reflect.ValueOf(x), func(s string) { all.WriteString(s) })...)
	}
	return out, all.String()
}

// isApart fails if two of these pieces share memory.
func isApart(t *testing.T, name string, l []piece) {
	t.Helper()
	slices.SortFunc(l, func(a, b piece) int {
		if a.from < b.from {
			return -1
		}
		return 1
	})
	for k := 1; k < len(l); k++ {
		if l[k].from < l[k-1].to {
			t.Errorf("%s: memory is shared", name)
			return
		}
	}
}

// isClean fails if the call changes what it is handed, or if an answer shares memory with that, with another answer, or within itself.
func isClean(t *testing.T, name string, handed api.Array, call func() []any) {
	t.Helper()
	in, was := memory([]any{handed})
	first, second := call(), call()
	if _, is := memory([]any{handed}); is != was {
		t.Errorf("%s: what was handed in became %s, was %s", name, is, was)
	}
	if text(first) != text(second) {
		t.Errorf("%s: answers %v, and then %v", name, first, second)
	}
	out, _ := memory(slices.Concat(first, second))
	isApart(t, name, slices.Concat(in, out))
}

func TestZ2ArraysAreOnlyRead(t *testing.T) {
	for _, was := range arrays(t) {
		a := roomy(was)
		isClean(t, "All", a, func() []any { x, l := mend.All(a); return []any{x, l} })
		isClean(t, "Worst", a, func() []any { return []any{mend.Worst(a)} })
		for s := -1; s < 4; s++ {
			isClean(t, "Stripe", a, func() []any { x, n, err := mend.Stripe(a, s); return []any{x, n, err} })
		}
	}
}

// What stands behind a list is not looked at.
func TestZ2SpareRoomIsNotLookedAt(t *testing.T) {
	for _, was := range arrays(t) {
		a := roomy(was)
		want, told := mend.All(was)
		mendsAll(t, a, told, want)
		isWorst(t, a, mend.Worst(was))
		for s := -1; s < 4; s++ {
			x, n, err := mend.Stripe(a, s)
			y, m, also := mend.Stripe(was, s)
			if text(x) != text(y) || n != m || err != also {
				t.Errorf("Stripe(%v, %d) = %v, %d, %d, want %v, %d, %d", was, s, x, n, err, y, m, also)
			}
		}
	}
	a := unlike().array()
	a.Disks[0][0] = a.Disks[0][0][:7]
	isWorst(t, a, 1)
	mends(t, a, 0, 1, unlike().array())
	a.Disks[3][0] = a.Disks[3][0][:0]
	isWorst(t, a, 2)
	mendsNot(t, a, 0, 2, api.ErrLost)
}

// One list at all places: the answer has one of its own at each.
func TestZ2OneListAtAllPlaces(t *testing.T) {
	c := []byte("abcdefgh")
	l := [][]byte{c, c, c}
	a := api.Array{Disks: [][][]byte{l, l, l, l}, Intents: []api.Intent{{Stripe: 1, Cells: [][]byte{c, c, c, c}}}}
	for s := -1; s < 4; s++ {
		x, _, _ := mend.Stripe(a, s)
		out, _ := memory([]any{x, c})
		isApart(t, "Stripe", out)
	}
	x, told := mend.All(a)
	out, _ := memory([]any{x, told, c})
	isApart(t, "All", out)
	if string(c) != "abcdefgh" {
		t.Errorf("what was handed in became %q", c)
	}
}

// The tests' own numbers stand for the limits: that they are so is seen here.
func TestI1Limits(t *testing.T) {
	if api.MaxDisks != 4 || api.MaxStripes != 3 || api.MaxBlocks != 9 || api.BlockSize != 4 || api.CellSize != 8 {
		t.Errorf("limits are %d disks, %d stripes, %d blocks, %d and %d bytes", api.MaxDisks, api.MaxStripes, api.MaxBlocks, api.BlockSize, api.CellSize)
	}
}
