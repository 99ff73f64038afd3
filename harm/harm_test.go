package harm_test

import (
	"bytes"
	"fmt"
	"math"
	"reflect"
	"slices"
	"strings"
	"testing"

	"mirrorheal/api"
	"mirrorheal/array"
	"mirrorheal/cell"
	"mirrorheal/harm"
	"mirrorheal/mend"
)

// layout are the blocks by stripes and disks, written out; -1 is on the spare disk.
func layout() [3][4]int {
	return [3][4]int{{0, 1, 2, -1}, {3, 4, -1, 5}, {6, -1, 7, 8}}
}

// whole are all blocks as a value, so that what should come is worked out without a list that could be shared.
type whole [9][4]byte

// lists is w as a list of blocks.
func (w whole) lists() [][]byte {
	var l [][]byte
	for _, b := range w {
		l = append(l, bytes.Clone(b[:]))
	}
	return l
}

// cells are those of a stripe that has w, by disks.
func (w whole) cells(s int) [][]byte {
	var spare [4]byte
	for _, block := range layout()[s] {
		if block >= 0 {
			spare = together(spare, w[block])
		}
	}
	var l [][]byte
	for disk, block := range layout()[s] {
		data := spare
		if block >= 0 {
			data = w[block]
		}
		l = append(l, cell.Bytes(disk, s, data[:]))
	}
	return l
}

// array is one that has w, without Intents.
func (w whole) array() api.Array {
	a := api.Array{Disks: make([][][]byte, 4)}
	for s := range 3 {
		for disk, b := range w.cells(s) {
			a.Disks[disk] = append(a.Disks[disk], b)
		}
	}
	return a
}

func together(a, b [4]byte) [4]byte {
	for k := range a {
		a[k] ^= b[k]
	}
	return a
}

// unlike are blocks each of which is another one, as is each byte.
func unlike() whole {
	var w whole
	for k := range w {
		for at := range w[k] {
			w[k][at] = byte(17*k + 53*at + 1)
		}
	}
	return w
}

func write(n int, data string) api.Deed {
	return api.Deed{Kind: api.DeedWrite, N: n, Data: []byte(data)}
}

func swap(n, m int) api.Deed {
	return api.Deed{Kind: api.DeedSwap, N: n, M: m}
}

// behindDeeds is a behind these deeds.
func behindDeeds(t *testing.T, a api.Array, deeds ...api.Deed) api.Array {
	t.Helper()
	for _, d := range deeds {
		var err api.Errno
		if a, err = array.Do(a, d); err != api.OK {
			t.Fatalf("Do(%v) tells %d", d, err)
		}
	}
	return a
}

// begun is an array that has unlike blocks, behind the first writes of a deed, without Mount.
func begun(t *testing.T, d api.Deed, many int) api.Array {
	t.Helper()
	a := unlike().array()
	i, err := array.Plan(a, d)
	if err != api.OK {
		t.Fatalf("Plan(%v) tells %d", d, err)
	}
	return array.Write(a, i, many)
}

// withCell is a copy of a where one cell has these bytes.
func withCell(a api.Array, disk, s int, b []byte) api.Array {
	out := array.Own(a)
	out.Disks[disk][s] = bytes.Clone(b)
	return out
}

// withoutDisk is a copy of a where none of a disk's cells has bytes.
func withoutDisk(a api.Array, disk int) api.Array {
	out := array.Own(a)
	out.Disks[disk] = make([][]byte, 3)
	return out
}

// turned is b where the lowest bit of a byte is turned, worked out by what it is rather than by xor.
func turned(b []byte, at int) []byte {
	out := bytes.Clone(b)
	if out[at]%2 == 0 {
		out[at]++
	} else {
		out[at]--
	}
	return out
}

// spoilt are bytes that are no cell of that place, made of the one that is; all but the first two have some.
func spoilt(b []byte, disk, s int) [][]byte {
	l := [][]byte{
		nil,
		{},
		b[:1],
		b[:7],
		append(bytes.Clone(b), 0),
		make([]byte, 8),
		bytes.Repeat([]byte{255}, 20),
		cell.Bytes((disk+1)%4, s, b[2:6]),
		cell.Bytes(disk, (s+1)%3, b[2:6]),
		cell.Bytes(disk+4, s, b[2:6]),
	}
	for at := range b {
		l = append(l, turned(b, at))
	}
	return l
}

// noDisks are numbers that are no disk; the low bits of some are those of one.
func noDisks() []int {
	return []int{math.MinInt, math.MinInt + 1, math.MinInt32, -1 << 32, -256, -255, -12, -5, -4, -3, -2, -1, 4, 5, 6, 7, 8, 11, 12, 255, 256, 257, math.MaxInt32, 1 << 32, 1<<32 + 1, math.MaxInt}
}

// noStripes are numbers that are no stripe.
func noStripes() []int {
	return append(noDisks(), 3)
}

// noBytes are numbers that are no byte of a cell of eight.
func noBytes() []int {
	return []int{math.MinInt, math.MinInt + 1, math.MinInt32, -1 << 32, -256, -255, -9, -8, -7, -2, -1, 8, 9, 10, 15, 16, 255, 256, 257, math.MaxInt32, 1 << 32, 1<<32 + 1, math.MaxInt}
}

// text tells arrays, lists and numbers; nil is told as a list without entries is.
func text(x any) string { return fmt.Sprint(x) }

// rots fails unless Rot tells OK, and a is this behind it; it is what Rot made.
func rots(t *testing.T, a api.Array, disk, s, at int, want api.Array) api.Array {
	t.Helper()
	got, err := harm.Rot(a, disk, s, at)
	if err != api.OK || text(got) != text(want) {
		t.Errorf("Rot(%v, %d, %d, %d) = %v, %d, want %v", a, disk, s, at, got, err, want)
	}
	return got
}

// rotsNot fails unless Rot tells ErrNone, and a is as it was.
func rotsNot(t *testing.T, a api.Array, disk, s, at int) {
	t.Helper()
	got, err := harm.Rot(a, disk, s, at)
	if err != api.ErrNone || text(got) != text(a) {
		t.Errorf("Rot(%v, %d, %d, %d) = %v, %d, want as it was, ErrNone", a, disk, s, at, got, err)
	}
}

// goes fails unless Gone tells OK, and a is this behind it; it is what Gone made.
func goes(t *testing.T, a api.Array, disk int, want api.Array) api.Array {
	t.Helper()
	got, err := harm.Gone(a, disk)
	if err != api.OK || text(got) != text(want) {
		t.Errorf("Gone(%v, %d) = %v, %d, want %v", a, disk, got, err, want)
	}
	return got
}

// goesNot fails unless Gone tells ErrNone, and a is as it was.
func goesNot(t *testing.T, a api.Array, disk int) {
	t.Helper()
	got, err := harm.Gone(a, disk)
	if err != api.ErrNone || text(got) != text(a) {
		t.Errorf("Gone(%v, %d) = %v, %d, want as it was, ErrNone", a, disk, got, err)
	}
}

// has fails unless the array has these blocks.
func has(t *testing.T, a api.Array, want whole) {
	t.Helper()
	got, err := array.Blocks(a)
	if err != api.OK || text(got) != text(want.lists()) {
		t.Errorf("Blocks(%v) = %v, %d, want %v", a, got, err, want)
	}
}

// isMended fails unless mending makes this of a, and tells how many cells of each stripe were none.
func isMended(t *testing.T, a api.Array, told []int, want api.Array) {
	t.Helper()
	got, n := mend.All(a)
	if !slices.Equal(n, told) || text(got) != text(want) {
		t.Errorf("All(%v) = %v, %v, want %v, %v", a, got, n, want, told)
	}
}

// arrays are such as steps and Write make: whole ones, some with an intent, some with cells that are none.
func arrays(t *testing.T) []api.Array {
	t.Helper()
	w := unlike()
	l := []api.Array{
		array.New(),
		w.array(),
		behindDeeds(t, array.New(), write(4, "abcd"), swap(4, 5), write(0, "\xff\xfe\x01\x00"), write(8, "wxyz")),
	}
	for many := range 7 {
		l = append(l, begun(t, write(3*(many%3), "abcd"), many), withoutDisk(begun(t, swap(3, 5), many), many%4))
	}
	for disk := range 4 {
		s := disk % 3
		rotten := withCell(w.array(), disk, s, turned(w.cells(s)[disk], 2*disk))
		l = append(l, withoutDisk(w.array(), disk), withoutDisk(withoutDisk(w.array(), disk), (disk+1)%4), rotten, withoutDisk(rotten, (disk+2)%4))
	}
	return l
}

// The cells' bytes are written out, so that what should come hangs on no other package.
func TestJ1Known(t *testing.T) {
	known := func() api.Array {
		return api.Array{Disks: [][][]byte{
			{{0, 0, 0, 0, 0, 0, 236, 127}, {0, 1, 0, 0, 0, 0, 144, 145}, {0, 2, 0, 0, 0, 0, 52, 163}},
			{{1, 0, 0, 0, 0, 0, 175, 243}, {1, 1, 97, 98, 99, 100, 191, 156}, {1, 2, 0, 0, 0, 0, 248, 8}},
			{{2, 0, 0, 0, 0, 0, 115, 103}, {2, 1, 97, 98, 99, 100, 131, 16}, {2, 2, 0, 0, 0, 0, 187, 124}},
			{{3, 0, 0, 0, 0, 0, 54, 219}, {3, 1, 0, 0, 0, 0, 218, 222}, {3, 2, 0, 0, 0, 0, 126, 240}},
		}}
	}
	rots(t, known(), 1, 1, 2, withCell(known(), 1, 1, []byte{1, 1, 96, 98, 99, 100, 191, 156}))
	rots(t, known(), 1, 1, 3, withCell(known(), 1, 1, []byte{1, 1, 97, 99, 99, 100, 191, 156}))
	rots(t, known(), 0, 0, 0, withCell(known(), 0, 0, []byte{1, 0, 0, 0, 0, 0, 236, 127}))
	rots(t, known(), 0, 0, 7, withCell(known(), 0, 0, []byte{0, 0, 0, 0, 0, 0, 236, 126}))
	rots(t, known(), 3, 2, 0, withCell(known(), 3, 2, []byte{2, 2, 0, 0, 0, 0, 126, 240}))
	rots(t, known(), 3, 2, 7, withCell(known(), 3, 2, []byte{3, 2, 0, 0, 0, 0, 126, 241}))
	rotsNot(t, known(), 4, 2, 0)
	rotsNot(t, known(), 3, 3, 0)
	rotsNot(t, known(), 3, 2, 8)
	for disk := range 4 {
		want := known()
		want.Disks[disk] = [][]byte{{}, {}, {}}
		gone := goes(t, known(), disk, want)
		rotsNot(t, gone, disk, 1, 0)
	}
	goesNot(t, known(), -1)
	goesNot(t, known(), 4)
}

// Each byte of each cell: of no other byte, and of no other cell, anything changes; turned twice it is as it was.
func TestJ1RotOfEachByte(t *testing.T) {
	for _, a := range arrays(t) {
		for disk := range 4 {
			for s := range 3 {
				b := a.Disks[disk][s]
				for at := range b {
					got := rots(t, a, disk, s, at, withCell(a, disk, s, turned(b, at)))
					rots(t, got, disk, s, at, a)
				}
				for _, at := range []int{-1, len(b), len(b) + 1} {
					rotsNot(t, a, disk, s, at)
				}
			}
		}
	}
}

// The lowest bit is turned, be it set or not, and no other one, whatever the byte is.
func TestJ1RotOfEachValue(t *testing.T) {
	for value := range 256 {
		for at := range 8 {
			b := bytes.Repeat([]byte{byte(value)}, 8)
			a := withCell(unlike().array(), 2, 1, b)
			got := rots(t, a, 2, 1, at, withCell(a, 2, 1, turned(b, at)))
			rots(t, got, 2, 1, at, a)
		}
	}
}

// A cell that is none rots as any other one does, as far as it has bytes.
func TestJ1RotOfCellsThatAreNone(t *testing.T) {
	for disk := range 4 {
		for s := range 3 {
			for _, b := range spoilt(unlike().cells(s)[disk], disk, s) {
				a := withCell(unlike().array(), disk, s, b)
				for at := range b {
					got := rots(t, a, disk, s, at, withCell(a, disk, s, turned(b, at)))
					rots(t, got, disk, s, at, a)
				}
				for _, at := range []int{math.MinInt, -len(b) - 1, -len(b), -1, len(b), len(b) + 1, 20, 256, math.MaxInt} {
					if at < 0 || at >= len(b) {
						rotsNot(t, a, disk, s, at)
					}
				}
			}
		}
	}
}

// Rot behind rot: each byte that rotted an odd number of times is another one, wherever it stands.
func TestJ1RotBehindRot(t *testing.T) {
	a, want := unlike().array(), unlike().array()
	for k := range 500 {
		disk, s, at := k*k%4, k*7%3, (k*5+k/24)%8
		want.Disks[disk][s] = turned(want.Disks[disk][s], at)
		a = rots(t, a, disk, s, at, want)
	}
	for k := range 500 {
		disk, s, at := k*k%4, k*7%3, (k*5+k/24)%8
		want.Disks[disk][s] = turned(want.Disks[disk][s], at)
		a = rots(t, a, disk, s, at, want)
	}
	if text(a) != text(unlike().array()) {
		t.Errorf("each byte turned twice: %v", a)
	}
}

func TestJ1NoSuchPlace(t *testing.T) {
	for _, a := range arrays(t) {
		for _, at := range []int{-1, 0, 3, 7, 8, math.MaxInt} {
			for _, disk := range noDisks() {
				for s := range 3 {
					rotsNot(t, a, disk, s, at)
				}
				rotsNot(t, a, disk, -1, at)
				rotsNot(t, a, disk, 3, at)
			}
			for _, s := range noStripes() {
				for disk := range 4 {
					rotsNot(t, a, disk, s, at)
				}
			}
		}
	}
	for k := range 600 {
		rotsNot(t, unlike().array(), 4+k, k%3, k%8)
		rotsNot(t, unlike().array(), -1-k, k%3, k%8)
		rotsNot(t, unlike().array(), k%4, 3+k, k%8)
		rotsNot(t, unlike().array(), k%4, -1-k, k%8)
	}
}

func TestJ1NoSuchByte(t *testing.T) {
	for _, a := range arrays(t) {
		for disk := range 4 {
			for s := range 3 {
				for _, at := range noBytes() {
					rotsNot(t, a, disk, s, at)
				}
			}
		}
	}
}

func TestJ1NoByteOfACellWithoutBytes(t *testing.T) {
	for disk := range 4 {
		for s := range 3 {
			for _, b := range [][]byte{nil, {}} {
				a := withCell(unlike().array(), disk, s, b)
				for at := -9; at < 17; at++ {
					rotsNot(t, a, disk, s, at)
					rotsNot(t, goes(t, a, disk, withoutDisk(a, disk)), disk, (s+1)%3, at)
				}
				for _, at := range noBytes() {
					rotsNot(t, a, disk, s, at)
				}
				next := (disk + 1) % 4
				rots(t, a, next, s, 0, withCell(a, next, s, turned(a.Disks[next][s], 0)))
			}
		}
	}
}

// A disk that is gone is another one, of as many cells, none of which has bytes; no other disk's cell changes.
func TestJ1GoneOfEachDisk(t *testing.T) {
	for _, a := range arrays(t) {
		for disk := range 4 {
			want := withoutDisk(a, disk)
			gone := goes(t, a, disk, want)
			if len(gone.Disks) != 4 || len(gone.Disks[disk]) != 3 {
				t.Fatalf("Gone(%v, %d) = %v", a, disk, gone)
			}
			goes(t, gone, disk, want)
			for s := range 3 {
				if b := gone.Disks[disk][s]; len(b) != 0 {
					t.Errorf("behind Gone(%v, %d) stripe %d has %v", a, disk, s, b)
				}
				if _, err := cell.Read(gone.Disks[disk][s], disk, s); err != api.ErrSum {
					t.Errorf("behind Gone(%v, %d) the cell of stripe %d tells %d", a, disk, s, err)
				}
				rotsNot(t, gone, disk, s, 0)
			}
			for other := range 4 {
				goes(t, gone, other, withoutDisk(want, other))
			}
		}
	}
}

// However the cells of a disk were spoilt: behind it they have no bytes.
func TestJ1GoneOfCellsThatAreNone(t *testing.T) {
	for disk := range 4 {
		for s := range 3 {
			for _, b := range spoilt(unlike().cells(s)[disk], disk, s) {
				a := withCell(unlike().array(), disk, s, b)
				goes(t, a, disk, withoutDisk(unlike().array(), disk))
				other := (disk + 3) % 4
				goes(t, a, other, withoutDisk(a, other))
			}
		}
	}
}

func TestJ1NoSuchDisk(t *testing.T) {
	for _, a := range arrays(t) {
		for _, disk := range noDisks() {
			goesNot(t, a, disk)
		}
	}
	for k := range 600 {
		goesNot(t, unlike().array(), 4+k)
		goesNot(t, unlike().array(), -1-k)
	}
}

// One harm is no loss: all blocks are what they were, and mended the array is, too.
func TestJ1OneHarmIsNoLoss(t *testing.T) {
	for _, w := range []whole{{}, unlike()} {
		for disk := range 4 {
			for s := range 3 {
				for at := range 8 {
					rotten, err := harm.Rot(w.array(), disk, s, at)
					if err != api.OK {
						t.Fatalf("Rot(%d, %d, %d) tells %d", disk, s, at, err)
					}
					told := []int{0, 0, 0}
					told[s] = 1
					has(t, rotten, w)
					isMended(t, rotten, told, w.array())
				}
			}
			gone, err := harm.Gone(w.array(), disk)
			if err != api.OK {
				t.Fatalf("Gone(%d) tells %d", disk, err)
			}
			has(t, gone, w)
			isMended(t, gone, []int{1, 1, 1}, w.array())
		}
	}
}

// Rot of a disk that goes is one harm; of another disk's cell it is one too many.
func TestJ1TwoHarms(t *testing.T) {
	w := unlike()
	for disk := range 4 {
		for other := range 4 {
			for s := range 3 {
				rotten := rots(t, w.array(), disk, s, 5, withCell(w.array(), disk, s, turned(w.cells(s)[disk], 5)))
				gone := goes(t, rotten, other, withoutDisk(rotten, other))
				if disk == other {
					has(t, gone, w)
					isMended(t, gone, []int{1, 1, 1}, w.array())
					continue
				}
				told := []int{1, 1, 1}
				told[s] = 2
				want := withCell(withCell(w.array(), disk, s, rotten.Disks[disk][s]), other, s, nil)
				isMended(t, gone, told, want)
			}
		}
	}
}

// Deeds and mending between harms: what was there stays there, and the next harm is of sound cells.
func TestJ1HarmBehindDeedsAndMending(t *testing.T) {
	w, a := unlike(), unlike().array()
	for k := range 120 {
		disk, s, at := k*7%4, k*5%3, k*11%8
		if k%3 == 0 {
			a = goes(t, a, disk, withoutDisk(a, disk))
		} else {
			a = rots(t, a, disk, s, at, withCell(a, disk, s, turned(a.Disks[disk][s], at)))
		}
		has(t, a, w)
		d := write(k*4%9, string([]byte{byte(k), 0, byte(3 * k), 255}))
		w[d.N] = [4]byte(d.Data)
		a = behindDeeds(t, a, d)
		has(t, a, w)
		a, _ = mend.All(a)
		if text(a) != text(w.array()) {
			t.Fatalf("behind harm %d: %v, want %v", k, a, w.array())
		}
	}
}

// What is noted does not rot, nor does it go with a disk: done when all starts anew, it heals the harm.
func TestJ1IntentsAreLetBe(t *testing.T) {
	w := unlike()
	w[4] = [4]byte([]byte("abcd"))
	for many := 1; many < 6; many++ {
		for disk := range 4 {
			for at := range 8 {
				a := begun(t, write(4, "abcd"), many)
				rotten := rots(t, a, disk, 1, at, withCell(a, disk, 1, turned(a.Disks[disk][1], at)))
				has(t, array.Mount(rotten), w)
			}
			a := begun(t, write(4, "abcd"), many)
			gone := goes(t, a, disk, withoutDisk(a, disk))
			has(t, array.Mount(gone), w)
			if len(gone.Intents) != 1 || text(gone.Intents) != text(a.Intents) {
				t.Errorf("behind Gone(%v, %d) there is noted %v", a, disk, gone.Intents)
			}
		}
	}
}

// Of arrays of other sizes nothing is said but that no call panics.
func TestZ1NoCallPanics(t *testing.T) {
	l := []api.Array{{}, {Disks: make([][][]byte, 5)}, {Disks: [][][]byte{nil, {nil}, {nil, nil}, make([][]byte, 9)}}, {Intents: make([]api.Intent, 2)}}
	for size := range 6 {
		a, b := unlike().array(), unlike().array()
		a.Disks = append(a.Disks, a.Disks[0])[:size]
		b.Disks[2] = append(b.Disks[2], nil, []byte("zapzapza"))[:min(size, 5)]
		l = append(l, a, b)
	}
	for _, a := range l {
		for _, disk := range append(noDisks(), 0, 1, 2, 3) {
			harm.Gone(a, disk)
			for _, s := range append(noStripes(), 0, 1, 2) {
				for _, at := range append(noBytes(), 0, 7) {
					harm.Rot(a, disk, s, at)
				}
			}
		}
	}
}

// Beyond the limits there is no place, even if the array has a cell there.
func TestJ1PlacesBeyondTheLimits(t *testing.T) {
	a := unlike().array()
	for disk := range a.Disks {
		a.Disks[disk] = append(a.Disks[disk], []byte("abcdefgh"))
	}
	a.Disks = append(a.Disks, [][]byte{[]byte("abcdefgh"), []byte("abcdefgh"), []byte("abcdefgh")})
	for disk := range 4 {
		rotsNot(t, a, disk, 3, 0)
	}
	for s := range 4 {
		rotsNot(t, a, 4, s, 0)
	}
	goesNot(t, a, 4)
}

func TestZ1AskedAgain(t *testing.T) {
	a := unlike().array()
	for range 3 {
		rots(t, a, 3, 2, 7, withCell(a, 3, 2, turned(a.Disks[3][2], 7)))
		rotsNot(t, a, 3, 2, 8)
		goes(t, a, 3, withoutDisk(a, 3))
		goesNot(t, a, 4)
	}
}

func TestZ3ListsWithoutEntries(t *testing.T) {
	a := unlike().array()
	a.Intents = []api.Intent{}
	rots(t, a, 0, 1, 2, withCell(unlike().array(), 0, 1, turned(a.Disks[0][1], 2)))
	goes(t, a, 0, withoutDisk(unlike().array(), 0))
	a.Disks[2] = [][]byte{{}, {}, {}}
	for s := range 3 {
		rotsNot(t, a, 2, s, 0)
	}
	goes(t, a, 2, withoutDisk(unlike().array(), 2))
}

// Beside an error the array is as it was, whatever else of it is none; there is no other error than ErrNone.
func TestZ4BesideAnError(t *testing.T) {
	for _, a := range arrays(t) {
		for disk := -2; disk < 6; disk++ {
			there := disk >= 0 && disk < 4
			if !there {
				goesNot(t, a, disk)
			}
			for s := -2; s < 5; s++ {
				for at := -2; at < 10; at++ {
					if !there || s < 0 || s > 2 || at < 0 || at >= len(a.Disks[disk][s]) {
						rotsNot(t, a, disk, s, at)
					}
				}
			}
		}
	}
}

// roomyCells is a copy of l with spare room behind each entry, and behind the list.
func roomyCells(l [][]byte) [][]byte {
	var out [][]byte
	for _, b := range l {
		out = append(out, append(bytes.Clone(b), "------------"...)[:len(b)])
	}
	return append(out, []byte("behind"), []byte("behind"))[:len(l)]
}

// roomy is a copy of a with spare room behind each of its lists.
func roomy(a api.Array) api.Array {
	var out api.Array
	for _, l := range a.Disks {
		out.Disks = append(out.Disks, roomyCells(l))
	}
	out.Disks = append(out.Disks, [][]byte{[]byte("behind")})[:len(a.Disks)]
	for _, i := range a.Intents {
		out.Intents = append(out.Intents, api.Intent{Stripe: i.Stripe, Cells: roomyCells(i.Cells)})
	}
	out.Intents = append(out.Intents, api.Intent{Stripe: 1, Cells: [][]byte{[]byte("behind")}})[:len(a.Intents)]
	return out
}

// piece is the memory of one list, its spare room too.
type piece struct{ from, to uintptr }

// pieces are the memory of all lists of v, of those in spare room too; tell hears of what each list has, and where.
func pieces(v reflect.Value, tell func(string)) []piece {
	var out []piece
	switch v.Kind() {
	case reflect.Slice:
		tell(fmt.Sprintf("%d of %d at %x: ", v.Len(), v.Cap(), v.Pointer()))
		if size := uintptr(v.Cap()) * v.Type().Elem().Size(); size > 0 {
			out = append(out, piece{v.Pointer(), v.Pointer() + size})
		}
		for k := range v.Cap() {
			out = append(out, pieces(v.Slice(0, v.Cap()).Index(k), tell)...)
		}
	case reflect.Struct:
		for k := range v.NumField() {
			out = append(out, pieces(v.Field(k), tell)...)
		}
	default:
		tell(fmt.Sprint(v.Interface(), " "))
	}
	return out
}

// memory are the pieces of what is answered or handed in, and a text of all that is in them.
func memory(l []any) ([]piece, string) {
	var all strings.Builder
	var out []piece
	for _, x := range l {
		out = append(out, pieces(reflect.ValueOf(x), func(s string) { all.WriteString(s) })...)
	}
	return out, all.String()
}

// isApart fails if two of these pieces share memory.
func isApart(t *testing.T, name string, l []piece) {
	t.Helper()
	slices.SortFunc(l, func(a, b piece) int {
		if a.from < b.from {
			return -1
		}
		return 1
	})
	for k := 1; k < len(l); k++ {
		if l[k].from < l[k-1].to {
			t.Errorf("%s: memory is shared", name)
			return
		}
	}
}

// isClean fails if the call changes what it is handed, or if an answer shares memory with that, with another answer, or within itself.
func isClean(t *testing.T, name string, handed api.Array, call func() (api.Array, api.Errno)) {
	t.Helper()
	in, was := memory([]any{handed})
	first, err := call()
	second, again := call()
	if _, is := memory([]any{handed}); is != was {
		t.Errorf("%s: what was handed in became %s, was %s", name, is, was)
	}
	if err != again || text(first) != text(second) {
		t.Errorf("%s: answers %v, %d, and then %v, %d", name, first, err, second, again)
	}
	out, _ := memory([]any{first, second})
	isApart(t, name, slices.Concat(in, out))
}

func TestZ2ArraysAreOnlyRead(t *testing.T) {
	for _, was := range arrays(t) {
		a := roomy(was)
		for disk := -1; disk < 5; disk++ {
			isClean(t, "Gone", a, func() (api.Array, api.Errno) { return harm.Gone(a, disk) })
			for s := -1; s < 4; s++ {
				for _, at := range []int{-1, 0, 7, 8} {
					isClean(t, "Rot", a, func() (api.Array, api.Errno) { return harm.Rot(a, disk, s, at) })
				}
			}
		}
	}
}

// What stands behind a list is not looked at: a byte in the spare room is none.
func TestZ2SpareRoomIsNotLookedAt(t *testing.T) {
	for _, was := range arrays(t) {
		a := roomy(was)
		for disk := range 4 {
			goes(t, a, disk, withoutDisk(was, disk))
			for s := range 3 {
				b := was.Disks[disk][s]
				for at := range b {
					rots(t, a, disk, s, at, withCell(was, disk, s, turned(b, at)))
				}
				for at := len(b); at < len(b)+12; at++ {
					rotsNot(t, a, disk, s, at)
				}
			}
			rotsNot(t, a, disk, 3, 0)
		}
		rotsNot(t, a, 4, 0, 0)
		goesNot(t, a, 4)
	}
}

// One list at all places: rot is of one of them alone, and the answer has a list of its own at each.
func TestZ2OneListAtAllPlaces(t *testing.T) {
	c := []byte("abcdefgh")
	l := [][]byte{c, c, c}
	a := api.Array{Disks: [][][]byte{l, l, l, l}, Intents: []api.Intent{{Stripe: 1, Cells: [][]byte{c, c, c, c}}}}
	apart := array.Own(a)
	for disk := range 4 {
		out, _ := memory([]any{goes(t, a, disk, withoutDisk(apart, disk)), c})
		isApart(t, "Gone", out)
		for s := range 3 {
			for at := range 8 {
				out, _ := memory([]any{rots(t, a, disk, s, at, withCell(apart, disk, s, turned(c, at))), c})
				isApart(t, "Rot", out)
			}
		}
	}
	if string(c) != "abcdefgh" {
		t.Errorf("what was handed in became %q", c)
	}
}

// The tests' own numbers stand for the limits: that they are so is seen here.
func TestJ1Limits(t *testing.T) {
	if api.MaxDisks != 4 || api.MaxStripes != 3 || api.MaxBlocks != 9 || api.BlockSize != 4 || api.CellSize != 8 {
		t.Errorf("limits are %d disks, %d stripes, %d blocks, %d and %d bytes", api.MaxDisks, api.MaxStripes, api.MaxBlocks, api.BlockSize, api.CellSize)
	}
}
