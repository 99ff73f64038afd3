package stripe_test

import (
	"bytes"
	"fmt"
	"math"
	"slices"
	"testing"

	"mirrorheal/api"
	"mirrorheal/cell"
	"mirrorheal/stripe"
)

// four are a stripe's blocks as a value, so that what should come is worked out without a list that could be shared.
type four [4][4]byte

// lists is f as a list of blocks, each with memory of its own.
func (f four) lists() [][]byte {
	var l [][]byte
	for _, b := range f {
		l = append(l, bytes.Clone(b[:]))
	}
	return l
}

// healed is f where the block of that disk is what the others are together.
func (f four) healed(disk int) four {
	var together [4]byte
	for other, b := range f {
		if other == disk {
			continue
		}
		for k := range b {
			together[k] ^= b[k]
		}
	}
	f[disk] = together
	return f
}

// plain are blocks each of which is another one, and that are not noughts together.
func plain() four {
	return four{{1, 2, 3, 4}, {5, 6, 7, 8}, {9, 10, 11, 12}, {200, 0, 254, 1}}
}

// stripes are blocks of which each is what the three others are together: three of them and their xor, on each disk.
func stripes() []four {
	var l []four
	for spare := range 4 {
		l = append(l, plain().healed(spare),
			four{{97, 98, 99, 100}, {255, 0, 254, 1}, {128, 64, 32, 16}, {0, 0, 0, 9}}.healed(spare))
	}
	return append(l, four{}, four{{255, 255, 255, 255}, {255, 255, 255, 255}}, four{{7, 7, 7, 7}, {7, 7, 7, 7}, {7, 7, 7, 7}, {7, 7, 7, 7}})
}

// cells are those of f, made one by one.
func cells(f four, s int) [][]byte {
	var l [][]byte
	for disk, b := range f {
		l = append(l, cell.Bytes(disk, s, b[:]))
	}
	return l
}

// without is l where the cells of these disks have no bytes.
func without(l [][]byte, disks ...int) [][]byte {
	out := slices.Clone(l)
	for _, disk := range disks {
		out[disk] = nil
	}
	return out
}

// same tells whether two lists have the same bytes, entry by entry.
func same(a, b [][]byte) bool {
	return slices.EqualFunc(a, b, bytes.Equal)
}

// isBad fails unless these disks' cells, and no other ones, are none.
func isBad(t *testing.T, l [][]byte, s int, want ...int) {
	t.Helper()
	if got := stripe.Bad(l, s); !slices.Equal(got, want) {
		t.Errorf("Bad(%v, %d) = %v, want %v", l, s, got, want)
	}
}

// hasData fails unless the cells have these blocks.
func hasData(t *testing.T, l [][]byte, s int, want four) {
	t.Helper()
	got, err := stripe.Data(l, s)
	if err != api.OK || !same(got, want.lists()) {
		t.Errorf("Data(%v, %d) = %v, %d, want %v", l, s, got, err, want)
	}
}

// isLost fails unless there are no data of these cells, and nothing beside the error.
func isLost(t *testing.T, l [][]byte, s int) {
	t.Helper()
	got, err := stripe.Data(l, s)
	if err != api.ErrLost || len(got) != 0 {
		t.Errorf("Data(%v, %d) = %v, %d, want nothing, ErrLost", l, s, got, err)
	}
}

// spoilt are bytes that are no cell of that place, made of the one that is.
func spoilt(b []byte, disk, s int) map[string][]byte {
	data := b[2:6]
	out := map[string][]byte{
		"nil":               nil,
		"no bytes":          {},
		"one byte":          b[:1],
		"a byte too short":  b[:7],
		"without its place": b[2:],
		"without its sum":   b[:6],
		"a byte too long":   append(bytes.Clone(b), 0),
		"a byte ahead":      append([]byte{0}, b...),
		"twice":             append(bytes.Clone(b), b...),
		"noughts":           make([]byte, 8),
		"a longer cell":     cell.Bytes(disk, s, append(bytes.Clone(data), 0)),
		"a shorter cell":    cell.Bytes(disk, s, data[:3]),
		"of no disk":        cell.Bytes(disk+4, s, data),
		"of no stripe":      cell.Bytes(disk, s+3, data),
		"of a far disk":     cell.Bytes(255, s, data),
	}
	for other := range 4 {
		if other != disk {
			out[fmt.Sprintf("of disk %d", other)] = cell.Bytes(other, s, data)
		}
	}
	for other := range 3 {
		if other != s {
			out[fmt.Sprintf("of stripe %d", other)] = cell.Bytes(disk, other, data)
		}
	}
	for k := range b {
		for _, x := range []byte{1, 128, 255} {
			turned := bytes.Clone(b)
			turned[k] ^= x
			out[fmt.Sprintf("byte %d turned by %d", k, x)] = turned
		}
	}
	return out
}

// arrayOf is an array whose cells are unlike each other, with an intent.
func arrayOf() api.Array {
	a := api.Array{Intents: []api.Intent{{Stripe: 1, Cells: cells(plain(), 1)}}}
	for disk := range 4 {
		var l [][]byte
		for s := range 3 {
			l = append(l, cell.Bytes(disk, s, []byte{byte(disk), byte(s), byte(10*disk + s), 7}))
		}
		a.Disks = append(a.Disks, l)
	}
	return a
}

func TestG1Known(t *testing.T) {
	for s, want := range [][][]byte{
		{{0, 0, 1, 2, 3, 4, 44, 155}, {1, 0, 5, 6, 7, 8, 135, 44}, {2, 0, 9, 10, 11, 12, 225, 189}, {3, 0, 13, 14, 15, 0, 60, 77}},
		{{0, 1, 1, 2, 3, 4, 208, 158}, {1, 1, 5, 6, 7, 8, 43, 62}, {2, 1, 9, 10, 11, 12, 133, 207}, {3, 1, 13, 14, 15, 0, 224, 80}},
		{{0, 2, 1, 2, 3, 4, 116, 176}, {1, 2, 5, 6, 7, 8, 207, 65}, {2, 2, 9, 10, 11, 12, 41, 225}, {3, 2, 13, 14, 15, 0, 132, 98}},
	} {
		f := four{{1, 2, 3, 4}, {5, 6, 7, 8}, {9, 10, 11, 12}, {13, 14, 15, 0}}
		if got := stripe.Make(f.lists(), s); !same(got, want) {
			t.Errorf("Make(%v, %d) = %v, want %v", f, s, got, want)
		}
		isBad(t, want, s)
		hasData(t, want, s, f)
		for disk := range 4 {
			isBad(t, without(want, disk), s, disk)
			hasData(t, without(want, disk), s, f)
		}
	}
}

// Make takes blocks as they are: whether they are noughts together it doesn't ask.
func TestG1MakeIsCellsOfTheBlocks(t *testing.T) {
	for s := range 3 {
		for _, f := range append(stripes(), plain(), four{{}, {}, {}, {1}}) {
			if got := stripe.Make(f.lists(), s); !same(got, cells(f, s)) {
				t.Errorf("Make(%v, %d) = %v, want %v", f, s, got, cells(f, s))
			}
		}
	}
}

func TestG1MadeAndReadAgain(t *testing.T) {
	for s := range 3 {
		for _, f := range append(stripes(), plain(), four{{}, {}, {}, {1}}) {
			l := stripe.Make(f.lists(), s)
			isBad(t, l, s)
			hasData(t, l, s, f)
		}
	}
}

// With three blocks and their xor, whichever one is gone: its data are what they were.
func TestG1AnyOneMayBeGone(t *testing.T) {
	for s := range 3 {
		for _, f := range stripes() {
			for disk := range 4 {
				l := without(cells(f, s), disk)
				isBad(t, l, s, disk)
				hasData(t, l, s, f)
			}
		}
	}
}

// Where the four are not noughts together, what is gone is still what the others have together, and the others stay.
func TestG1OneGoneIsWhatTheOthersAre(t *testing.T) {
	for s := range 3 {
		for disk := range 4 {
			l := without(cells(plain(), s), disk)
			isBad(t, l, s, disk)
			hasData(t, l, s, plain().healed(disk))
		}
		hasData(t, without(cells(plain(), s), 3), s, four{{1, 2, 3, 4}, {5, 6, 7, 8}, {9, 10, 11, 12}, {13, 14, 15, 0}})
		hasData(t, without(cells(four{{1}, {0, 1}, {0, 0, 1}, {0, 0, 0, 1}}, s), 2), s, four{{1}, {0, 1}, {1, 1, 0, 1}, {0, 0, 0, 1}})
	}
}

func TestG1OneSpoiltInAnyWay(t *testing.T) {
	for s := range 3 {
		for disk := range 4 {
			l := cells(plain(), s)
			for name, b := range spoilt(l[disk], disk, s) {
				x := slices.Clone(l)
				x[disk] = b
				t.Run(fmt.Sprintf("stripe %d disk %d %s", s, disk, name), func(t *testing.T) {
					isBad(t, x, s, disk)
					hasData(t, x, s, plain().healed(disk))
				})
			}
		}
	}
}

func TestG1TwoAreTooMany(t *testing.T) {
	for s := range 3 {
		l := cells(plain().healed(3-s), s)
		for one := range 4 {
			for two := one + 1; two < 4; two++ {
				x := without(l, one, two)
				isBad(t, x, s, one, two)
				isLost(t, x, s)
			}
		}
	}
}

// Two that are spoilt each in a way of its own are two nonetheless.
func TestG1TwoSpoiltInAnyWay(t *testing.T) {
	for s := range 3 {
		l := cells(plain(), s)
		for one := range 4 {
			for two := one + 1; two < 4; two++ {
				for name, b := range spoilt(l[one], one, s) {
					for other, c := range spoilt(l[two], two, s) {
						x := slices.Clone(l)
						x[one], x[two] = b, c
						if bad := stripe.Bad(x, s); !slices.Equal(bad, []int{one, two}) {
							t.Fatalf("%s, %s: Bad(%v, %d) = %v", name, other, x, s, bad)
						}
						isLost(t, x, s)
					}
				}
			}
		}
	}
}

// Sound cells that changed disks are of another place: two are none, though no byte of them is.
func TestG1TwoThatChangedDisks(t *testing.T) {
	for s := range 3 {
		for one := range 4 {
			for two := one + 1; two < 4; two++ {
				x := cells(plain(), s)
				x[one], x[two] = x[two], x[one]
				isBad(t, x, s, one, two)
				isLost(t, x, s)
			}
		}
	}
}

func TestG1ThreeAndFourAreTooMany(t *testing.T) {
	for s := range 3 {
		l := cells(plain().healed(3-s), s)
		isBad(t, without(l, 1, 2, 3), s, 1, 2, 3)
		isBad(t, without(l, 0, 2, 3), s, 0, 2, 3)
		isBad(t, without(l, 0, 1, 3), s, 0, 1, 3)
		isBad(t, without(l, 0, 1, 2), s, 0, 1, 2)
		for kept := range 4 {
			isLost(t, without(l, (kept+1)%4, (kept+2)%4, (kept+3)%4), s)
		}
		isBad(t, without(l, 0, 1, 2, 3), s, 0, 1, 2, 3)
		isLost(t, without(l, 0, 1, 2, 3), s)
	}
}

// Cells of one stripe are all of another place in the two others.
func TestG1CellsOfAnotherStripe(t *testing.T) {
	for s := range 3 {
		for other := range 3 {
			if other != s {
				isBad(t, cells(plain(), other), s, 0, 1, 2, 3)
				isLost(t, cells(plain(), other), s)
			}
		}
	}
}

func TestG1CellsOfEachStripe(t *testing.T) {
	a := arrayOf()
	for s := range 3 {
		got := stripe.Cells(a, s)
		want := [][]byte{a.Disks[0][s], a.Disks[1][s], a.Disks[2][s], a.Disks[3][s]}
		if !same(got, want) {
			t.Errorf("Cells(.., %d) = %v, want %v", s, got, want)
		}
		isBad(t, got, s)
		hasData(t, got, s, four{{0, byte(s), byte(s), 7}, {1, byte(s), byte(10 + s), 7}, {2, byte(s), byte(20 + s), 7}, {3, byte(s), byte(30 + s), 7}})
	}
}

// Cells are told as they are, spoilt ones too, and an intent changes nothing of them.
func TestG1CellsAreToldAsTheyAre(t *testing.T) {
	for s := range 3 {
		for disk := range 4 {
			for name, b := range spoilt(arrayOf().Disks[disk][s], disk, s) {
				a := arrayOf()
				a.Disks[disk][s] = b
				want := [][]byte{a.Disks[0][s], a.Disks[1][s], a.Disks[2][s], a.Disks[3][s]}
				got := stripe.Cells(a, s)
				if !same(got, want) {
					t.Errorf("%s: Cells(.., %d) = %v, want %v", name, s, got, want)
				}
				isBad(t, got, s, disk)
				a.Intents = nil
				if !same(stripe.Cells(a, s), want) {
					t.Errorf("%s: Cells(.., %d) hangs on Intents", name, s)
				}
			}
		}
	}
}

// A disk that is another one spoils one cell of each stripe; a second one is one too many.
func TestG1CellsOfDisksThatAreGone(t *testing.T) {
	for disk := range 4 {
		a := arrayOf()
		a.Disks[disk] = [][]byte{nil, {}, nil}
		for s := range 3 {
			isBad(t, stripe.Cells(a, s), s, disk)
			if _, err := stripe.Data(stripe.Cells(a, s), s); err != api.OK {
				t.Errorf("without disk %d stripe %d is lost: %d", disk, s, err)
			}
		}
		second := (disk + 1) % 4
		a.Disks[second] = make([][]byte, 3)
		for s := range 3 {
			isBad(t, stripe.Cells(a, s), s, min(disk, second), max(disk, second))
			isLost(t, stripe.Cells(a, s), s)
		}
	}
}

func TestZ3CellsWithoutBytes(t *testing.T) {
	l := cells(plain(), 1)
	for disk := range 4 {
		x := slices.Clone(l)
		x[disk] = []byte{}
		isBad(t, x, 1, disk)
		hasData(t, x, 1, plain().healed(disk))
		x[(disk+1)%4] = nil
		isLost(t, x, 1)
	}
}

func TestZ4NothingBesideAnError(t *testing.T) {
	for s := range 3 {
		for many := 2; many <= 4; many++ {
			disks := []int{3, 1, 0, 2}[:many]
			if got, err := stripe.Data(without(cells(plain(), s), disks...), s); err != api.ErrLost || len(got) != 0 {
				t.Errorf("without %v: Data = %v, %d", disks, got, err)
			}
		}
	}
}

// Of stripes that there are not, and of other lists than the chapter's, nothing is said but that no call panics.
func TestZ1NoCallPanics(t *testing.T) {
	numbers := []int{math.MinInt, math.MinInt32, -257, -256, -4, -3, -2, -1, 0, 1, 2, 3, 4, 7, 255, 256, 257, 1 << 32, math.MaxInt}
	for _, s := range numbers {
		for size := range 7 {
			for bytesEach := range 10 {
				l := make([][]byte, size)
				for k := range l {
					l[k] = make([]byte, bytesEach)
				}
				stripe.Bad(l, s)
				stripe.Data(l, s)
				stripe.Make(l, s)
				stripe.Cells(api.Array{Disks: make([][][]byte, size)}, s)
				stripe.Cells(api.Array{Disks: [][][]byte{l, nil, l[:size/2], l, l}}, s)
			}
		}
		stripe.Bad(nil, s)
		stripe.Data(nil, s)
		stripe.Make(nil, s)
		stripe.Cells(api.Array{}, s)
		stripe.Cells(arrayOf(), s)
	}
}

func TestZ1AskedAgain(t *testing.T) {
	l := without(cells(plain(), 2), 1)
	for range 3 {
		isBad(t, l, 2, 1)
		hasData(t, l, 2, plain().healed(1))
		isLost(t, without(l, 0), 2)
	}
}

const room = "------------"

// withRoom is a copy of b with spare room behind it.
func withRoom(b []byte) []byte {
	return append(bytes.Clone(b), room...)[:len(b)]
}

// roomy is l with spare room behind each entry, and behind the list.
func roomy(l [][]byte) [][]byte {
	var out [][]byte
	for _, b := range l {
		out = append(out, withRoom(b))
	}
	return append(out, []byte("behind"))[:len(l)]
}

// isUntouched fails unless l is as roomy made it of was, its spare room too, with the entries that it had.
func isUntouched(t *testing.T, l, heads, was [][]byte) {
	t.Helper()
	for k, b := range l {
		if whole := b[:len(b)+len(room)]; !bytes.Equal(whole, append(bytes.Clone(was[k]), room...)) {
			t.Errorf("entry %d, or the room behind, became %q", k, whole)
		}
		if &b[:1][0] != &heads[k][:1][0] {
			t.Errorf("another entry was put at place %d of what was handed in", k)
		}
	}
	if behind := string(l[:len(l)+1][len(l)]); behind != "behind" {
		t.Errorf("the room behind the list became %q", behind)
	}
}

// lists are lists of cells and blocks: whole, with one that is none, and with two.
func lists() [][][]byte {
	l := cells(plain(), 1)
	return [][][]byte{l, without(l, 0), without(l, 3), without(l, 1, 2), plain().lists(), cells(plain(), 2)}
}

func TestZ2HandedInIsOnlyRead(t *testing.T) {
	for _, was := range lists() {
		l := roomy(was)
		heads := slices.Clone(l)
		stripe.Bad(l, 1)
		isUntouched(t, l, heads, was)
		stripe.Data(l, 1)
		isUntouched(t, l, heads, was)
		stripe.Make(l, 1)
		isUntouched(t, l, heads, was)
	}
}

// roomyArray is arrayOf with spare room behind each of its lists.
func roomyArray() (api.Array, api.Array) {
	was := arrayOf()
	a := api.Array{Intents: was.Intents}
	for _, l := range was.Disks {
		a.Disks = append(a.Disks, roomy(l))
	}
	a.Disks = append(a.Disks, cells(plain(), 0))[:len(was.Disks)]
	return a, was
}

func TestZ2ArrayIsOnlyRead(t *testing.T) {
	a, was := roomyArray()
	heads := make([][][]byte, len(a.Disks))
	for disk := range heads {
		heads[disk] = slices.Clone(a.Disks[disk])
	}
	for s := range 3 {
		got := stripe.Cells(a, s)
		for _, b := range got {
			fill(b, '+')
		}
		fillList(got)
	}
	for disk := range a.Disks {
		isUntouched(t, a.Disks[disk], heads[disk], was.Disks[disk])
	}
	if behind := a.Disks[:5][4]; !same(behind, cells(plain(), 0)) {
		t.Errorf("the room behind the disks became %v", behind)
	}
	if len(a.Intents) != 1 || a.Intents[0].Stripe != 1 || !same(a.Intents[0].Cells, cells(plain(), 1)) {
		t.Errorf("Intents became %v", a.Intents)
	}
}

// What stands behind a cell, a block, or a list of them, is not looked at.
func TestZ2SpareRoomIsNotLookedAt(t *testing.T) {
	l := cells(plain(), 1)
	short := slices.Clone(l)
	short[2] = l[2][:7]
	isBad(t, short, 1, 2)
	hasData(t, short, 1, plain().healed(2))
	short[0] = l[0][:0]
	isBad(t, short, 1, 0, 2)
	isLost(t, short, 1)
	hasData(t, roomy(l), 1, plain())
	if got := stripe.Make(roomy(plain().lists()), 1); !same(got, l) {
		t.Errorf("Make = %v, want %v", got, l)
	}
	a, was := roomyArray()
	for s := range 3 {
		if !same(stripe.Cells(a, s), stripe.Cells(was, s)) {
			t.Errorf("Cells(.., %d) = %v, want %v", s, stripe.Cells(a, s), stripe.Cells(was, s))
		}
	}
}

// fill writes over a list and all its spare room.
func fill(b []byte, x byte) {
	b = b[:cap(b)]
	for k := range b {
		b[k] = x
	}
}

// fillList puts other entries into a list and all its spare room.
func fillList(l [][]byte) {
	l = l[:cap(l)]
	for k := range l {
		l[k] = []byte("another")
	}
}

// copied is l with memory of its own, for what is held against it later.
func copied(l [][]byte) [][]byte {
	var out [][]byte
	for _, b := range l {
		out = append(out, bytes.Clone(b))
	}
	return out
}

// isApart fails if two entries of one list share memory.
func isApart(t *testing.T, name string, l [][]byte) {
	t.Helper()
	for k := range l {
		fill(l[k], byte(100+k))
	}
	for k, b := range l {
		if want := bytes.Repeat([]byte{byte(100 + k)}, len(b)); !bytes.Equal(b, want) {
			t.Errorf("%s: entry %d became %v when another one was changed", name, k, b)
		}
	}
}

// isOwn fails if an answer shares memory with what was handed in, with another answer, or within itself.
func isOwn(t *testing.T, name string, was [][]byte, call func(l [][]byte) [][]byte) {
	t.Helper()
	l := roomy(was)
	heads := slices.Clone(l)
	first, second := call(l), call(l)
	want := copied(second)
	isApart(t, name, first)
	fillList(first)
	isUntouched(t, l, heads, was)
	for k := range l {
		fill(l[k], '*')
	}
	fillList(l)
	if !same(second, want) {
		t.Errorf("%s: an answer became %v, was %v", name, second, want)
	}
}

func TestZ2AnswersNewMemory(t *testing.T) {
	data := func(l [][]byte) [][]byte {
		got, _ := stripe.Data(l, 1)
		return got
	}
	l := cells(plain(), 1)
	isOwn(t, "Data", l, data)
	for disk := range 4 {
		isOwn(t, fmt.Sprintf("Data without disk %d", disk), without(l, disk), data)
	}
	isOwn(t, "Make", plain().lists(), func(l [][]byte) [][]byte { return stripe.Make(l, 1) })
	for s := range 3 {
		for disk := range 4 {
			isOwn(t, "Cells", arrayOf().Disks[disk], func(l [][]byte) [][]byte {
				a := arrayOf()
				a.Disks[disk] = l
				return stripe.Cells(a, s)
			})
		}
	}
}

// One block, or one cell, at all places: the answer has one of its own at each.
func TestZ2OneListAtAllPlaces(t *testing.T) {
	b := []byte("abcd")
	isApart(t, "Make", stripe.Make([][]byte{b, b, b, b}, 0))
	c := cell.Bytes(0, 0, b)
	isApart(t, "Cells", stripe.Cells(api.Array{Disks: [][][]byte{{c, c, c}, {c, c, c}, {c, c, c}, {c, c, c}}}, 0))
	if string(b) != "abcd" || !bytes.Equal(c, cell.Bytes(0, 0, b)) {
		t.Errorf("what was handed in became %q, %v", b, c)
	}
}

func TestZ2BadAnswersNewMemory(t *testing.T) {
	l := without(cells(plain(), 1), 1, 3)
	first := stripe.Bad(l, 1)
	whole := first[:cap(first)]
	for k := range whole {
		whole[k] = 9
	}
	isBad(t, l, 1, 1, 3)
}

// The tests' own numbers stand for the limits: that they are so is seen here.
func TestG1Limits(t *testing.T) {
	if api.MaxDisks != 4 || api.MaxStripes != 3 || api.BlockSize != 4 || api.CellSize != 8 {
		t.Errorf("limits are %d disks, %d stripes, %d and %d bytes", api.MaxDisks, api.MaxStripes, api.BlockSize, api.CellSize)
	}
	if got := stripe.Make(plain().lists(), 0); len(got) != 4 || len(got[0]) != 8 {
		t.Errorf("a stripe has %d cells, the first one of %d bytes", len(got), len(got[0]))
	}
	if got := stripe.Cells(arrayOf(), 2); len(got) != 4 {
		t.Errorf("a stripe of an array has %d cells", len(got))
	}
}
