package plan_test

import (
	"math"
	"testing"

	"mirrorheal/api"
	"mirrorheal/cell"
	"mirrorheal/plan"
)

type place struct{ disk, stripe int }

// layout is what stands where, written out: a row a stripe, a column a disk; -1 is the spare one.
func layout() [3][4]int {
	return [3][4]int{
		{0, 1, 2, -1},
		{3, 4, -1, 5},
		{6, -1, 7, 8},
	}
}

// homes are the places of all blocks, by blocks, written out.
func homes() []place {
	return []place{
		{0, 0}, {1, 0}, {2, 0},
		{0, 1}, {1, 1}, {3, 1},
		{0, 2}, {2, 2}, {3, 2},
	}
}

// isAt fails unless Where tells this place of a block, and OK.
func isAt(t *testing.T, block int, want place) {
	t.Helper()
	disk, stripe, err := plan.Where(block)
	if disk != want.disk || stripe != want.stripe || err != api.OK {
		t.Errorf("Where(%d) = %d, %d, %d, want %d, %d, OK", block, disk, stripe, err, want.disk, want.stripe)
	}
}

// isNowhere fails unless Where tells ErrRange of a block, and noughts beside it.
func isNowhere(t *testing.T, block int) {
	t.Helper()
	disk, stripe, err := plan.Where(block)
	if disk != 0 || stripe != 0 || err != api.ErrRange {
		t.Errorf("Where(%d) = %d, %d, %d, want 0, 0, ErrRange", block, disk, stripe, err)
	}
}

// has fails unless Block tells this block of a place, and OK.
func has(t *testing.T, p place, want int) {
	t.Helper()
	block, err := plan.Block(p.disk, p.stripe)
	if block != want || err != api.OK {
		t.Errorf("Block(%d, %d) = %d, %d, want %d, OK", p.disk, p.stripe, block, err, want)
	}
}

// isNoPlace fails unless Block tells ErrRange of a place, and 0 beside it (not -1, that is a spare disk's).
func isNoPlace(t *testing.T, p place) {
	t.Helper()
	block, err := plan.Block(p.disk, p.stripe)
	if block != 0 || err != api.ErrRange {
		t.Errorf("Block(%d, %d) = %d, %d, want 0, ErrRange", p.disk, p.stripe, block, err)
	}
}

// far are numbers that are no disk, no stripe and no block; the low bits of some are those of one.
func far() []int {
	return []int{
		math.MinInt, math.MinInt + 1, math.MinInt32, -1 << 32, -257, -256, -13, -12, -10, -9, -8, -5, -4, -3, -2, -1,
		9, 10, 11, 12, 13, 16, 255, 256, 257, 260, 1 << 16, math.MaxInt32, 1 << 32, 1<<32 + 1, math.MaxInt - 1, math.MaxInt,
	}
}

func TestD1SpareOfEachStripe(t *testing.T) {
	for stripe, want := range []int{3, 2, 1} {
		if got := plan.Spare(stripe); got != want {
			t.Errorf("Spare(%d) = %d, want %d", stripe, got, want)
		}
	}
}

// Spare is told from 0 on, without an end: also of stripes that there are not.
func TestD1SpareGoesRound(t *testing.T) {
	want := 3
	for stripe := range 1000 {
		if got := plan.Spare(stripe); got != want {
			t.Fatalf("Spare(%d) = %d, want %d", stripe, got, want)
		}
		want--
		if want < 0 {
			want = 3
		}
	}
	for back := range 8 {
		if got, want := plan.Spare(math.MaxInt-back), back%4; got != want {
			t.Errorf("Spare(MaxInt - %d) = %d, want %d", back, got, want)
		}
	}
}

func TestD1WhereOfEachBlock(t *testing.T) {
	for block, p := range homes() {
		isAt(t, block, p)
	}
}

// A block's stripe is the block through 3, and in it the blocks rise with their disks, none of them on the spare one.
func TestD1WhereByTheRule(t *testing.T) {
	for block := range 9 {
		disk, stripe, err := plan.Where(block)
		if err != api.OK || stripe != block/3 {
			t.Fatalf("Where(%d) is of stripe %d, %d, want %d, OK", block, stripe, err, block/3)
		}
		var disks []int
		for d := range 4 {
			if d != plan.Spare(stripe) {
				disks = append(disks, d)
			}
		}
		if want := disks[block%3]; disk != want {
			t.Errorf("Where(%d) is on disk %d, want %d", block, disk, want)
		}
	}
}

func TestD1FirstAndLastBlock(t *testing.T) {
	isNowhere(t, -1)
	isAt(t, 0, place{0, 0})
	isAt(t, 8, place{3, 2})
	isNowhere(t, 9)
	has(t, place{0, 0}, 0)
	has(t, place{3, 2}, 8)
}

func TestD1WhereOfNoBlock(t *testing.T) {
	for _, block := range far() {
		isNowhere(t, block)
	}
	for n := range 300 {
		isNowhere(t, -1-n)
		isNowhere(t, 9+n)
	}
}

func TestD1BlockOfEachPlace(t *testing.T) {
	for stripe, row := range layout() {
		for disk, want := range row {
			has(t, place{disk, stripe}, want)
		}
	}
}

// Each stripe has just one place without a block, and that is its spare disk's: -1, and no error.
func TestD1BlockOfSpareDisks(t *testing.T) {
	for _, p := range []place{{3, 0}, {2, 1}, {1, 2}} {
		has(t, p, -1)
	}
	for stripe := range 3 {
		for disk := range 4 {
			block, _ := plan.Block(disk, stripe)
			if (block == -1) != (disk == plan.Spare(stripe)) {
				t.Errorf("Block(%d, %d) = %d, and the spare disk is %d", disk, stripe, block, plan.Spare(stripe))
			}
		}
	}
}

func TestD1BlockOfNoPlace(t *testing.T) {
	for _, n := range append(far(), 4, 5, 6, 7, 8) {
		for stripe := range 3 {
			isNoPlace(t, place{n, stripe})
		}
		for _, m := range append(far(), 3, 4) {
			isNoPlace(t, place{n, m})
		}
	}
	for _, n := range append(far(), 3, 4, 5, 6, 7, 8) {
		for disk := range 4 {
			isNoPlace(t, place{disk, n})
		}
	}
}

// What would be the spare disk of a stripe that there is not is no place either.
func TestD1SpareDiskOfNoStripe(t *testing.T) {
	for stripe := 3; stripe < 20; stripe++ {
		isNoPlace(t, place{plan.Spare(stripe), stripe})
	}
	isNoPlace(t, place{0, -1})
	isNoPlace(t, place{3, -4})
}

// Which places there are is what chapter 2 says.
func TestD1PlacesAreThoseOfCells(t *testing.T) {
	for disk := -6; disk < 10; disk++ {
		for stripe := -6; stripe < 10; stripe++ {
			if _, err := plan.Block(disk, stripe); (err == api.OK) != cell.There(disk, stripe) {
				t.Errorf("Block(%d, %d) tells %d, and that there is such a place is %v", disk, stripe, err, cell.There(disk, stripe))
			}
		}
	}
}

func TestD1ThereAndBackByBlocks(t *testing.T) {
	seen := map[place]int{}
	for block := range 9 {
		disk, stripe, err := plan.Where(block)
		if err != api.OK {
			t.Fatalf("Where(%d) tells %d", block, err)
		}
		has(t, place{disk, stripe}, block)
		if disk == plan.Spare(stripe) {
			t.Errorf("block %d is on the spare disk %d of stripe %d", block, disk, stripe)
		}
		seen[place{disk, stripe}]++
	}
	if len(seen) != 9 {
		t.Errorf("nine blocks have %d places: %v", len(seen), seen)
	}
}

func TestD1ThereAndBackByPlaces(t *testing.T) {
	blocks, spares := 0, 0
	for disk := range 4 {
		for stripe := range 3 {
			block, err := plan.Block(disk, stripe)
			if err != api.OK {
				t.Fatalf("Block(%d, %d) tells %d", disk, stripe, err)
			}
			if block == -1 {
				isNowhere(t, block)
				spares++
				continue
			}
			isAt(t, block, place{disk, stripe})
			blocks++
		}
	}
	if blocks != 9 || spares != 3 {
		t.Errorf("%d blocks and %d spare places, want 9 and 3", blocks, spares)
	}
}

// Of Spare nothing is said below 0 but that it doesn't panic.
func TestZ1NoCallPanics(t *testing.T) {
	for _, n := range append(far(), 0, 1, 2, 3, 4) {
		plan.Spare(n)
		plan.Where(n)
		plan.Block(n, n)
		plan.Block(n, 0)
		plan.Block(0, n)
	}
}

// The tests' own numbers stand for the limits: that they are so is seen here.
func TestD1Limits(t *testing.T) {
	if len(homes()) != api.MaxBlocks || len(layout()) != api.MaxStripes || len(layout()[0]) != api.MaxDisks {
		t.Errorf("limits are %d blocks, %d stripes, %d disks", api.MaxBlocks, api.MaxStripes, api.MaxDisks)
	}
}
