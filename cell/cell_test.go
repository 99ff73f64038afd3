package cell_test

import (
	"bytes"
	"math"
	"strings"
	"testing"

	"mirrorheal/api"
	"mirrorheal/cell"
	"mirrorheal/sum"
)

type place struct{ disk, stripe int }

// places are all that there are, written out by the limits.
func places() []place {
	var l []place
	for disk := range 4 {
		for stripe := range 3 {
			l = append(l, place{disk, stripe})
		}
	}
	return l
}

// blocks are ordinary data and edges: noughts, the largest byte, and data that look like a place.
func blocks() [][]byte {
	return [][]byte{
		{0, 0, 0, 0},
		{255, 255, 255, 255},
		[]byte("abcd"),
		{1, 2, 3, 4},
		{2, 1, 2, 1},
	}
}

// isNone fails unless Read tells this error of b, and no data beside it.
func isNone(t *testing.T, b []byte, p place, want api.Errno) {
	t.Helper()
	data, err := cell.Read(b, p.disk, p.stripe)
	if err != want || len(data) != 0 {
		t.Errorf("Read(%v, %d, %d) = %v, %d, want no data, %d", b, p.disk, p.stripe, data, err, want)
	}
}

func TestB1There(t *testing.T) {
	numbers := []int{math.MinInt, -257, -256, -4, -3, -2, -1, 0, 1, 2, 3, 4, 5, 8, 255, 256, 257, 1 << 32, math.MaxInt}
	for _, disk := range numbers {
		for _, stripe := range numbers {
			want := 0 <= disk && disk <= 3 && 0 <= stripe && stripe <= 2
			if got := cell.There(disk, stripe); got != want {
				t.Errorf("There(%d, %d) = %v, want %v", disk, stripe, got, want)
			}
		}
	}
}

func TestB1BytesKnown(t *testing.T) {
	for _, c := range []struct {
		p    place
		data string
		want []byte
	}{
		{place{0, 0}, "abcd", []byte{0, 0, 97, 98, 99, 100, 88, 37}},
		{place{0, 2}, "abcd", []byte{0, 2, 97, 98, 99, 100, 160, 58}},
		{place{2, 1}, "abcd", []byte{2, 1, 97, 98, 99, 100, 131, 16}},
		{place{3, 0}, "abcd", []byte{3, 0, 97, 98, 99, 100, 162, 114}},
		{place{3, 2}, "abcd", []byte{3, 2, 97, 98, 99, 100, 234, 135}},
	} {
		if got := cell.Bytes(c.p.disk, c.p.stripe, []byte(c.data)); !bytes.Equal(got, c.want) {
			t.Errorf("Bytes(%d, %d, %q) = %v, want %v", c.p.disk, c.p.stripe, c.data, got, c.want)
		}
	}
}

func TestB1BytesIsPlaceDataAndSum(t *testing.T) {
	for _, p := range places() {
		for _, data := range blocks() {
			got := cell.Bytes(p.disk, p.stripe, data)
			want := sum.Seal(append([]byte{byte(p.disk), byte(p.stripe)}, data...))
			if len(got) != 8 || !bytes.Equal(got, want) {
				t.Errorf("Bytes(%d, %d, %v) = %v, want %v", p.disk, p.stripe, data, got, want)
			}
		}
	}
}

func TestB1WrittenAndReadAgain(t *testing.T) {
	for _, p := range places() {
		for _, data := range blocks() {
			got, err := cell.Read(cell.Bytes(p.disk, p.stripe, data), p.disk, p.stripe)
			if err != api.OK || !bytes.Equal(got, data) {
				t.Errorf("Read of disk %d, stripe %d = %v, %d, want %v, OK", p.disk, p.stripe, got, err, data)
			}
		}
	}
}

func TestB1AnotherPlaceIsNone(t *testing.T) {
	for _, of := range places() {
		b := cell.Bytes(of.disk, of.stripe, []byte("abcd"))
		for _, at := range places() {
			if at != of {
				isNone(t, b, at, api.ErrPlace)
			}
		}
	}
}

// A place that there is not is another one, also where its lowest byte is the cell's.
func TestB1PlaceThatThereIsNotIsAnother(t *testing.T) {
	for _, of := range places() {
		b := cell.Bytes(of.disk, of.stripe, []byte("abcd"))
		for _, far := range []int{256, -256, 1 << 16, 1 << 32, math.MinInt} {
			isNone(t, b, place{of.disk + far, of.stripe}, api.ErrPlace)
			isNone(t, b, place{of.disk, of.stripe + far}, api.ErrPlace)
		}
		isNone(t, b, place{-1, of.stripe}, api.ErrPlace)
		isNone(t, b, place{4, of.stripe}, api.ErrPlace)
		isNone(t, b, place{of.disk, -1}, api.ErrPlace)
		isNone(t, b, place{of.disk, 3}, api.ErrPlace)
	}
}

// Bytes that are sealed, and name a place that there is not, are of no place that there is.
func TestB1CellOfNoPlaceIsNone(t *testing.T) {
	for _, head := range []place{{4, 0}, {0, 3}, {4, 3}, {255, 255}, {0, 255}, {255, 0}} {
		b := sum.Seal(append([]byte{byte(head.disk), byte(head.stripe)}, "abcd"...))
		for _, at := range places() {
			isNone(t, b, at, api.ErrPlace)
		}
	}
}

// Bytes of another length are none, though they are sealed and name the place.
func TestB1OtherLengthIsNone(t *testing.T) {
	isNone(t, nil, place{0, 0}, api.ErrSum)
	isNone(t, []byte{}, place{0, 0}, api.ErrSum)
	for n := range 40 {
		sealed := sum.Seal(append([]byte{2, 1}, strings.Repeat("x", n)...))
		if len(sealed) == 8 {
			continue
		}
		isNone(t, sealed, place{2, 1}, api.ErrSum)
		isNone(t, sealed, place{1, 2}, api.ErrSum)
	}
	isNone(t, []byte{0, 13}, place{0, 13}, api.ErrSum)
}

func TestB1CutOrLengthenedIsNone(t *testing.T) {
	b := cell.Bytes(2, 1, []byte("abcd"))
	for n := range b {
		isNone(t, b[:n], place{2, 1}, api.ErrSum)
	}
	for x := range 256 {
		isNone(t, append(bytes.Clone(b), byte(x)), place{2, 1}, api.ErrSum)
	}
}

func TestB1OneByteTurnedIsNone(t *testing.T) {
	for _, p := range places() {
		b := cell.Bytes(p.disk, p.stripe, []byte("abcd"))
		for at := range b {
			for turn := 1; turn < 256; turn++ {
				c := bytes.Clone(b)
				c[at] ^= byte(turn)
				isNone(t, c, p, api.ErrSum)
			}
		}
	}
}

// Where bytes are spoilt, and of another place too, that they are spoilt is told.
func TestB1SpoiltIsToldAheadOfAnotherPlace(t *testing.T) {
	b := cell.Bytes(2, 1, []byte("abcd"))
	for at := range b {
		c := bytes.Clone(b)
		c[at] ^= 1
		for _, p := range []place{{1, 2}, {0, 0}, {-1, -1}, {4, 3}} {
			isNone(t, c, p, api.ErrSum)
		}
	}
	isNone(t, make([]byte, 8), place{0, 0}, api.ErrSum)
}

func TestZ1NoCallPanics(t *testing.T) {
	for _, n := range []int{math.MinInt, -1, 4, 256, math.MaxInt} {
		for size := range 12 {
			b := make([]byte, size)
			cell.There(n, n)
			cell.Read(b, n, n)
			cell.Bytes(n, n, b)
		}
		cell.Read(nil, n, n)
		cell.Bytes(n, n, nil)
	}
}

// What is handed in has spare room behind it, that is neither read nor written.
func TestZ2HandedInIsOnlyRead(t *testing.T) {
	room := []byte("abcd, and more")
	cell.Bytes(2, 1, room[:4])
	if string(room) != "abcd, and more" {
		t.Errorf("Bytes changed its data, or the room behind, to %q", room)
	}
	if got, want := cell.Bytes(2, 1, room[:4]), cell.Bytes(2, 1, []byte("abcd")); !bytes.Equal(got, want) {
		t.Errorf("Bytes = %v with room behind, %v without", got, want)
	}

	b := append(cell.Bytes(2, 1, []byte("abcd")), 1, 2, 3, 4)
	before := bytes.Clone(b)
	for n := range b {
		got, err := cell.Read(b[:n], 2, 1)
		want, wantErr := cell.Read(bytes.Clone(b[:n]), 2, 1)
		if err != wantErr || !bytes.Equal(got, want) {
			t.Errorf("Read of %d bytes = %v, %d with room behind, %v, %d without", n, got, err, want, wantErr)
		}
	}
	if !bytes.Equal(b, before) {
		t.Errorf("Read changed %v to %v", before, b)
	}
}

// fill writes over a list and all its spare room.
func fill(b []byte, x byte) {
	b = b[:cap(b)]
	for k := range b {
		b[k] = x
	}
}

// Whoever handed bytes in may change them, and whoever was answered may change the answer, its spare room too.
func TestZ2BytesAnswersNewMemory(t *testing.T) {
	data := append(make([]byte, 0, 20), "abcd"...)
	got, again := cell.Bytes(2, 1, data), cell.Bytes(2, 1, data)
	want := bytes.Clone(got)
	fill(data, '-')
	if !bytes.Equal(got, want) {
		t.Errorf("the cell became %v, was %v, when its data were changed", got, want)
	}
	fill(got, '+')
	if whole := data[:cap(data)]; string(whole) != strings.Repeat("-", len(whole)) {
		t.Errorf("the data became %q when the cell was changed", whole)
	}
	if !bytes.Equal(again, want) {
		t.Errorf("another cell became %v, was %v", again, want)
	}
}

func TestZ2ReadAnswersNewMemory(t *testing.T) {
	b := cell.Bytes(2, 1, []byte("abcd"))
	before := bytes.Clone(b)
	got, _ := cell.Read(b, 2, 1)
	again, _ := cell.Read(b, 2, 1)
	fill(got, '+')
	if !bytes.Equal(b, before) {
		t.Errorf("the cell became %v, was %v, when its data were changed", b, before)
	}
	fill(b, '-')
	if string(again) != "abcd" {
		t.Errorf("the data became %q when the cell was changed", again)
	}
}
