package sum_test

import (
	"bytes"
	"math/big"
	"strings"
	"testing"

	"mirrorheal/sum"
)

// allBytes has every byte once.
func allBytes() []byte {
	var b []byte
	for x := range 256 {
		b = append(b, byte(x))
	}
	return b
}

// samples are ordinary inputs and edges: no bytes, one, noughts, the largest byte, every byte, many.
func samples() [][]byte {
	return [][]byte{
		nil,
		{},
		{0},
		{255},
		{0, 0, 0, 0},
		{0, 13},
		[]byte("a"),
		[]byte("ab"),
		[]byte("hello"),
		bytes.Repeat([]byte{255}, 30),
		allBytes(),
		bytes.Repeat(allBytes(), 50),
	}
}

// wholeSum works the sum out without a bound, and takes the rest once, at the end.
func wholeSum(b []byte) int {
	s := big.NewInt(13)
	for _, x := range b {
		s.Mul(s, big.NewInt(151))
		s.Add(s, big.NewInt(int64(x)+1))
	}
	return int(s.Mod(s, big.NewInt(65521)).Int64())
}

func TestA1OfKnown(t *testing.T) {
	for _, c := range []struct {
		text string
		want int
	}{
		{"", 13},
		{"\x00", 13*151 + 1},
		{"\xff", 13*151 + 256},
		{"a", 2061},
		{"ab", 49226},
		{"ba", (2062*151 + 98) % 65521},
		{"hello", 14315},
		{strings.Repeat("\xff", 30), 27770},
	} {
		if got := sum.Of([]byte(c.text)); got != c.want {
			t.Errorf("Of(%q) = %d, want %d", c.text, got, c.want)
		}
	}
}

func TestA1OfIsTheRestOfTheWhole(t *testing.T) {
	for _, b := range samples() {
		if got, want := sum.Of(b), wholeSum(b); got != want {
			t.Errorf("Of of %d bytes = %d, want %d", len(b), got, want)
		}
	}
}

func TestA1OfReachesItsBounds(t *testing.T) {
	seen := map[int]bool{}
	for x := range 1 << 16 {
		s := sum.Of([]byte{byte(x >> 8), byte(x)})
		if s < 0 || s >= 65521 {
			t.Fatalf("Of(%d, %d) = %d is no rest of 65521", x>>8, x&255, s)
		}
		seen[s] = true
	}
	if !seen[0] || !seen[65520] {
		t.Errorf("least rest seen: %v, greatest: %v, want both", seen[0], seen[65520])
	}
}

func TestA1SealKnown(t *testing.T) {
	for _, c := range []struct{ b, want []byte }{
		{nil, []byte{0, 13}},
		{[]byte{}, []byte{0, 13}},
		{[]byte("a"), []byte{97, 8, 13}},
		{[]byte("ab"), []byte{97, 98, 192, 74}},
		{[]byte("hello"), []byte{104, 101, 108, 108, 111, 55, 235}},
	} {
		if got := sum.Seal(c.b); !bytes.Equal(got, c.want) {
			t.Errorf("Seal(%v) = %v, want %v", c.b, got, c.want)
		}
	}
}

func TestA1SealPutsTheSumBehind(t *testing.T) {
	for _, b := range samples() {
		s := wholeSum(b)
		want := append(bytes.Clone(b), byte(s/256), byte(s%256))
		got := sum.Seal(b)
		if !bytes.Equal(got, want) {
			t.Errorf("Seal of %d bytes = %v, want %v", len(b), got, want)
		}
		if !sum.Sealed(got) {
			t.Errorf("Sealed(Seal) of %d bytes = false", len(b))
		}
		if twice := sum.Seal(got); !sum.Sealed(twice) {
			t.Errorf("Sealed(Seal(Seal)) of %d bytes = false", len(b))
		}
	}
}

func TestA1SealedOfTooFewBytes(t *testing.T) {
	if sum.Sealed(nil) || sum.Sealed([]byte{}) {
		t.Error("no bytes are sealed")
	}
	for x := range 256 {
		if sum.Sealed([]byte{byte(x)}) {
			t.Errorf("the one byte %d is sealed", x)
		}
	}
}

// Of two bytes only the sum of nothing is sealed: not its bytes the other way round, and not 13 + 65521, that has the same rest.
func TestA1SealedOfTwoBytes(t *testing.T) {
	for x := range 1 << 16 {
		b := []byte{byte(x >> 8), byte(x)}
		if got, want := sum.Sealed(b), x == 13; got != want {
			t.Errorf("Sealed(%v) = %v, want %v", b, got, want)
		}
	}
}

func TestA1SealedOfEverySumBehind(t *testing.T) {
	for _, ahead := range [][]byte{{0}, {255}, []byte("ab"), []byte("hello"), allBytes()} {
		want := wholeSum(ahead)
		for x := range 1 << 16 {
			b := append(bytes.Clone(ahead), byte(x>>8), byte(x))
			if got := sum.Sealed(b); got != (x == want) {
				t.Fatalf("Sealed of %d bytes and %d = %v, their sum is %d", len(ahead), x, got, want)
			}
		}
	}
}

func TestA1OneByteTurnedIsFound(t *testing.T) {
	for _, s := range []string{"", "a", "hello", "\x02\x01abcd", strings.Repeat("\xff", 30)} {
		sealed := sum.Seal([]byte(s))
		for at := range sealed {
			for turn := 1; turn < 256; turn++ {
				b := bytes.Clone(sealed)
				b[at] ^= byte(turn)
				if sum.Sealed(b) {
					t.Errorf("%q sealed, byte %d turned by %d: still sealed", s, at, turn)
				}
			}
		}
	}
}

func TestA1CutSealIsFound(t *testing.T) {
	sealed := sum.Seal([]byte("hello"))
	for n := range sealed {
		if sum.Sealed(sealed[:n]) {
			t.Errorf("the first %d bytes of %v are sealed", n, sealed)
		}
	}
}

// What is handed in has spare room behind it, that is neither read nor written.
func TestZ2HandedInIsOnlyRead(t *testing.T) {
	room := append(sum.Seal([]byte("hello")), 1, 2, 3, 4)
	before := bytes.Clone(room)
	for n := range room {
		b, alone := room[:n], bytes.Clone(room[:n])
		if got, want := sum.Of(b), sum.Of(alone); got != want {
			t.Errorf("Of(%v) = %d with room behind, %d without", b, got, want)
		}
		if got, want := sum.Seal(b), sum.Seal(alone); !bytes.Equal(got, want) {
			t.Errorf("Seal(%v) = %v with room behind, %v without", b, got, want)
		}
		if got, want := sum.Sealed(b), sum.Sealed(alone); got != want {
			t.Errorf("Sealed(%v) = %v with room behind, %v without", b, got, want)
		}
		if !bytes.Equal(room, before) {
			t.Fatalf("%v was changed to %v", before, room)
		}
	}
}

// Whoever handed bytes in may change them, and whoever was answered may change the answer, its spare room too.
func TestZ2SealAnswersNewMemory(t *testing.T) {
	room := []byte("hello, and more")
	b := room[:5]
	got := sum.Seal(b)
	again := sum.Seal(b)
	want := bytes.Clone(got)
	for k := range room {
		room[k] = '-'
	}
	if !bytes.Equal(got, want) {
		t.Errorf("the answer became %v, was %v, when what was handed in was changed", got, want)
	}
	whole := got[:cap(got)]
	for k := range whole {
		whole[k] = '+'
	}
	if string(room) != strings.Repeat("-", len(room)) {
		t.Errorf("what was handed in became %q when the answer was changed", room)
	}
	if !bytes.Equal(again, want) {
		t.Errorf("another answer became %v, was %v", again, want)
	}
}
