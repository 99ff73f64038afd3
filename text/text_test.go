package text_test

import (
	"bytes"
	"fmt"
	"math"
	"strconv"
	"strings"
	"testing"

	"mirrorheal/api"
	"mirrorheal/model"
	"mirrorheal/text"
)

func write(n int, data string) api.Deed {
	return api.Deed{Kind: api.DeedWrite, N: n, Data: []byte(data)}
}

func swap(n, m int) api.Deed {
	return api.Deed{Kind: api.DeedSwap, N: n, M: m}
}

// alike tells whether two deeds are, field by field.
func alike(a, b api.Deed) bool {
	return a.Kind == b.Kind && a.N == b.N && a.M == b.M && bytes.Equal(a.Data, b.Data)
}

// prints fails unless Print tells this text of a deed.
func prints(t *testing.T, d api.Deed, want string) {
	t.Helper()
	if got := text.Print(d); got != want {
		t.Errorf("Print(%v) = %q, want %q", d, got, want)
	}
}

// parses fails unless Parse tells this deed of a text.
func parses(t *testing.T, s string, want api.Deed) {
	t.Helper()
	if got, err := text.Parse(s); err != api.OK || !alike(got, want) {
		t.Errorf("Parse(%q) = %v, %d, want %v, OK", s, got, err, want)
	}
}

// isText fails unless this text and this deed are each other's.
func isText(t *testing.T, d api.Deed, s string) {
	t.Helper()
	prints(t, d, s)
	parses(t, s, d)
}

// isWrong fails unless Parse tells this error of a text, and beside it no deed.
func isWrong(t *testing.T, s string, want api.Errno) {
	t.Helper()
	if got, err := text.Parse(s); err != want || !alike(got, api.Deed{}) {
		t.Errorf("Parse(%q) = %v, %d, want no deed, %d", s, got, err, want)
	}
}

func TestF1Write(t *testing.T) {
	isText(t, write(4, "abcd"), "write 4 61626364")
	isText(t, write(0, "\x00\x00\x00\x00"), "write 0 00000000")
	isText(t, write(8, "\xff\xff\xff\xff"), "write 8 ffffffff")
	isText(t, write(1, "\x01\x23\x45\x67"), "write 1 01234567")
	isText(t, write(7, "\x89\xab\xcd\xef"), "write 7 89abcdef")
	isText(t, write(2, "    "), "write 2 20202020")
}

func TestF1Swap(t *testing.T) {
	isText(t, swap(1, 2), "swap 1 2")
	isText(t, swap(2, 1), "swap 2 1")
	isText(t, swap(1, 1), "swap 1 1")
	isText(t, swap(3, 5), "swap 3 5")
	isText(t, swap(8, 6), "swap 8 6")
}

func TestF1FirstAndLastBlock(t *testing.T) {
	isText(t, write(0, "abcd"), "write 0 61626364")
	isText(t, write(8, "abcd"), "write 8 61626364")
	isText(t, swap(0, 0), "swap 0 0")
	isText(t, swap(0, 2), "swap 0 2")
	isText(t, swap(2, 0), "swap 2 0")
	isText(t, swap(8, 8), "swap 8 8")
	isText(t, swap(6, 8), "swap 6 8")
	isWrong(t, "write -1 61626364", api.ErrRange)
	isWrong(t, "write 9 61626364", api.ErrRange)
	isWrong(t, "swap -1 0", api.ErrRange)
	isWrong(t, "swap 0 -1", api.ErrRange)
	isWrong(t, "swap 8 9", api.ErrRange)
	isWrong(t, "swap 9 8", api.ErrRange)
}

func TestF1WriteOfEachBlock(t *testing.T) {
	for n := range 9 {
		isText(t, write(n, "a\x00\xf0\x0f"), "write "+strconv.Itoa(n)+" 6100f00f")
	}
}

// Each byte at each place, so that each half of it is each digit, 0 and f among them.
func TestF1EachByte(t *testing.T) {
	for at := range 4 {
		for b := range 256 {
			data := []byte("abcd")
			data[at] = byte(b)
			isText(t, write(4, string(data)), fmt.Sprintf("write 4 %02x%02x%02x%02x", data[0], data[1], data[2], data[3]))
		}
	}
}

// Blocks of one stripe, written out by thirds, are right; those of two are of no right deed.
func TestF1SwapOfEachPair(t *testing.T) {
	for n := range 9 {
		for m := range 9 {
			s := "swap " + strconv.Itoa(n) + " " + strconv.Itoa(m)
			if n/3 == m/3 {
				isText(t, swap(n, m), s)
			} else {
				isWrong(t, s, api.ErrRange)
			}
		}
	}
}

func TestF1OtherFirstWords(t *testing.T) {
	for _, word := range []string{
		"", "zap", "w", "s", "writ", "swa", "rite", "wap", "writes", "swaps", "writee", "sswap", "writeswap", "write,", "read", "deed",
		"Write", "WRITE", "writE", "Swap", "SWAP", "swaP", "wr\u0131te", "write\x00", "\x00write", "swap\n", "\tswap", "write\t", "\xff",
		"1", "2", "4", "61626364",
	} {
		for _, rest := range []string{"", " ", " 4", " 4 5", " 4 61626364", " 9 6", " x", " 4 5 6", " write 4 61626364", " swap 1 2"} {
			isWrong(t, word+rest, api.ErrKind)
		}
	}
}

// Words are parted by blanks alone: other white room is part of a word.
func TestF1OtherWhiteRoom(t *testing.T) {
	for _, room := range []string{"\t", "\n", "\r", "\v", "\f", "\x00", "\u00a0", "\u2003", "_", ",", ""} {
		isWrong(t, "write"+room+"4"+room+"61626364", api.ErrKind)
		isWrong(t, "swap"+room+"1"+room+"2", api.ErrKind)
		isWrong(t, "write 4"+room+"61626364", api.ErrForm)
		isWrong(t, "swap 1"+room+"2", api.ErrForm)
	}
	for _, room := range []string{"\t", "\n", "\r", "\v", "\f", "\x00", "\u00a0", "\u2003"} {
		isWrong(t, "write 4 61626364"+room, api.ErrForm)
		isWrong(t, "write 4 "+room+"61626364", api.ErrForm)
		isWrong(t, "write 4"+room+" 61626364", api.ErrForm)
		isWrong(t, "write "+room+"4 61626364", api.ErrForm)
		isWrong(t, "swap 1 2"+room, api.ErrForm)
		isWrong(t, "swap 1 "+room+"2", api.ErrForm)
	}
}

func TestF1FewerOrMoreWords(t *testing.T) {
	for _, s := range []string{
		"write", "write 4", "write 61626364", "write 4 61626364 5", "write 4 61626364 61626364", "write 4 6162 6364", "write 4 5 6 7 8 9",
		"swap", "swap 1", "swap 1 2 3", "swap 1 2 2", "swap 1 2 swap 1 2", "swap 1 2 3 4 5 6",
	} {
		isWrong(t, s, api.ErrForm)
	}
	for many := range 40 {
		if many != 2 {
			isWrong(t, "swap"+strings.Repeat(" 1", many), api.ErrForm)
		}
	}
	isWrong(t, "swap"+strings.Repeat(" 1", 100000), api.ErrForm)
}

func TestF1NoText(t *testing.T) {
	isWrong(t, "", api.ErrKind)
	for many := range 10 {
		isWrong(t, strings.Repeat(" ", many), api.ErrKind)
	}
}

// A blank ahead makes the first word an empty one, that is of no kind.
func TestF1BlanksAhead(t *testing.T) {
	isWrong(t, " write 4 61626364", api.ErrKind)
	isWrong(t, " swap 1 2", api.ErrKind)
	isWrong(t, "  swap 1 2", api.ErrKind)
	isWrong(t, " 1 2", api.ErrKind)
}

// A blank behind is one word more, that is empty.
func TestF1BlanksBehind(t *testing.T) {
	for _, s := range []string{"write ", "swap ", "swap 1 ", "swap 1 2 ", "swap 1 2  ", "swap 1  ", "write 4 61626364 ", "write 4 61626364  ", "write 4  "} {
		isWrong(t, s, api.ErrForm)
	}
}

func TestF1BlanksInARow(t *testing.T) {
	for _, s := range []string{"write  4 61626364", "write 4  61626364", "write  4  61626364", "swap  1 2", "swap 1  2", "swap   1 2"} {
		isWrong(t, s, api.ErrForm)
	}
}

// An empty word is no number, but it is data without bytes: of these there are too few.
func TestF1EmptyWords(t *testing.T) {
	isWrong(t, "write  ", api.ErrForm)
	isWrong(t, "write  61626364", api.ErrForm)
	isWrong(t, "swap  ", api.ErrForm)
	isWrong(t, "swap  2", api.ErrForm)
	isWrong(t, "swap 1 ", api.ErrForm)
	isWrong(t, "write 4 ", api.ErrMuch)
	isWrong(t, "write 8 ", api.ErrMuch)
	isWrong(t, "write 9 ", api.ErrRange)
}

func TestF1NumbersThatAreNone(t *testing.T) {
	for _, n := range []string{
		"04", "00", "000", "004", "+4", "+0", "+04", "++4", "-0", "-00", "-04", "-01", "--1", "+-1", "-+1", "-", "+", "4-", "4+", "4.", "4.0", ".4", "4e0",
		"a", "four", "x4", "4x", "0x4", "0b1", "0o4", "4_", "_4", "0_4", "4,", "'4'", "\xff", "4\x00", "\x004", "\u0664", "\uff14", "1_0", "1e1", "1,0",
	} {
		isWrong(t, "write "+n+" 61626364", api.ErrForm)
		isWrong(t, "swap "+n+" 4", api.ErrForm)
		isWrong(t, "swap 4 "+n, api.ErrForm)
		isWrong(t, "swap "+n+" "+n, api.ErrForm)
	}
}

// A number below 0 is written by its sign, and is of no block.
func TestF1NumbersOfNoBlock(t *testing.T) {
	for _, n := range []int{
		math.MinInt, math.MinInt + 1, math.MinInt32, -1 << 32, -256, -255, -10, -9, -3, -2, -1,
		9, 10, 11, 16, 99, 100, 255, 256, 260, 1 << 16, math.MaxInt32, 1 << 32, 1<<32 + 4, math.MaxInt - 1, math.MaxInt,
	} {
		no := strconv.Itoa(n)
		isWrong(t, "write "+no+" 61626364", api.ErrRange)
		isWrong(t, "swap "+no+" 4", api.ErrRange)
		isWrong(t, "swap 4 "+no, api.ErrRange)
		isWrong(t, "swap "+no+" "+no, api.ErrRange)
	}
}

// What is no int is no number; the low bits of some of these are those of a block.
func TestF1NumbersTooGreatForAnInt(t *testing.T) {
	for _, n := range []string{
		"9223372036854775808", "-9223372036854775809", "18446744073709551615", "18446744073709551616", "18446744073709551620", "-18446744073709551612",
		"99999999999999999999", "-99999999999999999999", "340282366920938463463374607431768211460",
		strings.Repeat("9", 1000), "-" + strings.Repeat("9", 1000), "1" + strings.Repeat("0", 100000),
	} {
		isWrong(t, "write "+n+" 61626364", api.ErrForm)
		isWrong(t, "swap "+n+" 4", api.ErrForm)
		isWrong(t, "swap 4 "+n, api.ErrForm)
	}
	isWrong(t, "swap 4 9223372036854775807", api.ErrRange)
	isWrong(t, "swap 4 -9223372036854775808", api.ErrRange)
}

// shortWords are all words of at most three of these signs.
func shortWords(signs string) []string {
	l := []string{""}
	for begin, size := 0, 0; size < 3; size++ {
		end := len(l)
		for _, w := range l[begin:end] {
			for _, sign := range signs {
				l = append(l, w+string(sign))
			}
		}
		begin = end
	}
	return l
}

// Of all short words just those are numbers that a number is written as.
func TestF1EachShortNumber(t *testing.T) {
	written := map[string]int{}
	for n := -99; n < 1000; n++ {
		written[strconv.Itoa(n)] = n
	}
	for _, w := range shortWords("0123456789+-.abxe_\t") {
		n, ok := written[w]
		switch {
		case !ok:
			isWrong(t, "write "+w+" 61626364", api.ErrForm)
			isWrong(t, "swap 4 "+w, api.ErrForm)
		case n < 0 || n > 8:
			isWrong(t, "write "+w+" 61626364", api.ErrRange)
			isWrong(t, "swap 4 "+w, api.ErrRange)
		default:
			parses(t, "write "+w+" 61626364", write(n, "abcd"))
		}
	}
}

// Of all bytes just sixteen are digits, wherever they stand. (A blank ends the word.)
func TestF1EachSignAsADigit(t *testing.T) {
	for at := range 8 {
		for b := range 256 {
			word := []byte("61626364")
			word[at] = byte(b)
			s := "write 4 " + string(word)
			if _, err := text.Parse(s); (err == api.OK) != strings.Contains("0123456789abcdef", string([]byte{byte(b)})) {
				t.Errorf("Parse(%q) tells %d", s, err)
			} else if err != api.OK {
				isWrong(t, s, api.ErrForm)
			}
		}
	}
}

func TestF1CapitalDigits(t *testing.T) {
	for _, c := range "ABCDEF" {
		for at := range 8 {
			word := []byte("00000000")
			word[at] = byte(c)
			isWrong(t, "write 4 "+string(word), api.ErrForm)
		}
	}
	isWrong(t, "write 4 ABCDEF01", api.ErrForm)
	isWrong(t, "write 4 abcdef0G", api.ErrForm)
}

// An odd number of digits is no data; an even one is, but a block has just eight of them.
func TestF1NumberOfDigits(t *testing.T) {
	for many := range 100 {
		s := "write 4 " + strings.Repeat("7", many)
		switch {
		case many == 8:
			isText(t, write(4, "wwww"), s)
		case many%2 == 1:
			isWrong(t, s, api.ErrForm)
		default:
			isWrong(t, s, api.ErrMuch)
		}
	}
	isWrong(t, "write 4 "+strings.Repeat("7", 512), api.ErrMuch)
	isWrong(t, "write 4 "+strings.Repeat("7", 520), api.ErrMuch)
	isWrong(t, "write 4 "+strings.Repeat("7", 100000), api.ErrMuch)
	isWrong(t, "write 4 "+strings.Repeat("7", 100001), api.ErrForm)
}

// Data of one byte more or fewer, each of which is written as it must be.
func TestF1DataOfAByteMoreOrFewer(t *testing.T) {
	isWrong(t, "write 4 616263", api.ErrMuch)
	isWrong(t, "write 4 6162636465", api.ErrMuch)
	isWrong(t, "write 4 6162636400", api.ErrMuch)
	isWrong(t, "write 4 0061626364", api.ErrMuch)
	isWrong(t, "write 4 61", api.ErrMuch)
}

func TestF1OtherDigitsOfData(t *testing.T) {
	for _, data := range []string{"0x616263", "+6162636", "-1626364", "abcdefgh", "....abcd", "\u0661\u0662\u0663\u0664", "61_62_63", "zz", "g0", "0g", "0x61626364"} {
		isWrong(t, "write 4 "+data, api.ErrForm)
	}
}

// A kind that there is not is told ahead of all else.
func TestF1KindIsToldFirst(t *testing.T) {
	for _, s := range []string{"zap", "zap 1", "zap 1 2 3", "zap 04 5", "zap 9 9", "zap 9 6162636", "Write 9 616263", "SWAP 2 3", "zap  ", "zap 4 "} {
		isWrong(t, s, api.ErrKind)
	}
}

// What is not so written is told ahead of what is wrong with the deed, at whichever word it is.
func TestF1FormIsToldAheadOfWrong(t *testing.T) {
	for _, s := range []string{
		"write 9 6162636", "write 9 6162636G", "write -1 ABCDEF01", "write 9 61626364 ", "write 9", "write 09 616263", "write +9 61", "write 04 616263",
		"write 4 616263 ", "write 4 6162636465 5", "write x ", "write 4 616", "write 4 616263646", "write 9 616263646",
		"swap 2 03", "swap 02 3", "swap 9 x", "swap x 9", "swap -1 +2", "swap 2 3 4", "swap 9", "swap 9 ", "swap  9", "swap 9 99999999999999999999", "swap 99999999999999999999 9",
	} {
		isWrong(t, s, api.ErrForm)
	}
}

// Where both fit, Wrong tells ErrRange ahead of ErrMuch.
func TestF1RangeIsToldAheadOfMuch(t *testing.T) {
	for _, data := range []string{"", "61", "616263", "6162636465"} {
		isWrong(t, "write -1 "+data, api.ErrRange)
		isWrong(t, "write 9 "+data, api.ErrRange)
		isWrong(t, "write 8 "+data, api.ErrMuch)
	}
}

// The third word is what its kind has there: no number is data, and no data a number, but where it is both.
func TestF1ThirdWordIsOfItsKind(t *testing.T) {
	isWrong(t, "write 4 5", api.ErrForm)
	isWrong(t, "write 4 -1", api.ErrForm)
	isWrong(t, "write 4 10", api.ErrMuch)
	isWrong(t, "swap 4 61626364", api.ErrRange)
	isWrong(t, "swap 4 00000000", api.ErrForm)
	isWrong(t, "swap 4 abcdef01", api.ErrForm)
	parses(t, "write 4 12345678", write(4, "\x12\x34\x56\x78"))
}

// rightDeeds are writes of each block, and swaps of each pair of each stripe.
func rightDeeds() []api.Deed {
	var l []api.Deed
	for n := range 9 {
		l = append(l, write(n, "abcd"), write(n, "\x00\x00\x00\x00"), write(n, "\xff\xf0\x0f\x01"))
		for place := range 3 {
			l = append(l, swap(n, n-n%3+place))
		}
	}
	return l
}

func TestF1WrittenAndReadAgain(t *testing.T) {
	seen := map[string]int{}
	for _, d := range rightDeeds() {
		s := text.Print(d)
		parses(t, s, d)
		seen[s]++
	}
	if len(seen) != len(rightDeeds()) {
		t.Errorf("%d deeds have %d texts", len(rightDeeds()), len(seen))
	}
}

// What Parse tells is a right deed, and no other text is of that deed.
func TestF1ReadAndWrittenAgain(t *testing.T) {
	right := 0
	for _, kind := range []string{"write", "swap", "Write", ""} {
		for _, second := range shortWords("08+- ") {
			for _, third := range append(shortWords("078-a "), "61626364", "0a0b0c0d", "0A0b0c0d") {
				s := kind + " " + second + " " + third
				d, err := text.Parse(s)
				if err != api.OK {
					isWrong(t, s, err)
					continue
				}
				right++
				if wrong := model.Wrong(d); wrong != api.OK {
					t.Errorf("Parse(%q) = %v, that is wrong: %d", s, d, wrong)
				}
				prints(t, d, s)
			}
		}
	}
	if right != 7 {
		t.Errorf("%d texts are of right deeds, want 7: two blocks' two writes, and swaps 0 0, 8 7, 8 8", right)
	}
}

// Fields that a kind has not are zero.
func TestZ4FieldsThatAreNotNamed(t *testing.T) {
	if d, err := text.Parse("write 4 61626364"); err != api.OK || d.M != 0 {
		t.Errorf("a write has M %d, %d", d.M, err)
	}
	if d, err := text.Parse("swap 4 5"); err != api.OK || len(d.Data) != 0 {
		t.Errorf("a swap has Data %v, %d", d.Data, err)
	}
}

// Data without bytes is none, be it nil or not.
func TestZ3DataWithoutBytes(t *testing.T) {
	for _, data := range [][]byte{nil, {}, []byte("abcd")[:0]} {
		d := swap(4, 5)
		d.Data = data
		prints(t, d, "swap 4 5")
	}
}

// Of the text of a wrong deed nothing is said but that no call panics.
func TestZ1PrintOfWrongDeeds(t *testing.T) {
	for _, kind := range []int{math.MinInt, -1, 0, 1, 2, 3, math.MaxInt} {
		for _, n := range []int{math.MinInt, -1, 0, 4, 8, 9, 256, math.MaxInt} {
			for size := range 10 {
				text.Print(api.Deed{Kind: kind, N: n, M: n, Data: make([]byte, size)})
				text.Print(api.Deed{Kind: kind, N: n, Data: make([]byte, size)})
				text.Print(api.Deed{Kind: kind, M: n, Data: make([]byte, size)})
			}
			text.Print(api.Deed{Kind: kind, N: n, M: n})
		}
	}
	text.Print(api.Deed{})
}

// Texts that are cut anywhere, lengthened by any byte, or have any byte at any place, are told of without a panic.
func TestZ1ParseOfAnyText(t *testing.T) {
	for _, s := range []string{"write 4 61626364", "swap 1 2", "swap -1 2", "   ", "\x00\xff\xfe"} {
		for at := range len(s) + 1 {
			text.Parse(s[:at])
			text.Parse(s[at:])
			for b := range 256 {
				text.Parse(s[:at] + string([]byte{byte(b)}) + s[at:])
			}
		}
	}
	text.Parse(strings.Repeat(" ", 1<<20))
	text.Parse("write 4 " + strings.Repeat("\xff", 1<<20))
}

// What a call answers hangs on its arguments alone.
func TestZ1AskedAgain(t *testing.T) {
	for range 50 {
		isText(t, write(4, "abcd"), "write 4 61626364")
		isText(t, swap(1, 2), "swap 1 2")
		isWrong(t, "zap 1 2", api.ErrKind)
	}
}

// withRoom is a copy of b with spare room behind it.
func withRoom(b []byte) []byte {
	return append(bytes.Clone(b), "------------"...)[:len(b)]
}

// fill writes over a list and all its spare room.
func fill(b []byte, x byte) {
	b = b[:cap(b)]
	for k := range b {
		b[k] = x
	}
}

func TestZ2HandedInIsOnlyRead(t *testing.T) {
	for _, d := range rightDeeds() {
		want := text.Print(d)
		before := string(d.Data)
		d.Data = withRoom(d.Data)
		got := text.Print(d)
		if data := string(d.Data[:len(before)+12]); data != before+"------------" {
			t.Errorf("Data, or the room behind, became %q", data)
		}
		fill(d.Data, '*')
		if got != want {
			t.Errorf("the text is %q with room behind Data, %q without", got, want)
		}
	}
}

// What stands behind Data is not looked at: it is neither told, nor does it make a wrong deed right.
func TestZ2SpareRoomIsNotLookedAt(t *testing.T) {
	d := write(4, "")
	d.Data = []byte("abcdefgh")[:4]
	prints(t, d, "write 4 61626364")
	d.Data = []byte("abcdefgh")[2:6]
	prints(t, d, "write 4 63646566")
}

// A text is only read, also where it is a piece of a longer one.
func TestZ2TextIsAPieceOfALongerOne(t *testing.T) {
	long := "write 4 6162636465 swap 1 23"
	parses(t, long[:16], write(4, "abcd"))
	parses(t, long[19:27], swap(1, 2))
	isWrong(t, long[:15], api.ErrForm)
	if long != "write 4 6162636465 swap 1 23" {
		t.Errorf("the text became %q", long)
	}
}

// Whoever was answered may change the answer, its spare room too: no other answer has it.
func TestZ2ParseAnswersNewMemory(t *testing.T) {
	s := "write 4 61626364"
	first, _ := text.Parse(s)
	second, _ := text.Parse(s)
	fill(first.Data, '*')
	if string(second.Data) != "abcd" {
		t.Errorf("another deed's Data became %q", second.Data)
	}
	parses(t, s, write(4, "abcd"))
	if s != "write 4 61626364" {
		t.Errorf("the text became %q", s)
	}
}

// The tests' own numbers stand for the limits: that they are so is seen here.
func TestF1Limits(t *testing.T) {
	if api.MaxBlocks != 9 || api.BlockSize != 4 || strconv.IntSize != 64 {
		t.Errorf("limits are %d blocks of %d bytes, an int of %d bits", api.MaxBlocks, api.BlockSize, strconv.IntSize)
	}
}
