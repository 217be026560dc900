package tests

import (
	"testing"

	"loop.example/feedbridge/impl"
)

const (
	allBytes = 256
	greatest = 1000000000
)

// nextMark counts on by digits alone, so that it does not share its arithmetic with MarkText.
func nextMark(mark string) string {
	tail := ""
	for k := len(mark) - 1; k >= 0; k-- {
		switch b := mark[k]; b {
		case 'z':
			tail = "0" + tail
		case '9':
			return mark[:k] + "a" + tail
		default:
			return mark[:k] + string([]byte{b + 1}) + tail
		}
	}
	return "1" + tail
}

func letters(many int) string {
	text := make([]byte, many)
	for k := range text {
		text[k] = 'a'
	}
	return string(text)
}

func withByte(s string, at int, b int) string {
	return s[:at] + string([]byte{byte(b)}) + s[at+1:]
}

func isWordByte(b int) bool {
	return b >= 'a' && b <= 'z' || b >= '0' && b <= '9'
}

func checkMarks(t *testing.T, from int, mark string, many int) {
	t.Helper()
	for n := from; n < from+many; n++ {
		if got := impl.MarkText(n); got != mark {
			t.Fatalf("MarkText(%d) is %q, not %q", n, got, mark)
		}
		if got := impl.ReadMark(mark); got != n {
			t.Fatalf("ReadMark(%q) is %d, not %d", mark, got, n)
		}
		mark = nextMark(mark)
	}
}

func TestLimits(t *testing.T) {
	if impl.MaxWord != 8 || impl.MaxText != 80 || impl.Great != greatest {
		t.Fatal(impl.MaxWord, impl.MaxText, impl.Great)
	}
}

// P1: ordinary numbers, every number of digits, and Great.
func TestP1MarksCanBeRead(t *testing.T) {
	checkMarks(t, 0, "0", 50000)
	checkMarks(t, 46656-1, "zzz", 1000)
	checkMarks(t, 1679616-1, "zzzz", 1000)
	checkMarks(t, 60466176-1, "zzzzz", 1000)
	checkMarks(t, greatest-28, "gjdgx0", 29)
}

// P1: from end to end, in steps that are prime to the base.
func TestP1MarksCanBeReadEverywhere(t *testing.T) {
	for n := 0; n <= greatest; n += 9973 {
		if got := impl.ReadMark(impl.MarkText(n)); got != n {
			t.Fatalf("ReadMark of MarkText(%d) is %d", n, got)
		}
	}
}

// P1: other numbers have no mark, and no mark is read as one of them.
func TestP1OtherNumbersHaveNoMark(t *testing.T) {
	most := int(^uint(0) >> 1)
	for _, n := range []int{-1, -35, -36, -greatest, -most - 1, greatest + 1, greatest + 36, most} {
		if got := impl.MarkText(n); got != "" {
			t.Fatalf("MarkText(%d) is %q", n, got)
		}
	}
	if got := impl.ReadMark(""); got != -1 {
		t.Fatalf("ReadMark of the empty text is %d", got)
	}
}

// P42: every byte alone, first and second, and both limits of the length.
func TestP42Words(t *testing.T) {
	for b := 0; b < allBytes; b++ {
		alone := string([]byte{byte(b)})
		isLetter := b >= 'a' && b <= 'z'
		if impl.WordValid(alone) != isLetter {
			t.Fatalf("WordValid(%q) is %t", alone, !isLetter)
		}
		if impl.WordValid(alone+"a1") != isLetter {
			t.Fatalf("WordValid(%q) is %t", alone+"a1", !isLetter)
		}
		if impl.WordValid("a"+alone) != isWordByte(b) {
			t.Fatalf("WordValid(%q) is %t", "a"+alone, !isWordByte(b))
		}
	}
	for many := 0; many <= 20; many++ {
		if impl.WordValid(letters(many)) != (many >= 1 && many <= 8) {
			t.Fatalf("a word of %d bytes", many)
		}
	}
	if impl.WordValid(letters(100000)) {
		t.Fatal("a word of 100000 bytes")
	}
}

func TestP42EveryByteOfWords(t *testing.T) {
	for many := 2; many <= 8; many++ {
		for at := 1; at < many; at++ {
			for b := 0; b < allBytes; b++ {
				s := withByte(letters(many), at, b)
				if impl.WordValid(s) != isWordByte(b) {
					t.Fatalf("WordValid(%q) is %t", s, !isWordByte(b))
				}
			}
		}
	}
}

// P42: a space anywhere makes a valid word none; its first byte alone is one.
func TestP42WordsHaveNoSpaces(t *testing.T) {
	for _, s := range []string{"a", "z", "a1", "z9", "feed", "x0y1z2", "a0000000", "abcdefgh"} {
		if !impl.WordValid(s) {
			t.Fatalf("%q is a word", s)
		}
		if !impl.WordValid(s[:1]) {
			t.Fatalf("%q is a word", s[:1])
		}
		for at := 0; at <= len(s); at++ {
			if impl.WordValid(s[:at] + " " + s[at:]) {
				t.Fatalf("%q with a space at %d is no word", s, at)
			}
		}
		for at := 0; at < len(s); at++ {
			if impl.WordValid(withByte(s, at, ' ')) {
				t.Fatalf("%q with a space for the byte %d is no word", s, at)
			}
		}
	}
}

// P43: every byte at every place of the longest text, and both limits of the length.
func TestP43Texts(t *testing.T) {
	longest := letters(80)
	for at := 0; at < len(longest); at++ {
		for b := 0; b < allBytes; b++ {
			if impl.TextValid(withByte(longest, at, b)) != (b >= 32 && b <= 126) {
				t.Fatalf("the byte %d at %d", b, at)
			}
		}
	}
	for many := 0; many <= 200; many++ {
		if impl.TextValid(letters(many)) != (many <= 80) {
			t.Fatalf("a text of %d bytes", many)
		}
	}
	if impl.TextValid(letters(100000)) {
		t.Fatal("a text of 100000 bytes")
	}
}

// P43: a line end anywhere makes a valid text invalid; its beginnings are valid.
func TestP43TextsHaveNoLineEnds(t *testing.T) {
	for _, s := range []string{"", " ", "~", "a", " A~", "A title: \"x\" & <y>!", letters(79), letters(80)} {
		for at := 0; at <= len(s); at++ {
			if !impl.TextValid(s[:at]) {
				t.Fatalf("%q is valid", s[:at])
			}
			if impl.TextValid(s[:at]+"\n"+s[at:]) || impl.TextValid(s[:at]+"\r"+s[at:]) {
				t.Fatalf("%q with a line end at %d is not valid", s, at)
			}
		}
	}
}

// P44: of all texts of up to two bytes, only the marks of the 1296 least numbers are accepted.
func TestP44AllShortTexts(t *testing.T) {
	accepted := 0
	for a := 0; a < allBytes; a++ {
		accepted += checkCanonical(t, string([]byte{byte(a)}))
		for b := 0; b < allBytes; b++ {
			accepted += checkCanonical(t, string([]byte{byte(a), byte(b)}))
		}
	}
	if accepted != 1296 {
		t.Fatalf("%d short texts are accepted", accepted)
	}
}

func checkCanonical(t *testing.T, s string) int {
	t.Helper()
	n := impl.ReadMark(s)
	if n == -1 {
		return 0
	}
	if got := impl.MarkText(n); got != s {
		t.Fatalf("%q is accepted, but MarkText of it is %q", s, got)
	}
	if got := impl.ReadMark("0" + s); got != -1 {
		t.Fatalf("%q with a zero before it is read as %d", s, got)
	}
	return 1
}

// P44: every byte at every place of a long mark.
func TestP44EveryByteOfMarks(t *testing.T) {
	for _, mark := range []string{"abc", "10000", "a1b2c3", "gjdgxs"} {
		for at := 0; at < len(mark); at++ {
			for b := 0; b < allBytes; b++ {
				s := withByte(mark, at, b)
				isMark := isWordByte(b) && s[0] != '0' && (len(s) < 6 || s <= "gjdgxs")
				if (checkCanonical(t, s) == 1) != isMark {
					t.Fatalf("ReadMark(%q) is %d", s, impl.ReadMark(s))
				}
			}
		}
	}
}

// P44: zeros before marks, of any number.
func TestP44ZerosBefore(t *testing.T) {
	for _, mark := range []string{"0", "1", "9", "a", "z", "10", "zz", "gjdgxs"} {
		if checkCanonical(t, mark) != 1 {
			t.Fatalf("%q is a mark", mark)
		}
		for many := 1; many <= 40; many++ {
			mark = "0" + mark
			if got := impl.ReadMark(mark); got != -1 {
				t.Fatalf("ReadMark(%q) is %d", mark, got)
			}
		}
	}
}

// P44: numbers past Great are refused, also those that no built-in integer holds.
func TestP44PastGreat(t *testing.T) {
	mark := "gjdgxs"
	for k := 0; k < 1000; k++ {
		mark = nextMark(mark)
		if got := impl.ReadMark(mark); got != -1 {
			t.Fatalf("ReadMark(%q) is %d", mark, got)
		}
	}
	for _, s := range []string{"zzzzzz", "1000000", "gjdgxs0", "1z141z4", "3w5e11264sgsg", "1y2p0ij32e8e8"} {
		if got := impl.ReadMark(s); got != -1 {
			t.Fatalf("ReadMark(%q) is %d", s, got)
		}
	}
	for many := 7; many <= 100; many++ {
		for b := 0; b < allBytes; b++ {
			s := withByte(letters(many), 0, b)
			if got := impl.ReadMark(s); got != -1 {
				t.Fatalf("ReadMark(%q) is %d", s, got)
			}
		}
	}
}

// P44: signs, spaces and capital letters are no digits.
func TestP44InvalidMarks(t *testing.T) {
	for _, s := range []string{"-1", "+1", " 1", "1 ", "1\n", "A", "1A", "-", "-0", "1.0", "0x1", "\x00", "\xff", "\u0661"} {
		if got := impl.ReadMark(s); got != -1 {
			t.Fatalf("ReadMark(%q) is %d", s, got)
		}
	}
}
