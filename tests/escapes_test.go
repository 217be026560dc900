package tests

import (
	"testing"

	"loop.example/feedbridge/impl"
)

const (
	firstByte = 32
	lastByte  = 126
	longest   = 80
)

// writtenByte tells how a byte is written, by the document's list alone.
func writtenByte(b byte) string {
	switch b {
	case 38:
		return "&amp;"
	case 60:
		return "&lt;"
	case 62:
		return "&gt;"
	case 34:
		return "&quot;"
	}
	return string([]byte{b})
}

func written(s string) string {
	text := ""
	for k := 0; k < len(s); k++ {
		text = text + writtenByte(s[k])
	}
	return text
}

// isWritten tries every byte of a text for the beginning, so that it does not share its way of reading with UnescapeText.
func isWritten(s string) bool {
	if s == "" {
		return true
	}
	for b := firstByte; b <= lastByte; b++ {
		piece := writtenByte(byte(b))
		if len(piece) <= len(s) && s[:len(piece)] == piece && isWritten(s[len(piece):]) {
			return true
		}
	}
	return false
}

// without cuts the first part out and begins anew, so that it does not share its steps with PlainOf.
func without(s string) string {
	from := placeOf(s, '<')
	if from == len(s) {
		return s
	}
	till := placeOf(s[from:], '>')
	if from+till == len(s) {
		return s[:from]
	}
	return s[:from] + without(s[from+till+1:])
}

// placeOf is the length of the text for a byte that it does not have.
func placeOf(s string, b byte) int {
	for k := 0; k < len(s); k++ {
		if s[k] == b {
			return k
		}
	}
	return len(s)
}

func repeated(piece string, many int) string {
	text := make([]byte, 0, many*len(piece))
	for k := 0; k < many; k++ {
		text = append(text, piece...)
	}
	return string(text)
}

// textsOf are all texts of so many letters of an alphabet.
func textsOf(alphabet string, many int) []string {
	texts := []string{""}
	for k := 0; k < many; k++ {
		longer := []string{}
		for _, text := range texts {
			for at := 0; at < len(alphabet); at++ {
				longer = append(longer, text+alphabet[at:at+1])
			}
		}
		texts = longer
	}
	return texts
}

func isTextByte(b int) bool {
	return b >= firstByte && b <= lastByte
}

func checkEscape(t *testing.T, s string) {
	t.Helper()
	escaped := impl.EscapeText(s)
	if escaped != written(s) {
		t.Fatalf("EscapeText(%q) is %q", s, escaped)
	}
	if placeOf(escaped, '<') != len(escaped) || placeOf(escaped, '>') != len(escaped) {
		t.Fatalf("EscapeText(%q) is %q", s, escaped)
	}
	if got, ok := impl.UnescapeText(escaped); !ok || got != s {
		t.Fatalf("UnescapeText(%q) is %q, %t", escaped, got, ok)
	}
}

func refuseEscaped(t *testing.T, s string) {
	t.Helper()
	if got, ok := impl.UnescapeText(s); ok || got != "" {
		t.Fatalf("UnescapeText(%q) is %q, %t", s, got, ok)
	}
}

// checkWritten reports whether a text is accepted.
func checkWritten(t *testing.T, s string) bool {
	t.Helper()
	text, ok := impl.UnescapeText(s)
	if !ok {
		refuseEscaped(t, s)
		return false
	}
	if !impl.TextValid(text) {
		t.Fatalf("UnescapeText(%q) is %q", s, text)
	}
	if got := impl.EscapeText(text); got != s || got != written(text) {
		t.Fatalf("%q is accepted as %q, but EscapeText of it is %q", s, text, got)
	}
	refuseEscaped(t, s+"&")
	return true
}

func checkPlain(t *testing.T, s string) {
	t.Helper()
	plain := impl.PlainOf(s)
	if plain != without(s) {
		t.Fatalf("PlainOf(%q) is %q", s, plain)
	}
	if placeOf(plain, '<') != len(plain) {
		t.Fatalf("PlainOf(%q) is %q", s, plain)
	}
	if placeOf(s, '<') == len(s) && plain != s {
		t.Fatalf("PlainOf(%q) is %q", s, plain)
	}
	if got := impl.PlainOf(plain); got != plain {
		t.Fatalf("PlainOf(%q) is %q", plain, got)
	}
}

// P3: the texts of the document's list, one by one.
func TestP3Names(t *testing.T) {
	plain := []string{"", "a", " ", "~", "&", "<", ">", "\"", "'", ";", "&amp;", "&lt;", "a < b & c > \"d\"", "&&", "&;", "#38;"}
	want := []string{"", "a", " ", "~", "&amp;", "&lt;", "&gt;", "&quot;", "'", ";", "&amp;amp;", "&amp;lt;", "a &lt; b &amp; c &gt; &quot;d&quot;", "&amp;&amp;", "&amp;;", "#38;"}
	for k := range plain {
		if got := impl.EscapeText(plain[k]); got != want[k] {
			t.Fatalf("EscapeText(%q) is %q", plain[k], got)
		}
		checkEscape(t, plain[k])
	}
}

// P3: every byte of a text, alone, before every other one, and at every place of the longest text.
func TestP3EveryByte(t *testing.T) {
	for a := firstByte; a <= lastByte; a++ {
		checkEscape(t, string([]byte{byte(a)}))
		for b := firstByte; b <= lastByte; b++ {
			checkEscape(t, string([]byte{byte(a), byte(b)}))
		}
		for at := 0; at < longest; at++ {
			checkEscape(t, withByte(letters(longest), at, a))
		}
		for many := 0; many <= longest; many++ {
			checkEscape(t, repeated(string([]byte{byte(a)}), many))
		}
	}
}

// P3: all texts of up to five bytes of names and of what is named, also those that read as names themselves.
func TestP3TextsOfNames(t *testing.T) {
	for many := 0; many <= 5; many++ {
		for _, s := range textsOf("&<>\"lt;", many) {
			checkEscape(t, s)
		}
	}
}

func refuseTexts(t *testing.T, s string) {
	t.Helper()
	if got := impl.EscapeText(s); got != "" {
		t.Fatalf("EscapeText(%q) is %q", s, got)
	}
	if got := impl.PlainOf(s); got != "" {
		t.Fatalf("PlainOf(%q) is %q", s, got)
	}
}

// P3 and P50: other bytes, at every place, also inside of what is left out, and other lengths.
func TestP3AndP50InvalidTexts(t *testing.T) {
	for b := 0; b < allBytes; b++ {
		if isTextByte(b) {
			continue
		}
		alone := string([]byte{byte(b)})
		refuseTexts(t, alone)
		refuseTexts(t, "a<"+alone+">b")
		refuseTexts(t, "a<"+alone)
		refuseTexts(t, "a&"+alone+"&")
		for at := 0; at < longest; at++ {
			refuseTexts(t, withByte(letters(longest), at, b))
		}
	}
	for _, many := range []int{81, 82, 100, 480, 481, 100000} {
		refuseTexts(t, letters(many))
		for k := 0; k < 4; k++ {
			refuseTexts(t, repeated("&<>\""[k:k+1], many))
		}
		refuseTexts(t, "a<"+letters(many-3)+">")
	}
}

// P49: of all texts of up to two bytes, only those without the four bytes are accepted.
func TestP49AllShortTexts(t *testing.T) {
	if !checkWritten(t, "") {
		t.Fatal("the empty text is one")
	}
	accepted := 0
	for a := 0; a < allBytes; a++ {
		if checkWritten(t, string([]byte{byte(a)})) {
			accepted++
		}
		for b := 0; b < allBytes; b++ {
			if checkWritten(t, string([]byte{byte(a), byte(b)})) {
				accepted++
			}
		}
	}
	if accepted != 91+91*91 {
		t.Fatalf("%d short texts are accepted", accepted)
	}
}

// P49: all texts of up to six bytes of one name, and of two that begin or end in the same way.
func TestP49TextsOfNames(t *testing.T) {
	for many := 0; many <= 6; many++ {
		for _, s := range textsOf("&lgt;", many) {
			if checkWritten(t, s) != isWritten(s) {
				t.Fatalf("UnescapeText(%q) is accepted: %t", s, !isWritten(s))
			}
		}
		for _, s := range textsOf("&amp;", many) {
			if checkWritten(t, s) != isWritten(s) {
				t.Fatalf("UnescapeText(%q) is accepted: %t", s, !isWritten(s))
			}
		}
	}
}

// P49: every byte at every place of names, in its place and before it, and every place without its byte.
func TestP49EveryByteOfNames(t *testing.T) {
	for _, name := range []string{"&amp;", "&lt;", "&gt;", "&quot;"} {
		for _, s := range []string{name, "a" + name, name + "b", name + name, "&lt;" + name + "&amp;"} {
			checkEveryByte(t, s)
		}
	}
}

func checkEveryByte(t *testing.T, s string) {
	t.Helper()
	checkOne(t, s)
	for at := 0; at <= len(s); at++ {
		checkOne(t, s[:at])
		checkOne(t, s[at:])
		for b := 0; b < allBytes; b++ {
			checkOne(t, s[:at]+string([]byte{byte(b)})+s[at:])
			if at < len(s) {
				checkOne(t, withByte(s, at, b))
			}
		}
		if at < len(s) {
			checkOne(t, s[:at]+s[at+1:])
		}
	}
}

func checkOne(t *testing.T, s string) {
	t.Helper()
	if checkWritten(t, s) != isWritten(s) {
		t.Fatalf("UnescapeText(%q) is accepted: %t", s, !isWritten(s))
	}
}

// P49: names that are none.
func TestP49OtherNames(t *testing.T) {
	for _, s := range []string{"&", "&&", "&;", "& ", "& amp;", "&amp ;", "&amp", "&am", "&a", "&lt", "&l", "&gt", "&g", "&quot", "&quo", "&qu", "&q",
		"&x;", "&apos;", "&nbsp;", "&#38;", "&#34;", "&#x26;", "&AMP;", "&Amp;", "&LT;", "&GT;", "&QUOT;", "&ampamp;", "&amp&amp;", "&&amp;", "&amp;&", "&amp;&amp", "&lt&gt;",
		"&lq;", "&qt;", "&tl;", "&quott;", "&quo;", "&am;", "&mp;", "&ltt;", "&llt;", "&lt,", "&lt:", "&l;t", "&;lt", "<", ">", "\"", "a<b", "a>b", "a\"b", "<b>", "&lt;b>", "<b&gt;",
		"\n", "a\n", "&amp;\n", "\x00", "\x7f", "\xff", "&\x00;", "&amp\xbb", "\u00e9", "&l\u0167;"} {
		refuseEscaped(t, s)
		refuseEscaped(t, "a"+s)
		refuseEscaped(t, "&amp;"+s)
		refuseEscaped(t, "&quot;&lt;"+s+" ")
	}
	for _, s := range []string{"amp;", "lt;", ";", "#38;", "amp", "&amp;amp;", "&amp;amp", "&amp;;", "&amp;#38;", "'", "a b", "&lt;b&gt;", "&amp;&lt;&gt;&quot;"} {
		if !checkWritten(t, s) {
			t.Fatalf("UnescapeText(%q) is refused", s)
		}
	}
}

// P49: other bytes at every place of the longest text.
func TestP49EveryByteOfTexts(t *testing.T) {
	for at := 0; at < longest; at++ {
		for b := 0; b < allBytes; b++ {
			isPlain := isTextByte(b) && b != 38 && b != 60 && b != 62 && b != 34
			if s := withByte(letters(longest), at, b); checkWritten(t, s) != isPlain {
				t.Fatalf("UnescapeText(%q) is accepted: %t", s, !isPlain)
			}
		}
	}
}

// P49: what counts is the length of the text, not of how it is written.
func TestP49Lengths(t *testing.T) {
	for _, piece := range []string{"a", "&amp;", "&lt;", "&gt;", "&quot;"} {
		for many := 0; many <= 200; many++ {
			s := repeated(piece, many)
			if checkWritten(t, s) != (many <= longest) {
				t.Fatalf("%d times %q", many, piece)
			}
			if checkWritten(t, "&quot;"+s) != (many < longest) || checkWritten(t, s+"z") != (many < longest) {
				t.Fatalf("%d times %q, and one byte more", many, piece)
			}
		}
		refuseEscaped(t, repeated(piece, 100000))
	}
}

// P50: the texts that the document names, and their neighbours.
func TestP50PlainTexts(t *testing.T) {
	texts := []string{"", "a", "<", ">", "<>", "><", "<<>", "<>>", "<<>>", "<b>", "a<b>c", "a<b", "a>b", "a>b<c", "a<b>c<d", "a<b>c</b>d>e<f", "<<a>b", "<a<b>c>d", "a < b > c", "<a href=\"x>y\">z", "&lt;b&gt;", "&lt;<b>&gt;", "\"<\">\""}
	want := []string{"", "a", "", ">", "", ">", "", ">", ">", "", "ac", "a", "a>b", "a>b", "ac", "acd>e", "b", "c>d", "a  c", "y\">z", "&lt;b&gt;", "&lt;&gt;", "\"\""}
	for k := range texts {
		if got := impl.PlainOf(texts[k]); got != want[k] {
			t.Fatalf("PlainOf(%q) is %q", texts[k], got)
		}
		checkPlain(t, texts[k])
	}
}

// P50: all texts of up to eight bytes of the two that count and two others.
func TestP50AllTexts(t *testing.T) {
	for many := 0; many <= 8; many++ {
		for _, s := range textsOf("<>a&", many) {
			checkPlain(t, s)
		}
	}
}

// P50: every byte inside of what is left out, outside of it, and at every place of the longest text.
func TestP50EveryByte(t *testing.T) {
	for b := firstByte; b <= lastByte; b++ {
		alone := string([]byte{byte(b)})
		for _, s := range []string{alone, "<" + alone + ">", "a<" + alone, alone + "<a>" + alone, alone + ">" + alone + "<" + alone, "<a>" + alone + "<b>"} {
			checkPlain(t, s)
		}
		for at := 0; at < longest; at++ {
			checkPlain(t, withByte(letters(longest), at, b))
			checkPlain(t, withByte(repeated("<b>c", longest/4), at, b))
		}
		for many := 0; many <= longest; many++ {
			checkPlain(t, repeated(alone, many))
		}
	}
}
