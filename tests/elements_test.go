package tests

import (
	"testing"

	"loop.example/feedbridge/impl"
)

const mostElements = 8

// elementsWritten writes elements by the document's list alone.
func elementsWritten(list []impl.Element) string {
	text := ""
	for _, e := range list {
		text += "<" + e.Name + ">" + written(e.Text) + "</" + e.Name + ">"
	}
	return text
}

// elementsIn reads from the end to the beginning, so that it does not share its way of reading with ReadElements.
func elementsIn(s string) ([]impl.Element, bool) {
	list := []impl.Element{}
	for s != "" {
		e, from := lastElement(s)
		if from == -1 {
			return nil, false
		}
		list = append([]impl.Element{e}, list...)
		s = s[:from]
	}
	if len(list) > mostElements {
		return nil, false
	}
	return list, true
}

// lastElement returns where the last element of a text begins, too; -1 if it ends with none.
func lastElement(s string) (impl.Element, int) {
	closing := lastPlaceOf(s, '<')
	if closing == -1 || len(s) < closing+4 || s[closing+1] != '/' || s[len(s)-1] != '>' {
		return impl.Element{}, -1
	}
	name := s[closing+2 : len(s)-1]
	from := lastPlaceOf(s[:closing], '<')
	begins := from + len(name) + 2
	if !isWord(name) || from == -1 || begins > closing || s[from:begins] != "<"+name+">" {
		return impl.Element{}, -1
	}
	text, ok := unwritten(s[begins:closing])
	if !ok || len(text) > longest {
		return impl.Element{}, -1
	}
	return impl.Element{Name: name, Text: text}, from
}

func lastPlaceOf(s string, b byte) int {
	for k := len(s) - 1; k >= 0; k-- {
		if s[k] == b {
			return k
		}
	}
	return -1
}

func isWord(s string) bool {
	if len(s) < 1 || len(s) > 8 || s[0] < 'a' || s[0] > 'z' {
		return false
	}
	for k := 0; k < len(s); k++ {
		if !isWordByte(int(s[k])) {
			return false
		}
	}
	return true
}

func unwritten(s string) (string, bool) {
	text := ""
	for s != "" {
		b := byteWritten(s)
		if b == -1 {
			return "", false
		}
		text += string([]byte{byte(b)})
		s = s[len(writtenByte(byte(b))):]
	}
	return text, true
}

// byteWritten is -1 if no text is written with this beginning.
func byteWritten(s string) int {
	for b := firstByte; b <= lastByte; b++ {
		piece := writtenByte(byte(b))
		if len(piece) <= len(s) && s[:len(piece)] == piece {
			return b
		}
	}
	return -1
}

func sameElements(a []impl.Element, b []impl.Element) bool {
	if len(a) != len(b) {
		return false
	}
	for k := range a {
		if a[k] != b[k] {
			return false
		}
	}
	return true
}

func copyOf(list []impl.Element) []impl.Element {
	return append([]impl.Element{}, list...)
}

// elementsOfText are so many elements with one text.
func elementsOfText(text string, many int) []impl.Element {
	list := []impl.Element{}
	for k := 0; k < many; k++ {
		list = append(list, impl.Element{Name: "a" + digits(k, 1), Text: text})
	}
	return list
}

// someElements are valid ones; some of their texts and names read as if they were parts of others.
func someElements() [][]impl.Element {
	return [][]impl.Element{
		{},
		{{Name: "a"}},
		{{Name: "a", Text: "x"}},
		{{Name: "a"}, {Name: "a"}},
		{{Name: "a", Text: "1"}, {Name: "a", Text: "2"}, {Name: "a", Text: "1"}},
		{{Name: "title", Text: "a<b"}, {Name: "link"}, {Name: "title", Text: "c"}},
		{{Name: "a", Text: "</a>"}, {Name: "b", Text: "<a></a>"}, {Name: "aa", Text: "<"}, {Name: "ab", Text: ">"}},
		{{Name: "a", Text: "&lt;/a&gt;"}, {Name: "lt", Text: "&"}, {Name: "amp", Text: "\""}, {Name: "gt", Text: ";"}},
		{{Name: "b", Text: "/"}, {Name: "b", Text: "/b"}, {Name: "b", Text: " "}, {Name: "b", Text: "a > b < c"}},
		{{Name: "a23456z8", Text: letters(longest)}, {Name: "a23456z", Text: repeated("\"", longest)}},
		{{Name: "x1"}, {Name: "x11"}, {Name: "x"}, {Name: "x1"}, {Name: "x"}, {Name: "x11"}, {Name: "x"}, {Name: "x"}},
		elementsOfText(repeated("\"", longest), mostElements),
	}
}

func checkElements(t *testing.T, list []impl.Element) {
	t.Helper()
	if !impl.ElementsValid(list) {
		t.Fatalf("%q are valid", list)
	}
	s := impl.ElementsText(list)
	if s != elementsWritten(list) {
		t.Fatalf("ElementsText(%q) is %q", list, s)
	}
	if got, ok := impl.ReadElements(s); !ok || !sameElements(got, list) {
		t.Fatalf("ReadElements(%q) is %q, %t", s, got, ok)
	}
}

func refuseElements(t *testing.T, s string) {
	t.Helper()
	if got, ok := impl.ReadElements(s); ok || len(got) != 0 {
		t.Fatalf("ReadElements(%q) is %q, %t", s, got, ok)
	}
}

// checkRead compares with the other way of reading, and reports whether a text is accepted.
func checkRead(t *testing.T, s string) bool {
	t.Helper()
	want, accepted := elementsIn(s)
	got, ok := impl.ReadElements(s)
	if ok != accepted || !sameElements(got, want) {
		t.Fatalf("ReadElements(%q) is %q, %t", s, got, ok)
	}
	if !ok {
		return false
	}
	if !impl.ElementsValid(got) || impl.ElementsText(got) != s {
		t.Fatalf("%q is accepted as %q, but ElementsText of it is %q", s, got, impl.ElementsText(got))
	}
	return true
}

func checkInvalidElements(t *testing.T, list []impl.Element) {
	t.Helper()
	if impl.ElementsValid(list) {
		t.Fatalf("%q are not valid", list)
	}
	if got := impl.ElementsText(list); got != "" {
		t.Fatalf("ElementsText(%q) is %q", list, got)
	}
	for _, e := range list {
		if got, ok := impl.ElementText(list, e.Name); ok || got != "" {
			t.Fatalf("ElementText(%q, %q) is %q, %t", list, e.Name, got, ok)
		}
	}
}

// checkPlaces puts an element that makes others invalid at every place of lists of every length.
func checkPlaces(t *testing.T, e impl.Element) {
	t.Helper()
	for many := 1; many <= mostElements; many++ {
		for at := 0; at < many; at++ {
			list := elementsOfText("x", many)
			list[at] = e
			checkInvalidElements(t, list)
			refuseElements(t, elementsWritten(list))
		}
	}
}

func TestMaxElements(t *testing.T) {
	if impl.MaxElements != mostElements {
		t.Fatal(impl.MaxElements)
	}
}

// P4: the texts that the document describes, one by one.
func TestP4WrittenElements(t *testing.T) {
	lists := [][]impl.Element{{}, {{Name: "a"}}, {{Name: "a", Text: " "}}, {{Name: "key", Text: "\"<&>\""}}, {{Name: "b", Text: "&lt;"}, {Name: "a", Text: "</b>"}}}
	texts := []string{"", "<a></a>", "<a> </a>", "<key>&quot;&lt;&amp;&gt;&quot;</key>", "<b>&amp;lt;</b><a>&lt;/b&gt;</a>"}
	for k := range lists {
		if got := impl.ElementsText(lists[k]); got != texts[k] {
			t.Fatalf("ElementsText(%q) is %q", lists[k], got)
		}
		if got, ok := impl.ReadElements(texts[k]); !ok || !sameElements(got, lists[k]) {
			t.Fatalf("ReadElements(%q) is %q, %t", texts[k], got, ok)
		}
	}
}

// P4: nothing is a text of no elements, which are valid.
func TestP4NoElements(t *testing.T) {
	if got, ok := impl.ReadElements(""); !ok || len(got) != 0 {
		t.Fatalf("ReadElements of the empty text is %q, %t", got, ok)
	}
	if !impl.ElementsValid(nil) || impl.ElementsText(nil) != "" {
		t.Fatal("no elements are valid, and their text is empty")
	}
}

func TestP4ElementsCanBeRead(t *testing.T) {
	for _, list := range someElements() {
		checkElements(t, list)
	}
	for many := 0; many <= mostElements; many++ {
		for _, text := range []string{"", "a", "<", "&quot;", letters(longest), repeated("&", longest)} {
			checkElements(t, elementsOfText(text, many))
		}
	}
}

// P4: every byte of texts, alone and at every place of the longest one, and every length.
func TestP4EveryByteOfTexts(t *testing.T) {
	for b := firstByte; b <= lastByte; b++ {
		alone := string([]byte{byte(b)})
		checkElements(t, elementsOfText(alone, mostElements))
		for at := 0; at < longest; at++ {
			checkElements(t, []impl.Element{{Name: "a", Text: withByte(letters(longest), at, b)}, {Name: "b"}})
		}
		for many := 0; many <= longest; many++ {
			checkElements(t, []impl.Element{{Name: "b"}, {Name: "a", Text: repeated(alone, many)}})
		}
	}
}

// P4: all short texts of what opens and closes, also those that read as elements themselves.
func TestP4TextsOfElements(t *testing.T) {
	for many := 0; many <= 7; many++ {
		for _, s := range textsOf("<>/a", many) {
			checkElements(t, []impl.Element{{Name: "a", Text: s}, {Name: "aa", Text: s}})
		}
	}
}

// P4: words of every length, and every byte of them.
func TestP4Names(t *testing.T) {
	for many := 1; many <= 8; many++ {
		for b := 0; b < allBytes; b++ {
			for at := 0; at < many; at++ {
				if name := withByte(letters(many), at, b); isWord(name) {
					checkElements(t, []impl.Element{{Name: name, Text: name}, {Name: "a"}})
				}
			}
		}
	}
}

// P4 and P53: arguments stay as they are, also what is behind their ends, and answers are new.
func TestP4ArgumentsStay(t *testing.T) {
	list := elementsOfText("x", mostElements)
	before := copyOf(list)
	impl.ElementsValid(list[:3])
	s := impl.ElementsText(list[:3])
	impl.ElementText(list[:3], "a2")
	if !sameElements(list, before) {
		t.Fatalf("%q are changed to %q", before, list)
	}
	one, _ := impl.ReadElements(s)
	two, _ := impl.ReadElements(s)
	one[0].Name = "changed"
	one = append(one[:1], elementsOfText("y", mostElements)...)
	if !sameElements(two, before[:3]) || sameElements(one[:3], two) {
		t.Fatalf("%q is changed to %q", before[:3], two)
	}
}

// P51: one without a name, or with one that is no word, at every place.
func TestP51ElementsHaveNames(t *testing.T) {
	for _, name := range []string{"", " ", "1", "1a", "A", "aB", "a b", " a", "a ", "a-b", "a_b", "a/", "/a", "<", ">", "<a>", "a>", "&", "a&amp;", "\n", "a\n", "\x00", "a\xff", "\u00e9", letters(9), letters(80), letters(1000)} {
		checkPlaces(t, impl.Element{Name: name})
		checkPlaces(t, impl.Element{Name: name, Text: "x"})
	}
}

func TestP51EveryByteOfNames(t *testing.T) {
	for many := 1; many <= 9; many++ {
		for at := 0; at < many; at++ {
			for b := 0; b < allBytes; b++ {
				name := withByte(letters(many), at, b)
				list := []impl.Element{{Name: "b"}, {Name: name}}
				if impl.ElementsValid(list) != isWord(name) {
					t.Fatalf("%q are valid: %t", list, !isWord(name))
				}
				if !isWord(name) {
					checkInvalidElements(t, list)
					refuseElements(t, elementsWritten(list))
				}
			}
		}
	}
}

// P51: one with a text that is not valid, at every place.
func TestP51ElementsHaveTexts(t *testing.T) {
	for b := 0; b < allBytes; b++ {
		if isTextByte(b) {
			continue
		}
		checkPlaces(t, impl.Element{Name: "a", Text: string([]byte{byte(b)})})
		checkPlaces(t, impl.Element{Name: "a", Text: withByte(letters(longest), longest-1, b)})
	}
	for _, many := range []int{81, 82, 200, 480, 481, 1000} {
		checkPlaces(t, impl.Element{Name: "a", Text: letters(many)})
		checkPlaces(t, impl.Element{Name: "a", Text: repeated("&", many)})
	}
}

// P51: at most MaxElements, whatever they are.
func TestP51ManyElements(t *testing.T) {
	for many := 0; many <= 100; many++ {
		list := []impl.Element{}
		for k := 0; k < many; k++ {
			list = append(list, impl.Element{Name: "a", Text: "x"})
		}
		if many <= mostElements {
			checkElements(t, list)
		} else {
			checkInvalidElements(t, list)
			refuseElements(t, elementsWritten(list))
		}
	}
}

// P51: every part of valid ones, in order or with some left out.
func TestP51PartsAreValid(t *testing.T) {
	for _, list := range someElements() {
		for from := 0; from <= len(list); from++ {
			for till := from; till <= len(list); till++ {
				checkElements(t, list[from:till])
			}
		}
		for chosen := 0; chosen < 1<<len(list); chosen++ {
			part := []impl.Element{}
			for k := range list {
				if chosen>>k&1 == 1 {
					part = append(part, list[k])
				}
			}
			checkElements(t, part)
		}
	}
}

// P52: with any letter after it an accepted text is none.
func TestP52LettersAfter(t *testing.T) {
	for _, list := range someElements() {
		s := elementsWritten(list)
		if !checkRead(t, s) {
			t.Fatalf("ReadElements(%q) is refused", s)
		}
		for b := byte('a'); b <= 'z'; b++ {
			refuseElements(t, s+string([]byte{b}))
			refuseElements(t, s+string([]byte{b - 'a' + 'A'}))
			refuseElements(t, string([]byte{b})+s)
		}
	}
}

// P52: all short texts of what opens and closes.
func TestP52ShortTexts(t *testing.T) {
	accepted := 0
	for many := 0; many <= 8; many++ {
		for _, s := range textsOf("<>/ab", many) {
			if checkRead(t, s) {
				accepted++
			}
		}
	}
	// Of up to eight bytes there are the empty text, two elements without a text, and one of them with a letter or a slash.
	if accepted != 1+2+2*3 {
		t.Fatalf("%d short texts are accepted", accepted)
	}
}

// P52: all texts of up to six pieces.
func TestP52TextsOfPieces(t *testing.T) {
	pieces := []string{"<a>", "</a>", "<b1>", "</b1>", "x", "&lt;", "<", ">"}
	texts := []string{""}
	for many := 1; many <= 6; many++ {
		longer := make([]string, 0, len(texts)*len(pieces))
		for _, text := range texts {
			for _, piece := range pieces {
				checkRead(t, text+piece)
				longer = append(longer, text+piece)
			}
		}
		texts = longer
	}
}

// P52: every byte at every place, in its place and before it, and every place without its byte.
func TestP52EveryByte(t *testing.T) {
	for _, s := range []string{"<a></a>", "<ab1>x&lt;y</ab1>", "<a>x</a><b>&quot;</b>", "<a></a><a></a><a> </a>", "<abcdefgh>1</abcdefgh>"} {
		if !checkRead(t, s) {
			t.Fatalf("ReadElements(%q) is refused", s)
		}
		for at := 0; at <= len(s); at++ {
			checkRead(t, s[:at])
			checkRead(t, s[at:])
			for b := 0; b < allBytes; b++ {
				checkRead(t, s[:at]+string([]byte{byte(b)})+s[at:])
				if at < len(s) {
					checkRead(t, withByte(s, at, b))
				}
			}
			for till := at; till <= len(s); till++ {
				checkRead(t, s[:at]+s[till:])
			}
		}
	}
}

// P52: names that are not closed, closed by others, or closed without being opened.
func TestP52NamesThatAreNotClosed(t *testing.T) {
	for _, s := range []string{"<", "<a", "<a>", "<a>x", "<a><", "<a></", "<a></a", "<a>x</a", "<a>x<", "<a>x</", "<a>x/a>", "<a>xa>", "<a>x<a>", "<a>x</>", "<a>x<a/>", "<a/>", "<a/></a>", "<a//a>", "<a>//a>",
		"<a></b>", "<a></A>", "<a></aa>", "<aa></a>", "<a></ a>", "<a></a >", "<a>< /a>", "<a ></a>", "< a></a>", "<a></a></a>", "<a><a></a>", "<a><a></a></a>", "<a><b></b></a>", "<a><b></a></b>", "<a><b></a>", "<a></b></a>",
		"</a>", "</a><a>", "</a></a>", "/a>", "a>", "a></a>", "<a</a>", "<a<a></a>", "<<a></a>", "<a>></a>", "<a></a>>", "<a></a><", "<a></a><b", "<a></a><b>", "<a></a><b></a>", "<a></a></b>", "<a></a>/", "<></>", "<a></>", "<></a>",
		"<A></A>", "<1></1>", "<abcdefghi></abcdefghi>", "<abcdefgh></abcdefghi>", "<abcdefghi></abcdefgh>", "<a x=\"1\"></a>", "<!a></!a>", "<a>&</a>", "<a>&lt</a>", "<a>\"</a>", "<a>&a;</a>", "<a></a>\n<b></b>", "<a></a> <b></b>", " <a></a>", "<a></a> ", "<a>\n</a>", "\n", "\x00", "a", "&lt;a&gt;&lt;/a&gt;"} {
		refuseElements(t, s)
		refuseElements(t, s+s)
		refuseElements(t, "<b>x</b>"+s)
	}
}

// P52: what counts is the length of the text, not of how it is written.
func TestP52Lengths(t *testing.T) {
	for _, piece := range []string{"a", "&amp;", "&lt;", "&gt;", "&quot;"} {
		for many := 0; many <= 200; many++ {
			text := repeated(piece, many)
			if checkRead(t, "<a>"+text+"</a>") != (many <= longest) || checkRead(t, "<b></b><a>"+text+"x</a>") != (many < longest) {
				t.Fatalf("%d times %q", many, piece)
			}
		}
	}
}

// P52: texts that are much too long are refused, and soon.
func TestP52GreatTexts(t *testing.T) {
	for _, piece := range []string{"<", ">", "/", "a", "&lt;", "<a>", "</a>", "<a></a>", "<a>x</a>", "<>", "</"} {
		s := repeated(piece, 100000)
		refuseElements(t, s)
		refuseElements(t, "<a>"+s)
		refuseElements(t, "<a>"+s+"</a>")
		refuseElements(t, "<a></a><"+s)
		refuseElements(t, "<a></"+s)
	}
}

// firstText searches from the end, so that it does not share its way with ElementText.
func firstText(list []impl.Element, name string) (string, bool) {
	text := ""
	found := false
	for k := len(list) - 1; k >= 0; k-- {
		if list[k].Name == name {
			text = list[k].Text
			found = true
		}
	}
	return text, found
}

func checkFirst(t *testing.T, list []impl.Element, name string) {
	t.Helper()
	want, found := firstText(list, name)
	if got, ok := impl.ElementText(list, name); ok != found || got != want {
		t.Fatalf("ElementText(%q, %q) is %q, %t", list, name, got, ok)
	}
}

// P53: every name of lists, and names that they do not have.
func TestP53FirstElements(t *testing.T) {
	for _, list := range someElements() {
		for _, e := range list {
			checkFirst(t, list, e.Name)
			checkFirst(t, list, e.Name+"0")
			checkFirst(t, list, e.Name[1:])
			checkFirst(t, list, e.Text)
		}
		for _, name := range []string{"", "a", "b", "none", "A", "1", " ", "a ", "<a>", "\n", "\xff", letters(9), letters(100000)} {
			checkFirst(t, list, name)
		}
	}
}

// P53: all lists of up to five elements of two names, each with a text of its own; also an empty text is one.
func TestP53AllOrders(t *testing.T) {
	for many := 0; many <= 5; many++ {
		for _, names := range textsOf("abc", many) {
			list := []impl.Element{}
			for k := 0; k < many; k++ {
				list = append(list, impl.Element{Name: names[k : k+1], Text: repeated("x", k)})
			}
			for _, name := range []string{"", "a", "b", "c", "d"} {
				checkFirst(t, list, name)
			}
		}
	}
}

// P53: in other elements nothing is found, neither before nor after what makes them invalid.
func TestP53OtherElements(t *testing.T) {
	for _, bad := range []impl.Element{{}, {Text: "x"}, {Name: "A"}, {Name: letters(9)}, {Name: "b", Text: "\n"}, {Name: "b", Text: letters(81)}} {
		for _, list := range [][]impl.Element{{bad}, {bad, {Name: "a", Text: "x"}}, {{Name: "a", Text: "x"}, bad}} {
			for _, name := range []string{"a", "b", "c", "", bad.Name} {
				if got, ok := impl.ElementText(list, name); ok || got != "" {
					t.Fatalf("ElementText(%q, %q) is %q, %t", list, name, got, ok)
				}
			}
		}
	}
	if got, ok := impl.ElementText(elementsOfText("x", mostElements+1), "a0"); ok || got != "" {
		t.Fatalf("ElementText of %d elements is %q, %t", mostElements+1, got, ok)
	}
}
