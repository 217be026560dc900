package tests

import (
	"testing"

	"loop.example/feedbridge/impl"
)

// longestHandle is an @ and a longest word, twice.
const longestHandle = 18

// handleIn tries every place for the second @, from the end on, so that it does not share its way of reading with ReadHandle.
func handleIn(s string) (impl.Handle, bool) {
	if len(s) > longestHandle {
		return impl.Handle{}, false
	}
	for at := len(s) - 1; at > 0; at-- {
		h := impl.Handle{Name: s[1:at], Host: s[at+1:]}
		if isWord(h.Name) && isWord(h.Host) && s == handleWritten(h) {
			return h, true
		}
	}
	return impl.Handle{}, false
}

func handleWritten(h impl.Handle) string {
	return "@" + h.Name + "@" + h.Host
}

// handleBefore compares byte by byte (keyBefore), so that it does not share its way of comparing with HandleBefore.
func handleBefore(a impl.Handle, b impl.Handle) bool {
	if keyBefore(a.Host, b.Host) {
		return true
	}
	return !keyBefore(b.Host, a.Host) && keyBefore(a.Name, b.Name)
}

func exchanged(h impl.Handle) impl.Handle {
	return impl.Handle{Name: h.Host, Host: h.Name}
}

func someWords() []string {
	return []string{"a", "z", "b", "aa", "ab", "a0", "a9", "z9z", "ann", "red", "x0y1z2", "a0000000", "abcdefg", "abcdefgh", "abcdefgi", "zzzzzzzz"}
}

// badWords are no words, each for a reason of its own.
func badWords() []string {
	return []string{"", " ", "1", "1a", "0", "A", "aB", "ANN", "a b", " a", "a ", "a-b", "a_b", "a.b", "a:1", "a/b", "@", "@a", "a@", "a@b", "@@", "a@b@c", "@a@b", "\n", "a\n", "\na", "a\r", "a\t", "\x00", "a\x00", "\x00a", "\xff", "a\xff", "\u00e9", "a\u00e9", letters(9), letters(17), letters(80), letters(100000)}
}

// allHandles are those of every two words.
func allHandles(words []string) []impl.Handle {
	list := []impl.Handle{}
	for _, name := range words {
		for _, host := range words {
			list = append(list, impl.Handle{Name: name, Host: host})
		}
	}
	return list
}

func checkHandle(t *testing.T, h impl.Handle) {
	t.Helper()
	if !impl.HandleValid(h) {
		t.Fatalf("%q is valid", h)
	}
	s := impl.HandleText(h)
	if s != handleWritten(h) {
		t.Fatalf("HandleText(%q) is %q", h, s)
	}
	if got, ok := impl.ReadHandle(s); !ok || got != h {
		t.Fatalf("ReadHandle(%q) is %q, %t", s, got, ok)
	}
}

func refuseHandle(t *testing.T, s string) {
	t.Helper()
	if got, ok := impl.ReadHandle(s); ok || got != (impl.Handle{}) {
		t.Fatalf("ReadHandle(%q) is %q, %t", s, got, ok)
	}
}

func checkInvalidHandle(t *testing.T, h impl.Handle) {
	t.Helper()
	if impl.HandleValid(h) {
		t.Fatalf("%q is not valid", h)
	}
	if got := impl.HandleText(h); got != "" {
		t.Fatalf("HandleText(%q) is %q", h, got)
	}
	refuseHandle(t, handleWritten(h))
}

// checkWords reports whether two words are a handle, which they are as well the other way round.
func checkWords(t *testing.T, name string, host string) bool {
	t.Helper()
	h := impl.Handle{Name: name, Host: host}
	if !isWord(name) || !isWord(host) {
		checkInvalidHandle(t, h)
		checkInvalidHandle(t, exchanged(h))
		return false
	}
	checkHandle(t, h)
	checkHandle(t, exchanged(h))
	return true
}

// checkReadHandle compares with the other way of reading, and reports whether a text is accepted.
func checkReadHandle(t *testing.T, s string) bool {
	t.Helper()
	want, accepted := handleIn(s)
	got, ok := impl.ReadHandle(s)
	if ok != accepted || got != want {
		t.Fatalf("ReadHandle(%q) is %q, %t", s, got, ok)
	}
	if !ok {
		return false
	}
	if !impl.HandleValid(got) || impl.HandleText(got) != s {
		t.Fatalf("%q is accepted as %q, but HandleText of it is %q", s, got, impl.HandleText(got))
	}
	refuseHandle(t, s+"@")
	return true
}

// checkOrder compares with the other way of comparing, both ways round.
func checkOrder(t *testing.T, a impl.Handle, b impl.Handle) {
	t.Helper()
	ahead := impl.HandleBefore(a, b)
	behind := impl.HandleBefore(b, a)
	if ahead != handleBefore(a, b) || behind != handleBefore(b, a) {
		t.Fatalf("%q before %q is %t, and the other way round %t", a, b, ahead, behind)
	}
	if a == b && (ahead || behind) {
		t.Fatalf("%q stands before itself", a)
	}
	if a != b && ahead == behind {
		t.Fatalf("%q before %q is %t, and so it is the other way round", a, b, ahead)
	}
}

// P9: the texts that the document describes, one by one.
func TestP9KnownHandles(t *testing.T) {
	handles := []impl.Handle{{Name: "ann", Host: "red"}, {Name: "red", Host: "ann"}, {Name: "a", Host: "a"}, {Name: "a1", Host: "b"}, {Name: "abcdefgh", Host: "z0000000"}}
	texts := []string{"@ann@red", "@red@ann", "@a@a", "@a1@b", "@abcdefgh@z0000000"}
	for k := range handles {
		if got := impl.HandleText(handles[k]); got != texts[k] {
			t.Fatalf("HandleText(%q) is %q", handles[k], got)
		}
		if got, ok := impl.ReadHandle(texts[k]); !ok || got != handles[k] {
			t.Fatalf("ReadHandle(%q) is %q, %t", texts[k], got, ok)
		}
	}
}

func TestP9HandlesCanBeRead(t *testing.T) {
	for _, h := range allHandles(someWords()) {
		checkHandle(t, h)
	}
}

// P9 and P62: every two lengths, of which those of 1 to 8 bytes are words.
func TestP9Lengths(t *testing.T) {
	for name := 0; name <= 20; name++ {
		for host := 0; host <= 20; host++ {
			valid := name >= 1 && name <= 8 && host >= 1 && host <= 8
			if checkWords(t, letters(name), letters(host)) != valid {
				t.Fatalf("a name of %d bytes at a host of %d", name, host)
			}
		}
	}
}

// P9 and P62: every byte at every place of names and hosts of every length.
func TestP9EveryByteOfWords(t *testing.T) {
	for many := 1; many <= 9; many++ {
		for at := 0; at < many; at++ {
			for b := 0; b < allBytes; b++ {
				word := withByte(letters(many), at, b)
				checkWords(t, word, "b")
				checkWords(t, word, "abcdefgh")
				checkWords(t, word, word)
			}
		}
	}
}

// P62: without a host, or without a name, there is no handle.
func TestP62HandlesWithoutHost(t *testing.T) {
	for _, word := range append(someWords(), badWords()...) {
		checkInvalidHandle(t, impl.Handle{Name: word})
		checkInvalidHandle(t, impl.Handle{Host: word})
	}
	for _, word := range someWords() {
		refuseHandle(t, word)
		refuseHandle(t, "@"+word)
		refuseHandle(t, "@"+word+"@")
		refuseHandle(t, "@@"+word)
	}
	for _, s := range []string{"", "@", "@@", "@@@", "@@@@", "a", "a@", "a@b"} {
		refuseHandle(t, s)
	}
	checkInvalidHandle(t, impl.Handle{})
}

// P62: one that is no word makes a handle invalid, whichever it is, and whatever the other one is.
func TestP62HandlesHaveTwoWords(t *testing.T) {
	for _, bad := range badWords() {
		for _, other := range append(someWords(), badWords()...) {
			if checkWords(t, bad, other) {
				t.Fatalf("%q is no word, so it makes no handle with %q", bad, other)
			}
		}
	}
}

// P62: with both exchanged it is valid, and another one if they are different.
func TestP62BothExchanged(t *testing.T) {
	for _, h := range allHandles(someWords()) {
		if !impl.HandleValid(h) || !impl.HandleValid(exchanged(h)) {
			t.Fatalf("%q and %q are valid", h, exchanged(h))
		}
		got, ok := impl.ReadHandle(impl.HandleText(exchanged(h)))
		if !ok || got.Name != h.Host || got.Host != h.Name {
			t.Fatalf("%q is read as %q, %t", exchanged(h), got, ok)
		}
	}
}

// P63: all short texts of what handles are written with, and of what they are not.
func TestP63ShortTexts(t *testing.T) {
	accepted := 0
	for many := 0; many <= 7; many++ {
		for _, s := range textsOf("@a0 A", many) {
			if checkReadHandle(t, s) {
				accepted++
			}
		}
	}
	// Words of n bytes begin with the letter, and have 2 to the power of n-1 ends, so two of n bytes together have n-1 times 2 to the power of n-2.
	if want := 1 + 2*2 + 3*4 + 4*8; accepted != want {
		t.Fatalf("%d short texts are accepted, not %d", accepted, want)
	}
}

// P63: all texts of up to three bytes of all that there are; of four, those that begin and go on as handles.
func TestP63AllShortTexts(t *testing.T) {
	accepted := 0
	for a := 0; a < allBytes; a++ {
		checkReadHandle(t, string([]byte{byte(a)}))
		for b := 0; b < allBytes; b++ {
			two := string([]byte{byte(a), byte(b)})
			checkReadHandle(t, two)
			checkReadHandle(t, "@"+two)
			checkReadHandle(t, two+"@")
			checkReadHandle(t, "a"+two)
			checkReadHandle(t, two+"a")
			checkReadHandle(t, "@a"+two)
			checkReadHandle(t, two+"@a")
			checkReadHandle(t, two[:1]+"a@"+two[1:])
			if checkReadHandle(t, "@"+two[:1]+"@"+two[1:]) {
				accepted++
			}
		}
	}
	if accepted != 26*26 {
		t.Fatalf("%d texts of two words of one byte are accepted", accepted)
	}
}

// P63: every byte at every place, in its place and before it, and every part.
func TestP63EveryByte(t *testing.T) {
	for _, s := range []string{"@a@b", "@ann@red", "@a1@b2c3", "@abcdefgh@a", "@a@abcdefgh", "@abcdefg@abcdefg", "@abcdefgh@abcdefgh"} {
		if !checkReadHandle(t, s) {
			t.Fatalf("ReadHandle(%q) is refused", s)
		}
		for at := 0; at <= len(s); at++ {
			for b := 0; b < allBytes; b++ {
				checkReadHandle(t, s[:at]+string([]byte{byte(b)})+s[at:])
				if at < len(s) {
					checkReadHandle(t, withByte(s, at, b))
				}
			}
			for till := at; till <= len(s); till++ {
				checkReadHandle(t, s[at:till])
				checkReadHandle(t, s[:at]+s[till:])
			}
		}
	}
}

// P63: with @ after it, before it, or anywhere else, also more than once, an accepted text is none.
func TestP63MoreSigns(t *testing.T) {
	for _, h := range allHandles(someWords()) {
		s := handleWritten(h)
		for many := 1; many <= 3; many++ {
			for at := 0; at <= len(s); at++ {
				refuseHandle(t, s[:at]+repeated("@", many)+s[at:])
			}
		}
		refuseHandle(t, s+s)
		refuseHandle(t, s+"@"+h.Host)
		refuseHandle(t, s+"@A")
		refuseHandle(t, h.Name+s)
	}
}

// P63: texts that nearly are handles.
func TestP63OtherTexts(t *testing.T) {
	for _, s := range []string{" @ann@red", "@ann@red ", "@ann @red", "@ann@ red", "@ ann@red", "@ann@red\n", "\n@ann@red", "@ann@red\r", "@ann@red\x00", "\x00@ann@red", "@ann@red.", "@ann@red!", "@ann@red,", "(@ann@red)", "<@ann@red>",
		"ann@red", "ann@red@", "@annred", "annred", "@ann.red", "@ann#red", "#ann@red", "#ann#red", "@ann&red", "&ann@red", "@Ann@red", "@ann@Red", "@ANN@RED", "@1ann@red", "@ann@1red", "@ann@red.org", "@ann@red:80", "@ann@red/ann", "acct:ann@red", "mailto:@ann@red",
		"@abcdefghi@red", "@ann@abcdefghi", "@ann@red @bob@sea", "@ann@red,@bob@sea", "@ann@red@bob@sea", "@@ann@red", "@ann@@red", "@ann@red@@", "\uff20ann@red", "@ann\uff20red", "\xff@ann@red", "@ann@red\xff"} {
		refuseHandle(t, s)
	}
}

// P63: texts that are much too long are refused, and soon.
func TestP63GreatTexts(t *testing.T) {
	for _, piece := range []string{"@", "a", "0", " ", "@a", "a@", "@a@", "@a@b", "\xff"} {
		s := repeated(piece, 1000000)
		for _, before := range []string{"", "@", "@a", "@a@", "@a@b", "@@"} {
			refuseHandle(t, before+s)
			refuseHandle(t, s+before)
		}
		checkInvalidHandle(t, impl.Handle{Name: s, Host: "a"})
		checkInvalidHandle(t, impl.Handle{Name: "a", Host: s})
		checkInvalidHandle(t, impl.Handle{Name: s, Host: s})
	}
}

// P64: what the document describes, written out; hosts decide first, and names only at the same host.
func TestP64KnownOrders(t *testing.T) {
	ascending := []impl.Handle{{}, {Name: "a"}, {Name: "zoe"}, {Host: "a"}, {Name: "zoe", Host: "a"}, {Name: "ann", Host: "re"}, {Name: "zoe", Host: "re"}, {Host: "red"}, {Name: "0", Host: "red"}, {Name: "A", Host: "red"}, {Name: "an", Host: "red"}, {Name: "ann", Host: "red"}, {Name: "ann0", Host: "red"}, {Name: "anna", Host: "red"}, {Name: "bob", Host: "red"}, {Name: "\xff", Host: "red"}, {Name: "ann", Host: "red0"}, {Host: "reda"}, {Name: "ann", Host: "sea"}, {Name: "a", Host: "\xff"}}
	for k := range ascending {
		for m := range ascending {
			if impl.HandleBefore(ascending[k], ascending[m]) != (k < m) {
				t.Fatalf("%q before %q is %t", ascending[k], ascending[m], k >= m)
			}
		}
	}
}

// P64: every two handles of some words, and of texts that are none, as the order takes handles that are not valid, too.
func TestP64EveryTwoHandles(t *testing.T) {
	words := append([]string{"", " ", "0", "1a", "A", "@", "a@", "a@b", "a b", "a\x00", "\x00", "\xff", "a\xff", "\u00e9", letters(9), letters(80), letters(81)}, "a", "aa", "ab", "b", "abcdefgh", "zzzzzzzz")
	handles := allHandles(words)
	for _, a := range handles {
		for _, b := range handles {
			checkOrder(t, a, b)
		}
	}
}

// P64: all handles of short texts of what sorts before letters, and of letters.
func TestP64ShortTexts(t *testing.T) {
	words := []string{}
	for many := 0; many <= 3; many++ {
		words = append(words, textsOf("@a", many)...)
	}
	handles := allHandles(words)
	for _, a := range handles {
		for _, b := range handles {
			checkOrder(t, a, b)
		}
	}
}

// P64: every two bytes, alone and as the last ones, in hosts and in names.
func TestP64EveryTwoBytes(t *testing.T) {
	for b := 0; b < allBytes; b++ {
		for c := 0; c < allBytes; c++ {
			one := string([]byte{byte(b)})
			two := string([]byte{byte(c)})
			checkOrder(t, impl.Handle{Name: one, Host: "a"}, impl.Handle{Name: two, Host: "a"})
			checkOrder(t, impl.Handle{Name: "a", Host: one}, impl.Handle{Name: "a", Host: two})
			checkOrder(t, impl.Handle{Name: "ab" + one, Host: "c" + two}, impl.Handle{Name: "ab" + two, Host: "c" + one})
			checkOrder(t, impl.Handle{Name: one, Host: two}, impl.Handle{Name: two, Host: one})
		}
	}
}

// P64: the end of a word is less than any byte, and words that both together read alike are told apart.
func TestP64EndsOfWords(t *testing.T) {
	for b := 0; b < allBytes; b++ {
		longer := "a" + string([]byte{byte(b)})
		checkOrder(t, impl.Handle{Name: longer, Host: "a"}, impl.Handle{Name: "a", Host: longer})
		if !impl.HandleBefore(impl.Handle{Name: "a", Host: "a"}, impl.Handle{Name: longer, Host: "a"}) || !impl.HandleBefore(impl.Handle{Name: longer, Host: "a"}, impl.Handle{Name: "a", Host: longer}) {
			t.Fatalf("%q is less than %q", "a", longer)
		}
	}
	text := "a@b@c@d@e"
	for at := 0; at <= len(text); at++ {
		for to := 0; to <= len(text); to++ {
			checkOrder(t, impl.Handle{Name: text[:at], Host: text[at:]}, impl.Handle{Name: text[:to], Host: text[to:]})
			checkOrder(t, impl.Handle{Name: text[at:], Host: text[:at]}, impl.Handle{Name: text[to:], Host: text[:to]})
		}
	}
}

// P64: words that are much too long, and differ in the last byte alone.
func TestP64GreatWords(t *testing.T) {
	long := letters(100000)
	checkOrder(t, impl.Handle{Name: long, Host: long}, impl.Handle{Name: long, Host: long})
	checkOrder(t, impl.Handle{Name: long, Host: long + "a"}, impl.Handle{Name: long, Host: long + "b"})
	checkOrder(t, impl.Handle{Name: long + "b", Host: long}, impl.Handle{Name: long + "a", Host: long})
	checkOrder(t, impl.Handle{Name: long, Host: long}, impl.Handle{Name: long + "a", Host: long})
}

// P64: of three handles, what stands before the second one stands before what the second one stands before.
func TestP64ThreeHandles(t *testing.T) {
	handles := allHandles([]string{"", "a", "aa", "b", "B", "a@", "\xff"})
	for _, a := range handles {
		for _, b := range handles {
			for _, c := range handles {
				if impl.HandleBefore(a, b) && impl.HandleBefore(b, c) && !impl.HandleBefore(a, c) {
					t.Fatalf("%q, %q and %q stand in a circle", a, b, c)
				}
			}
		}
	}
}

// P9, P62, P63 and P64: nothing is kept from one call to the next.
func TestP9CallsAreAlike(t *testing.T) {
	for k := 0; k < 3; k++ {
		for _, h := range allHandles([]string{"ann", "red", "", "A", "a@b"}) {
			checkWords(t, h.Name, h.Host)
			checkReadHandle(t, handleWritten(h))
			checkOrder(t, h, exchanged(h))
		}
	}
}
