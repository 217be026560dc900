package tests

import (
	"testing"

	"loop.example/feedbridge/impl"
)

const (
	// longestActivity is create, the mark of Great, a longest handle, and a longest word, with three spaces.
	longestActivity = 6 + 6 + longestHandle + 8 + 3
	longestMark     = 6
	markDigits      = "0123456789abcdefghijklmnopqrstuvwxyz"
)

// kindWords are in the order of the kinds.
func kindWords() []string {
	return []string{"create", "update", "delete", "follow", "accept", "undo"}
}

// kindWritten is the empty text for what is no kind.
func kindWritten(kind int) string {
	words := kindWords()
	if kind < 0 || kind >= len(words) {
		return ""
	}
	return words[kind]
}

// markWritten writes numbers that have no mark, too, so that these can be tried.
func markWritten(n int) string {
	if n < 0 {
		return "-1"
	}
	last := markDigits[n%36 : n%36+1]
	if n < 36 {
		return last
	}
	return markWritten(n/36) + last
}

// markIn reckons from the last digit on, and writes what it has read, so that it does not share its way of reading with ReadMark.
func markIn(s string) int {
	if len(s) < 1 || len(s) > longestMark {
		return -1
	}
	n := 0
	times := 1
	for k := len(s) - 1; k >= 0; k-- {
		n += times * placeOf(markDigits, s[k])
		times *= 36
	}
	if n > greatest || markWritten(n) != s {
		return -1
	}
	return n
}

// partsIn cuts a text at all bytes of one kind, from the end on.
func partsIn(s string, between byte) []string {
	from := lastPlaceOf(s, between) + 1
	if from == 0 {
		return []string{s}
	}
	return append(partsIn(s[:from-1], between), s[from:])
}

func joinedBy(parts []string, between string) string {
	text := ""
	for k, part := range parts {
		if k > 0 {
			text += between
		}
		text += part
	}
	return text
}

func spaced(words []string) string {
	return joinedBy(words, " ")
}

// activityIn counts the words first, so that it does not share its way of reading with ReadActivity.
func activityIn(s string) (impl.Activity, bool) {
	if len(s) > longestActivity {
		return impl.Activity{}, false
	}
	words := partsIn(s, ' ')
	if len(words) != 4 {
		return impl.Activity{}, false
	}
	for kind, word := range kindWords() {
		who, ok := handleIn(words[2])
		number := markIn(words[1])
		if words[0] == word && number >= 0 && ok && isWord(words[3]) {
			return impl.Activity{Kind: kind, Number: number, Who: who, What: words[3]}, true
		}
	}
	return impl.Activity{}, false
}

// wordsOfActivity are those that its text has, whether it is valid or not.
func wordsOfActivity(a impl.Activity) []string {
	return []string{kindWritten(a.Kind), markWritten(a.Number), handleWritten(a.Who), a.What}
}

func activityWritten(a impl.Activity) string {
	return spaced(wordsOfActivity(a))
}

func isActivity(a impl.Activity) bool {
	return kindWritten(a.Kind) != "" && a.Number >= 0 && a.Number <= greatest && isWord(a.Who.Name) && isWord(a.Who.Host) && isWord(a.What)
}

// undoOf has a line for every kind, -1 if it cannot be undone.
func undoOf(a impl.Activity, number int) (impl.Activity, bool) {
	if !isActivity(a) || number < 0 || number > greatest {
		return impl.Activity{}, false
	}
	kind := []int{2, 2, -1, 5, 5, -1}[a.Kind]
	if kind == -1 {
		return impl.Activity{}, false
	}
	a.Kind = kind
	a.Number = number
	return a, true
}

func someActivity() impl.Activity {
	return impl.Activity{Kind: 3, Number: 36, Who: impl.Handle{Name: "ann", Host: "red"}, What: "news"}
}

func someNumbers() []int {
	return []int{0, 1, 9, 10, 35, 36, 37, 1295, 1296, 46656, 60466175, 60466176, 907486844, greatest - 1, greatest}
}

// someActivities are of every kind, with numbers, words and handles of every length.
func someActivities() []impl.Activity {
	list := []impl.Activity{}
	for kind := range kindWords() {
		for k, number := range someNumbers() {
			who := impl.Handle{Name: letters(k%8 + 1), Host: "b" + letters(k%7)}
			list = append(list, impl.Activity{Kind: kind, Number: number, Who: who, What: "c" + letters(7-k%8)})
		}
	}
	return list
}

// badActivities are not valid for one reason each, but for the zero value.
func badActivities() []impl.Activity {
	list := []impl.Activity{{}}
	for _, kind := range outsideKinds() {
		a := someActivity()
		a.Kind = kind
		list = append(list, a)
	}
	for _, number := range outsideSigns() {
		a := someActivity()
		a.Number = number
		list = append(list, a)
	}
	for _, bad := range badWords() {
		name := someActivity()
		name.Who.Name = bad
		host := someActivity()
		host.Who.Host = bad
		what := someActivity()
		what.What = bad
		list = append(list, name, host, what)
	}
	return list
}

func outsideKinds() []int {
	return []int{-1, -2, -3, -6, 6, 7, 8, 9, 36, 1 << 31, 1 << 32, 1<<32 + 3, 1<<63 - 1, -1 << 31, -1 << 32, -1<<32 + 3, -1 << 63}
}

func checkActivity(t *testing.T, a impl.Activity) {
	t.Helper()
	if !impl.ActivityValid(a) || !isActivity(a) {
		t.Fatalf("%+v is valid", a)
	}
	s := impl.ActivityText(a)
	if s != activityWritten(a) {
		t.Fatalf("ActivityText(%+v) is %q", a, s)
	}
	if got, ok := impl.ReadActivity(s); !ok || got != a {
		t.Fatalf("ReadActivity(%q) is %+v, %t", s, got, ok)
	}
	refuseActivity(t, s+" ")
}

func refuseActivity(t *testing.T, s string) {
	t.Helper()
	if got, ok := impl.ReadActivity(s); ok || got != (impl.Activity{}) {
		t.Fatalf("ReadActivity(%q) is %+v, %t", s, got, ok)
	}
}

func checkInvalidActivity(t *testing.T, a impl.Activity) {
	t.Helper()
	if impl.ActivityValid(a) || isActivity(a) {
		t.Fatalf("%+v is not valid", a)
	}
	if got := impl.ActivityText(a); got != "" {
		t.Fatalf("ActivityText(%+v) is %q", a, got)
	}
	refuseActivity(t, activityWritten(a))
	for _, number := range []int{-1, 0, 7, a.Number, greatest} {
		refuseUndo(t, a, number)
	}
}

// checkEither reports whether an activity is valid.
func checkEither(t *testing.T, a impl.Activity) bool {
	t.Helper()
	if !isActivity(a) {
		checkInvalidActivity(t, a)
		return false
	}
	checkActivity(t, a)
	return true
}

// checkReadActivity compares with the other way of reading, and reports whether a text is accepted.
func checkReadActivity(t *testing.T, s string) bool {
	t.Helper()
	want, accepted := activityIn(s)
	got, ok := impl.ReadActivity(s)
	if ok != accepted || got != want {
		t.Fatalf("ReadActivity(%q) is %+v, %t", s, got, ok)
	}
	if !ok {
		return false
	}
	if !impl.ActivityValid(got) || impl.ActivityText(got) != s {
		t.Fatalf("%q is accepted as %+v, but ActivityText of it is %q", s, got, impl.ActivityText(got))
	}
	refuseActivity(t, s+" ")
	return true
}

func refuseUndo(t *testing.T, a impl.Activity, number int) {
	t.Helper()
	if got, ok := impl.UndoOf(a, number); ok || got != (impl.Activity{}) {
		t.Fatalf("UndoOf(%+v, %d) is %+v, %t", a, number, got, ok)
	}
}

// checkUndo compares with the other way of undoing, and reports whether it can be undone.
func checkUndo(t *testing.T, a impl.Activity, number int) bool {
	t.Helper()
	want, can := undoOf(a, number)
	got, ok := impl.UndoOf(a, number)
	if ok != can || got != want {
		t.Fatalf("UndoOf(%+v, %d) is %+v, %t", a, number, got, ok)
	}
	if !ok {
		return false
	}
	if !impl.ActivityValid(got) || got.Number != number {
		t.Fatalf("UndoOf(%+v, %d) is %+v, which is not valid, or has another number", a, number, got)
	}
	checkActivity(t, got)
	for _, again := range []int{0, 1, number, a.Number, greatest} {
		refuseUndo(t, got, again)
	}
	return true
}

func TestKinds(t *testing.T) {
	kinds := []int{impl.DoCreate, impl.DoUpdate, impl.DoDelete, impl.DoFollow, impl.DoAccept, impl.DoUndo}
	for k, kind := range kinds {
		if kind != k {
			t.Fatalf("the kind %d is %d", k, kind)
		}
	}
}

// P11: the texts that the document describes, written out.
func TestP11KnownActivities(t *testing.T) {
	ann := impl.Handle{Name: "ann", Host: "red"}
	activities := []impl.Activity{
		{Kind: impl.DoCreate, Number: 0, Who: ann, What: "k1"},
		{Kind: impl.DoUpdate, Number: 9, Who: ann, What: "k1"},
		{Kind: impl.DoDelete, Number: 10, Who: ann, What: "k1"},
		{Kind: impl.DoFollow, Number: 36, Who: impl.Handle{Name: "red", Host: "ann"}, What: "news"},
		{Kind: impl.DoAccept, Number: 1295, Who: ann, What: "ann"},
		{Kind: impl.DoUndo, Number: greatest, Who: impl.Handle{Name: "abcdefgh", Host: "z0000000"}, What: "a1234567"},
		{Kind: impl.DoUndo, Number: 1, Who: impl.Handle{Name: "a", Host: "b"}, What: "c"},
		{Kind: impl.DoCreate, Number: 2, Who: impl.Handle{Name: "undo", Host: "undo"}, What: "undo"},
	}
	texts := []string{"create 0 @ann@red k1", "update 9 @ann@red k1", "delete a @ann@red k1", "follow 10 @red@ann news", "accept zz @ann@red ann", "undo gjdgxs @abcdefgh@z0000000 a1234567", "undo 1 @a@b c", "create 2 @undo@undo undo"}
	for k, a := range activities {
		if got := impl.ActivityText(a); got != texts[k] {
			t.Fatalf("ActivityText(%+v) is %q", a, got)
		}
		if got, ok := impl.ReadActivity(texts[k]); !ok || got != a {
			t.Fatalf("ReadActivity(%q) is %+v, %t", texts[k], got, ok)
		}
	}
}

func TestP11ActivitiesCanBeRead(t *testing.T) {
	for _, a := range someActivities() {
		checkActivity(t, a)
	}
}

// P11: every word at every place where one belongs, the words of kinds and marks among them.
func TestP11EveryWord(t *testing.T) {
	words := append(someWords(), kindWords()...)
	for kind := range kindWords() {
		for _, who := range allHandles(words) {
			checkActivity(t, impl.Activity{Kind: kind, Number: 36, Who: who, What: "news"})
			checkActivity(t, impl.Activity{Kind: kind, Number: 36, Who: exchanged(who), What: who.Host})
		}
	}
}

// P11: numbers of every length, and from end to end, in steps that are prime to the base.
func TestP11EveryNumber(t *testing.T) {
	a := someActivity()
	for _, number := range someNumbers() {
		for n := number - 40; n <= number+40; n++ {
			a.Number = n
			checkEither(t, a)
		}
	}
	for n := 0; n <= greatest; n += 99991 {
		a.Number = n
		a.Kind = n % 6
		checkActivity(t, a)
	}
}

// P11: the longest activity is as long as it can be, and the shortest one as short.
func TestP11Lengths(t *testing.T) {
	longest := impl.Activity{Kind: impl.DoCreate, Number: greatest, Who: impl.Handle{Name: letters(8), Host: letters(8)}, What: letters(8)}
	checkActivity(t, longest)
	if got := impl.ActivityText(longest); len(got) != longestActivity || !impl.TextValid(got) {
		t.Fatalf("%q has %d bytes", got, len(got))
	}
	shortest := impl.Activity{Kind: impl.DoUndo, Number: 35, Who: impl.Handle{Name: "a", Host: "b"}, What: "c"}
	checkActivity(t, shortest)
	if got := impl.ActivityText(shortest); got != "undo z @a@b c" {
		t.Fatalf("it is %q", got)
	}
}

// P68: with the kind -1, and with every other one that is none, an activity is not valid, whatever else it has.
func TestP68ActivitiesHaveKinds(t *testing.T) {
	for _, a := range someActivities() {
		for _, kind := range outsideKinds() {
			a.Kind = kind
			checkInvalidActivity(t, a)
		}
	}
	for kind := -100; kind <= 100; kind++ {
		a := someActivity()
		a.Kind = kind
		if checkEither(t, a) != (kind >= 0 && kind <= 5) {
			t.Fatalf("the kind %d", kind)
		}
	}
}

// P68: with the number 0 a valid one is valid; with numbers outside it is not, whatever the kind.
func TestP68Numbers(t *testing.T) {
	for _, a := range someActivities() {
		a.Number = 0
		checkActivity(t, a)
		for _, number := range outsideSigns() {
			a.Number = number
			checkInvalidActivity(t, a)
		}
	}
}

func TestP68InvalidActivities(t *testing.T) {
	for _, a := range badActivities() {
		checkInvalidActivity(t, a)
		// With the number 0 only those with another number are valid.
		a.Number = 0
		checkEither(t, a)
	}
}

// P68: one thing that is not valid makes an activity invalid, whatever the other ones are.
func TestP68EveryPart(t *testing.T) {
	words := []string{"ann", letters(8), "", "A", letters(9)}
	valid := 0
	for _, kind := range []int{-1, 0, 3, 5, 6} {
		for _, number := range []int{-1, 0, 36, greatest, greatest + 1} {
			for _, who := range allHandles(words) {
				for _, what := range words {
					if checkEither(t, impl.Activity{Kind: kind, Number: number, Who: who, What: what}) {
						valid++
					}
				}
			}
		}
	}
	if valid != 3*3*2*2*2 {
		t.Fatalf("%d activities are valid", valid)
	}
}

// P68: every byte at every place of the words, and every length of them.
func TestP68EveryByteOfWords(t *testing.T) {
	for many := 1; many <= 9; many++ {
		for at := 0; at < many; at++ {
			for b := 0; b < allBytes; b++ {
				word := withByte(letters(many), at, b)
				checkEither(t, impl.Activity{Kind: 3, Number: 36, Who: impl.Handle{Name: word, Host: "red"}, What: "news"})
				checkEither(t, impl.Activity{Kind: 0, Number: 36, Who: impl.Handle{Name: "ann", Host: word}, What: "news"})
				checkEither(t, impl.Activity{Kind: 5, Number: 36, Who: impl.Handle{Name: "ann", Host: "red"}, What: word})
			}
		}
	}
}

// P69: all lines of up to six words of some, an empty one among them; words of kinds are marks and words, too.
func TestP69AllSmallLines(t *testing.T) {
	accepted := 0
	for _, line := range smallLines([]string{"follow", "undo", "10", "@ann@red", "news", ""}, 6) {
		if checkReadActivity(t, spaced(line)) {
			accepted++
		}
	}
	// Two kinds; the four marks follow, undo, 10 and news; one handle; and the three words follow, undo and news.
	if accepted != 2*4*3 {
		t.Fatalf("%d lines are accepted", accepted)
	}
}

// P69: all texts of up to five pieces, which have spaces after them, or before them, or none.
func TestP69AllSmallTexts(t *testing.T) {
	accepted := 0
	for _, line := range smallLines([]string{"accept", "delete ", " ", "1 ", "z", " @a@b", "@a@b ", "@", "news"}, 5) {
		if checkReadActivity(t, joined(line)) {
			accepted++
		}
	}
	// After "delete " two marks with their spaces leave room for the nine words of one or two pieces. Room for the three of one piece is left by two marks of two pieces, three with a space of its own after them, three before " @a@b" and one of the three pieces that can end it, and two after "accept" and a space.
	if accepted != 2*9+2*3+3*3+3*3*3+2*3 {
		t.Fatalf("%d texts are accepted", accepted)
	}
}

// smallLines are all lines of up to so many of some pieces, in all orders, and with some of them more than once.
func smallLines(pieces []string, most int) [][]string {
	lines := [][]string{{}}
	last := [][]string{{}}
	for many := 1; many <= most; many++ {
		longer := [][]string{}
		for _, line := range last {
			for _, piece := range pieces {
				longer = append(longer, append(append([]string{}, line...), piece))
			}
		}
		lines = append(lines, longer...)
		last = longer
	}
	return lines
}

// P69: words more than four, whatever they are, and wherever they stand.
func TestP69TooManyWords(t *testing.T) {
	more := append(append(someWords(), kindWords()...), "", "0", "10", "gjdgxs", "@ann@red", "@a@b", "x y", "x y z", "\t", "\x00", "-", "#news", "\xff")
	for _, a := range someActivities() {
		words := wordsOfActivity(a)
		for at := 0; at <= len(words); at++ {
			for _, word := range more {
				line := append(append([]string{}, words[:at]...), word)
				refuseActivity(t, spaced(append(line, words[at:]...)))
			}
			// A word that stands twice is one too many, too.
			if at < len(words) {
				line := append(append([]string{}, words[:at+1]...), words[at])
				refuseActivity(t, spaced(append(line, words[at+1:]...)))
			}
		}
	}
}

// P69: many words more, and more than one activity in a line.
func TestP69ManyMoreWords(t *testing.T) {
	for _, a := range someActivities() {
		s := activityWritten(a)
		for many := 1; many <= 40; many++ {
			refuseActivity(t, s+repeated(" x", many))
			refuseActivity(t, repeated("x ", many)+s)
			refuseActivity(t, s+repeated(" "+s, many))
			refuseActivity(t, s+repeated(" ", many))
			refuseActivity(t, repeated(" ", many)+s)
			refuseActivity(t, s+repeated(s, many))
			refuseActivity(t, s+repeated("\n"+s, many))
		}
		for _, b := range someActivities() {
			refuseActivity(t, s+" "+activityWritten(b))
		}
	}
}

// P69: words fewer than four, whichever are left.
func TestP69TooFewWords(t *testing.T) {
	for _, a := range someActivities() {
		words := wordsOfActivity(a)
		for chosen := 0; chosen < 1<<len(words); chosen++ {
			left := []string{}
			blank := []string{}
			for k, word := range words {
				if chosen>>k&1 == 1 {
					left = append(left, word)
					blank = append(blank, word)
				} else {
					blank = append(blank, "")
				}
			}
			all := chosen == 1<<len(words)-1
			if checkReadActivity(t, spaced(left)) != all || checkReadActivity(t, spaced(blank)) != all {
				t.Fatalf("%q or %q", spaced(left), spaced(blank))
			}
		}
	}
}

// P69: of all orders of the words one is an activity, unless both the mark and the last word are marks and words.
func TestP69EveryOrder(t *testing.T) {
	for _, a := range someActivities() {
		// This is longer than any mark.
		a.What = letters(8)
		checkOrders(t, a, 1)
	}
	a := someActivity()
	a.Number = 371
	a.What = "news"
	checkOrders(t, a, 2)
	got, ok := impl.ReadActivity("follow news @ann@red ab")
	if !ok || got.Number != markIn("news") || got.What != "ab" {
		t.Fatalf("it is %+v, %t", got, ok)
	}
}

func checkOrders(t *testing.T, a impl.Activity, many int) {
	t.Helper()
	accepted := 0
	for _, order := range ordersOf(wordsOfActivity(a)) {
		if checkReadActivity(t, spaced(order)) {
			accepted++
		}
	}
	if accepted != many {
		t.Fatalf("%d orders of %+v are accepted", accepted, a)
	}
}

// P69: spaces more at any place, and spaces that are missing.
func TestP69Spaces(t *testing.T) {
	for _, a := range someActivities() {
		s := activityWritten(a)
		for at := 0; at <= len(s); at++ {
			for many := 1; many <= 3; many++ {
				refuseActivity(t, s[:at]+repeated(" ", many)+s[at:])
			}
			if at < len(s) && s[at] == ' ' {
				refuseActivity(t, s[:at]+s[at+1:])
			}
		}
	}
}

// P69: every byte at every place, in its place and before it, and every part.
func TestP69EveryByte(t *testing.T) {
	for _, s := range []string{"follow 10 @ann@red news", "undo 0 @a@b c", "create gjdgxs @abcdefgh@abcdefgh abcdefgh", "delete a1 @a1@b2 c3"} {
		if !checkReadActivity(t, s) {
			t.Fatalf("ReadActivity(%q) is refused", s)
		}
		for at := 0; at <= len(s); at++ {
			for b := 0; b < allBytes; b++ {
				checkReadActivity(t, s[:at]+string([]byte{byte(b)})+s[at:])
				if at < len(s) {
					checkReadActivity(t, withByte(s, at, b))
				}
			}
			for till := at; till <= len(s); till++ {
				checkReadActivity(t, s[at:till])
				checkReadActivity(t, s[:at]+s[till:])
			}
		}
	}
}

// P69: words that nearly are those of kinds.
func TestP69OtherKinds(t *testing.T) {
	rest := " 10 @ann@red news"
	for _, word := range kindWords() {
		checkReadActivity(t, word+rest)
		for b := 0; b < allBytes; b++ {
			one := string([]byte{byte(b)})
			for at := 0; at <= len(word); at++ {
				refuseActivity(t, word[:at]+one+word[at:]+rest)
				if at < len(word) && one != word[at:at+1] {
					refuseActivity(t, withByte(word, at, b)+rest)
				}
			}
		}
		for at := 0; at < len(word); at++ {
			refuseActivity(t, word[:at]+rest)
			refuseActivity(t, word[at+1:]+rest)
		}
		refuseActivity(t, word+word+rest)
	}
	for _, word := range []string{"", "-1", "0", "1", "2", "3", "4", "5", "6", "dance", "do", "undone", "created", "reject", "unfollow", "Create", "FOLLOW", "DoFollow", "@ann@red", "10"} {
		refuseActivity(t, word+rest)
	}
}

// P69: what is no mark is no number, and every mark is read as its number.
func TestP69OtherNumbers(t *testing.T) {
	for _, mark := range []string{"", "00", "01", "010", "-1", "-0", "+1", "1.0", "0x1", "A", "1A", "_", "gjdgxt", "gjdgy0", "zzzzzz", "1000000", "gjdgxs0", "0gjdgxs", "1000000000", "1z141z4", "3w5e11264sgsg", "1y2p0ij32e8e8", letters(100000), repeated("9", 100000), "\xff", "\u0661"} {
		for _, word := range kindWords() {
			refuseActivity(t, word+" "+mark+" @ann@red news")
		}
	}
	mark := "0"
	for n := 0; n < 5000; n++ {
		got, ok := impl.ReadActivity("accept " + mark + " @ann@red news")
		if !ok || got.Number != n {
			t.Fatalf("with %q it is %+v, %t", mark, got, ok)
		}
		refuseActivity(t, "accept 0"+mark+" @ann@red news")
		mark = nextMark(mark)
	}
}

// P69: texts that nearly are handles, and what are no words.
func TestP69OtherWords(t *testing.T) {
	for _, who := range []string{"", "@", "@@", "ann", "ann@red", "@ann", "@ann@", "@@red", "@annred", "@ann@red@", "@ann@red@sea", "@@ann@red", "@Ann@red", "@ann@Red", "@1ann@red", "@ann@1red", "@ann.red", "#ann@red", "@abcdefghi@red", "@ann@abcdefghi", "@ann@red,", "@ann@red:80", "<@ann@red>"} {
		for _, word := range kindWords() {
			refuseActivity(t, word+" 10 "+who+" news")
		}
	}
	for _, what := range badWords() {
		for _, word := range kindWords() {
			refuseActivity(t, word+" 10 @ann@red "+what)
		}
	}
}

// P69: what stands between the words is a space, and there are no other ones before and after them.
func TestP69OtherSpaces(t *testing.T) {
	for _, between := range []string{"", "  ", "\t", "\n", "\r", "\r\n", "\v", "\f", "\x00", ",", ", ", ";", ":", "-", "_", "+", "%20", "\xa0", "\u00a0", "\u2003", " \t", "\t "} {
		for _, a := range someActivities() {
			words := wordsOfActivity(a)
			for at := 0; at <= len(words); at++ {
				refuseActivity(t, spacedWithOther(words, at, between))
			}
		}
	}
	for b := 0; b < allBytes; b++ {
		one := string([]byte{byte(b)})
		refuseActivity(t, one+"follow 10 @ann@red news")
		checkReadActivity(t, "follow 10 @ann@red news"+one)
		refuseActivity(t, "follow 10 @ann@red news "+one)
	}
}

// spacedWithOther has the other text before the word with the number 1..3, or between all words for 0 and 4.
func spacedWithOther(words []string, at int, other string) string {
	text := words[0]
	for k := 1; k < len(words); k++ {
		if k == at || at == 0 || at == len(words) {
			text += other + words[k]
		} else {
			text += " " + words[k]
		}
	}
	return text
}

// P69: texts that are much too long are refused, and soon.
func TestP69GreatTexts(t *testing.T) {
	for _, piece := range []string{" ", "a", "0", "@", "a ", " a", "follow ", "follow 10 @ann@red news ", "@a@b ", "\x00", "\xff"} {
		s := repeated(piece, 300000)
		for _, before := range []string{"", "follow", "follow ", "follow 10", "follow 10 ", "follow 10 @ann@red", "follow 10 @ann@red ", "follow 10 @ann@red news", "follow 10 @ann@red news "} {
			refuseActivity(t, before+s)
			refuseActivity(t, s+before)
		}
		checkInvalidActivity(t, impl.Activity{Kind: 3, Number: 36, Who: impl.Handle{Name: "ann", Host: "red"}, What: s})
		checkInvalidActivity(t, impl.Activity{Kind: 3, Number: 36, Who: impl.Handle{Name: s, Host: s}, What: "news"})
	}
}

// P134: all texts of up to two bytes, at the ends of activities, and in the places of their words.
func TestP134AllShortTexts(t *testing.T) {
	accepted := 0
	for a := 0; a < allBytes; a++ {
		for b := 0; b < allBytes; b++ {
			two := string([]byte{byte(a), byte(b)})
			refuseActivity(t, two)
			refuseActivity(t, two[:1])
			checkReadActivity(t, two+" 10 @ann@red news")
			checkReadActivity(t, "undo "+two+" @a@b c")
			checkReadActivity(t, "undo 1"+two+"@a@b c")
			checkReadActivity(t, "undo 1 "+two+" c")
			checkReadActivity(t, "undo 1 "+two[:1]+"a@"+two[1:]+" c")
			checkReadActivity(t, "undo 1 @a@b"+two)
			if checkReadActivity(t, "undo 1 @a@b "+two) {
				accepted++
			}
		}
	}
	if accepted != 26*36 {
		t.Fatalf("%d words of two bytes are accepted", accepted)
	}
	refuseActivity(t, "")
}

// nextData counts on in one fixed row of numbers, in which the upper digits seem to be in no order.
func nextData(data uint32) uint32 {
	return data*1664525 + 1013904223
}

func chosenOf(data uint32, many int) int {
	return int(data>>8) % many
}

// P134: texts of pieces in no order, most of which are nearly activities.
func TestP134WhateverPieces(t *testing.T) {
	places := [][]string{
		append(kindWords(), kindWords()...),
		{"0", "1", "10", "zz", "gjdgxs", "gjdgxt", "01", "", "follow", "a1b2c3"},
		{"@ann@red", "@a@b", "@abcdefgh@z0000000", "@a@b ", "@@", "ann@red", "@undo@undo", "@ann@Red"},
		{"news", "a", "abcdefgh", "abcdefghi", "undo", "", "1a", "a b", "a ", "\xff"},
	}
	data := uint32(1)
	accepted := 0
	for k := 0; k < 100000; k++ {
		words := []string{}
		for _, pieces := range places {
			data = nextData(data)
			words = append(words, pieces[chosenOf(data, len(pieces))])
		}
		if checkReadActivity(t, spaced(words)) {
			accepted++
		}
	}
	if accepted < 10000 || accepted > 90000 {
		t.Fatalf("%d texts are accepted", accepted)
	}
}

// P134: activities with up to four bytes changed, taken away, or added, in no order.
func TestP134WhateverChanges(t *testing.T) {
	alphabet := " @0az9gA\n\x00\xff~-"
	data := uint32(2)
	accepted := 0
	for k := 0; k < 20; k++ {
		for _, a := range someActivities() {
			s := activityWritten(a)
			for changes := 0; changes < 4; changes++ {
				data = nextData(data)
				at := chosenOf(data, len(s))
				data = nextData(data)
				b := chosenOf(data, len(alphabet))
				data = nextData(data)
				s = changedAt(s, at, alphabet[b:b+1], chosenOf(data, 3))
				if checkReadActivity(t, s) {
					accepted++
				}
			}
		}
	}
	if accepted == 0 {
		t.Fatal("no text is accepted")
	}
}

// changedAt has one text more at a place, or one instead of a byte, or a byte less.
func changedAt(s string, at int, other string, way int) string {
	switch way {
	case 0:
		return s[:at] + other + s[at:]
	case 1:
		return s[:at] + other + s[at+1:]
	}
	return s[:at] + s[at+1:]
}

// P134: bytes in no order, of every length up to that of the longest activity and a little more.
func TestP134WhateverBytes(t *testing.T) {
	data := uint32(3)
	for many := 0; many <= longestActivity+3; many++ {
		for k := 0; k < 1000; k++ {
			text := make([]byte, many)
			for at := range text {
				data = nextData(data)
				text[at] = byte(data >> 24)
			}
			checkReadActivity(t, string(text))
			checkReadActivity(t, "follow 10 @ann@red "+string(text))
		}
	}
}

// P70: what the document describes, written out.
func TestP70KnownUndos(t *testing.T) {
	texts := []string{"create 10 @ann@red k1", "update 11 @bob@sea k2", "follow 12 @ann@red news", "accept 13 @bob@sea tv"}
	undone := []string{"delete 7 @ann@red k1", "delete 7 @bob@sea k2", "undo 7 @ann@red news", "undo 7 @bob@sea tv"}
	for k, text := range texts {
		a, _ := impl.ReadActivity(text)
		got, ok := impl.UndoOf(a, 7)
		if !ok || impl.ActivityText(got) != undone[k] {
			t.Fatalf("%q is undone by %+v, %t", text, got, ok)
		}
		refuseUndo(t, got, 8)
	}
	for _, text := range []string{"delete 10 @ann@red k1", "undo 10 @ann@red news"} {
		a, ok := impl.ReadActivity(text)
		if !ok {
			t.Fatalf("%q is an activity", text)
		}
		refuseUndo(t, a, 7)
	}
}

// P70: some activities of every kind, with numbers from end to end.
func TestP70UndoneOnce(t *testing.T) {
	for _, a := range someActivities() {
		for _, number := range someNumbers() {
			can := a.Kind != impl.DoDelete && a.Kind != impl.DoUndo
			if checkUndo(t, a, number) != can {
				t.Fatalf("UndoOf(%+v, %d)", a, number)
			}
		}
		for number := -50; number <= 50; number++ {
			checkUndo(t, a, number)
			checkUndo(t, a, greatest+number)
			checkUndo(t, a, a.Number+number)
		}
	}
}

// P70: the one who does it, and what it is done to, stay whoever and whatever they are.
func TestP70TheSameOne(t *testing.T) {
	for _, who := range allHandles(someWords()) {
		for kind := range kindWords() {
			a := impl.Activity{Kind: kind, Number: 1, Who: who, What: who.Name}
			checkUndo(t, a, 2)
			a.What = "a" + letters(len(who.Host)-1)
			checkUndo(t, a, 2)
		}
	}
}

func TestP70OtherNumbers(t *testing.T) {
	for _, a := range someActivities() {
		for _, number := range outsideSigns() {
			refuseUndo(t, a, number)
		}
	}
}

// P70: what is not valid cannot be undone, of whatever kind it is.
func TestP70OtherActivities(t *testing.T) {
	for _, a := range badActivities() {
		for _, number := range []int{0, 1, 7, greatest, -1, greatest + 1} {
			refuseUndo(t, a, number)
		}
		if kindWritten(a.Kind) == "" {
			continue
		}
		for kind := range kindWords() {
			a.Kind = kind
			refuseUndo(t, a, 7)
		}
	}
}

// P11, P68, P69 and P70: nothing is kept from one call to the next.
func TestP11CallsAreAlike(t *testing.T) {
	for k := 0; k < 3; k++ {
		for _, a := range append(someActivities(), badActivities()...) {
			checkEither(t, a)
			checkUndo(t, a, 7)
			checkReadActivity(t, activityWritten(a))
		}
	}
}
