package tests

import (
	"testing"

	"loop.example/feedbridge/impl"
)

const (
	digestPrime = 999983
	mostNumbers = 20
)

// digestBackwards reckons from the end on, with powers of the factor, so that it does not share its way with the program.
func digestBackwards(start int, factor int, numbers []int) int {
	digest := 0
	power := 1
	for k := len(numbers) - 1; k >= 0; k-- {
		digest = (digest + numbers[k]%digestPrime*power) % digestPrime
		power = power * factor % digestPrime
	}
	return (digest + start*power) % digestPrime
}

func isText(s string) bool {
	for k := 0; k < len(s); k++ {
		if !isTextByte(int(s[k])) {
			return false
		}
	}
	return len(s) <= longest
}

func textDigest(s string) int {
	if !isText(s) {
		return -1
	}
	numbers := []int{}
	for k := 0; k < len(s); k++ {
		numbers = append(numbers, int(s[k]))
	}
	return digestBackwards(1, 257, numbers)
}

// digestAfter adds what there is again and again, so that it does not share its product with the program.
func digestAfter(digest int, b int) int {
	if digest < 0 || digest >= digestPrime || !isTextByte(b) {
		return -1
	}
	sum := b
	for k := 0; k < 257; k++ {
		sum = sum + digest
		if sum >= digestPrime {
			sum = sum - digestPrime
		}
	}
	return sum
}

func areNumbers(list []int) bool {
	for _, n := range list {
		if n < 0 || n > greatest {
			return false
		}
	}
	return len(list) <= mostNumbers
}

func listDigest(list []int) int {
	if !areNumbers(list) {
		return -1
	}
	return digestBackwards(7, 1009, list)
}

func sameNumbers(a []int, b []int) bool {
	if len(a) != len(b) {
		return false
	}
	for k := range a {
		if a[k] != b[k] {
			return false
		}
	}
	return true
}

func withNumber(list []int, at int, n int) []int {
	changed := append([]int{}, list...)
	changed[at] = n
	return changed
}

func longerBy(list []int, n int) []int {
	return append(append([]int{}, list...), n)
}

func numbersOf(n int, many int) []int {
	list := []int{}
	for k := 0; k < many; k++ {
		list = append(list, n)
	}
	return list
}

// someTexts are valid, of every length, and many of them begin alike; some have the least digest, the greatest one, or that of the empty text.
func someTexts() []string {
	texts := []string{"a~", "a b", "ab", "abc", "abd", "abcd", "abce", "zzz", "feed", "ajwhp", "ajwhq", "ajwhr", "<a>&\"", "create 1 @ann@red k1", "create 1 @ann@red k2", "a=7;b=10"}
	for many := 0; many <= longest; many++ {
		texts = append(texts, letters(many), repeated(" ", many), repeated("~", many), repeated("ab", many)[:many])
	}
	return texts
}

// badBytes are numbers that are no byte of a text, also those whose lowest digits are one.
func badBytes() []int {
	list := []int{-1, -31, -32, -33, -98, -126, -224, -158, 256, 256 + 32, 256 + 98, 1<<16 + 98, 1 << 31, 1<<31 + 98, 1 << 32, 1<<32 + 98, -1<<32 + 98, 98 - digestPrime, 98 + digestPrime, greatest, greatestInt, -greatestInt, -greatestInt - 1}
	for b := 0; b < allBytes; b++ {
		if !isTextByte(b) {
			list = append(list, b)
		}
	}
	return list
}

func badDigests() []int {
	return []int{-1, -2, -digestPrime, -digestPrime - 1, -digestPrime + 1, digestPrime, digestPrime + 1, 2 * digestPrime, 2*digestPrime - 1, 1000000, greatest, 1 << 31, 1 << 32, 1<<32 + 354, -1<<32 + 354, 1<<63 - 1, -1 << 31, -1 << 63}
}

// someDigests are those at both ends, and others in steps.
func someDigests() []int {
	list := []int{}
	for k := 0; k < 1000; k++ {
		list = append(list, k, digestPrime-1-k, k*999)
	}
	return list
}

// someLists are valid, of every length.
func someLists() [][]int {
	lists := [][]int{{}, {5}, {1, 2}, {2, 1}, {1, 2, 3}, {992919}, {992920}, {992921}, {greatest, 0}, {0, greatest}, {digestPrime, digestPrime - 1, digestPrime + 1}}
	for many := 0; many <= mostNumbers; many++ {
		lists = append(lists, numbersOf(0, many), numbersOf(1, many), numbersOf(greatest, many), numbersOf(digestPrime-1, many))
	}
	return lists
}

// lastNumbers are at both ends of all numbers, and where digests end and begin anew.
func lastNumbers() []int {
	list := someNumbers()
	for _, n := range []int{0, digestPrime, 2 * digestPrime, 500 * digestPrime, 1000 * digestPrime, 992920, 2 * 992920, greatest} {
		for more := -3; more <= 3; more++ {
			list = append(list, n+more)
		}
	}
	return list
}

func checkDigest(t *testing.T, s string) int {
	t.Helper()
	got := impl.DigestOf(s)
	if got != textDigest(s) {
		t.Fatalf("DigestOf(%q) is %d, not %d", s, got, textDigest(s))
	}
	return got
}

func refuseDigest(t *testing.T, s string) {
	t.Helper()
	if got := impl.DigestOf(s); got != -1 {
		t.Fatalf("DigestOf(%q) is %d", s, got)
	}
}

func checkMore(t *testing.T, digest int, b int) int {
	t.Helper()
	got := impl.DigestMore(digest, b)
	if got != digestAfter(digest, b) {
		t.Fatalf("DigestMore(%d, %d) is %d, not %d", digest, b, got, digestAfter(digest, b))
	}
	return got
}

func refuseMore(t *testing.T, digest int, b int) {
	t.Helper()
	if got := impl.DigestMore(digest, b); got != -1 {
		t.Fatalf("DigestMore(%d, %d) is %d", digest, b, got)
	}
}

func checkList(t *testing.T, list []int) int {
	t.Helper()
	got := impl.DigestList(list)
	if got != listDigest(list) {
		t.Fatalf("DigestList(%d) is %d, not %d", list, got, listDigest(list))
	}
	return got
}

func refuseList(t *testing.T, list []int) {
	t.Helper()
	if got := impl.DigestList(list); got != -1 {
		t.Fatalf("DigestList(%d) is %d", list, got)
	}
}

// checkLastBytes checks that all last bytes after a beginning lead to different digests.
func checkLastBytes(t *testing.T, beginning string) {
	t.Helper()
	had := []int{}
	for b := firstByte; b <= lastByte; b++ {
		digest := checkDigest(t, beginning+string([]byte{byte(b)}))
		checkAnother(t, had, digest)
		had = append(had, digest)
	}
}

// checkAnother checks that a number is a digest that was not there before.
func checkAnother(t *testing.T, had []int, digest int) {
	t.Helper()
	if digest < 0 || digest >= digestPrime {
		t.Fatalf("%d is no digest", digest)
	}
	for k := range had {
		if had[k] == digest {
			t.Fatalf("the bytes %d and %d lead to %d", firstByte+k, firstByte+len(had), digest)
		}
	}
}

// checkOneMore checks that with a number more that is greater by 1 the digest is greater by 1, or begins anew.
func checkOneMore(t *testing.T, list []int, n int) {
	t.Helper()
	digest := checkList(t, longerBy(list, n))
	greater := checkList(t, longerBy(list, n+1))
	if digest < 0 || digest >= digestPrime || greater != (digest+1)%digestPrime {
		t.Fatalf("after %d the digests with %d and %d are %d and %d", list, n, n+1, digest, greater)
	}
}

// A prime is needed, as otherwise different bytes could lead to the same digest in the end.
func TestDigestPrime(t *testing.T) {
	if impl.DigestPrime != digestPrime {
		t.Fatal(impl.DigestPrime)
	}
	for n := 2; n*n <= digestPrime; n++ {
		if digestPrime%n == 0 {
			t.Fatalf("%d can be divided by %d", digestPrime, n)
		}
	}
}

// P73: digests that were reckoned elsewhere, without any modulus before the end.
func TestP73KnownDigests(t *testing.T) {
	texts := []string{"", " ", "~", "a", "b", "ab", "ba", "aa", "abc", "abd", "abcd", "zzz", "feed", "create 1 @ann@red k1", "create 1 @ann@red k2", "ajwhp", "ajwhq", "ajwhr", letters(79), letters(80), repeated(" ", 80), repeated("~", 80)}
	digests := []int{1, 289, 383, 354, 355, 91076, 91332, 91075, 407022, 407023, 606522, 64472, 679593, 578777, 578778, 999982, 0, 1, 374333, 205310, 292149, 581944}
	for k, s := range texts {
		if got := impl.DigestOf(s); got != digests[k] {
			t.Fatalf("DigestOf(%q) is %d, not %d", s, got, digests[k])
		}
	}
}

// P73: texts that begin alike, of every length for which there is room for one byte more.
func TestP73LastBytes(t *testing.T) {
	for _, s := range someTexts() {
		if len(s) < longest {
			checkLastBytes(t, s)
		} else {
			checkLastBytes(t, s[:longest-1])
		}
	}
	for _, beginning := range textsOf("a ~9", 4) {
		checkLastBytes(t, beginning)
	}
}

// P73: where there is no room for one byte more there is no digest with one, whatever it is.
func TestP73NoRoom(t *testing.T) {
	for _, full := range []string{letters(longest), repeated(" ", longest), repeated("~", longest), repeated("ab", longest/2)} {
		checkDigest(t, full)
		for b := 0; b < allBytes; b++ {
			refuseDigest(t, full+string([]byte{byte(b)}))
		}
	}
	for many := longest + 1; many <= 1000; many++ {
		refuseDigest(t, letters(many))
	}
	for _, piece := range []string{" ", "a", "~", "ab"} {
		refuseDigest(t, repeated(piece, 300000))
	}
}

// P73: with another byte at any one place it is another digest, also if all other bytes are alike.
func TestP73AnyByte(t *testing.T) {
	for _, s := range []string{"a", "ab", "ajwhq", "create 1 @ann@red k1", letters(79), letters(80), repeated("~", 80)} {
		want := checkDigest(t, s)
		for at := 0; at < len(s); at++ {
			for b := firstByte; b <= lastByte; b++ {
				other := withByte(s, at, b)
				if (checkDigest(t, other) == want) != (other == s) {
					t.Fatalf("DigestOf(%q) and DigestOf(%q) are %d", s, other, want)
				}
			}
		}
	}
}

// P73: with two neighbours exchanged it is another digest, if they differ.
func TestP73Order(t *testing.T) {
	for _, s := range someTexts() {
		want := checkDigest(t, s)
		for at := 1; at < len(s); at++ {
			other := s[:at-1] + s[at:at+1] + s[at-1:at] + s[at+1:]
			if (checkDigest(t, other) == want) != (other == s) {
				t.Fatalf("DigestOf(%q) and DigestOf(%q) are %d", s, other, want)
			}
		}
	}
}

// P73: all texts of up to two bytes have digests of their own; longer ones need not.
func TestP73AllShortTexts(t *testing.T) {
	had := make([]bool, digestPrime)
	for many := 0; many <= 2; many++ {
		for _, s := range textsOf(textBytes(), many) {
			digest := checkDigest(t, s)
			if had[digest] {
				t.Fatalf("DigestOf(%q) is %d, as that of another text", s, digest)
			}
			had[digest] = true
		}
	}
	if checkDigest(t, "ajwhr") != checkDigest(t, "") {
		t.Fatal("these digests are the same")
	}
}

// textBytes are all bytes of texts, each once.
func textBytes() string {
	list := []byte{}
	for b := firstByte; b <= lastByte; b++ {
		list = append(list, byte(b))
	}
	return string(list)
}

// P73: other bytes, at every place, also as the last one of texts that begin alike.
func TestP73OtherBytes(t *testing.T) {
	for b := 0; b < allBytes; b++ {
		alone := string([]byte{byte(b)})
		for many := 0; many < longest; many++ {
			if (checkDigest(t, letters(many)+alone) == -1) != !isTextByte(b) {
				t.Fatalf("the byte %d after %d others", b, many)
			}
			if (checkDigest(t, withByte(letters(longest), many, b)) == -1) != !isTextByte(b) {
				t.Fatalf("the byte %d at %d", b, many)
			}
		}
	}
	for _, s := range []string{"\n", "a\n", "\na", "a\nb", "a\tb", "\x00", "\x7f", "\x1f", "\u00e9", "a\xff"} {
		refuseDigest(t, s)
	}
}

// P74: the digests of a text and a byte more, for all bytes and numbers that are none.
func TestP74TextsGoOn(t *testing.T) {
	for _, s := range someTexts() {
		digest := checkDigest(t, s)
		for b := firstByte; b <= lastByte; b++ {
			longer := s + string([]byte{byte(b)})
			if got := checkMore(t, digest, b); len(s) < longest && got != impl.DigestOf(longer) {
				t.Fatalf("DigestMore(%d, %d) is %d, but DigestOf(%q) is %d", digest, b, got, longer, impl.DigestOf(longer))
			}
		}
		for _, b := range badBytes() {
			refuseMore(t, digest, b)
		}
	}
}

// P74: texts byte by byte, from the digest of the empty one on, and from that of every beginning on.
func TestP74ByteByByte(t *testing.T) {
	for _, s := range someTexts() {
		digest := impl.DigestOf("")
		for k := 0; k < len(s); k++ {
			digest = impl.DigestMore(digest, int(s[k]))
			if digest != impl.DigestOf(s[:k+1]) {
				t.Fatalf("DigestOf(%q) is %d, not %d", s[:k+1], impl.DigestOf(s[:k+1]), digest)
			}
		}
	}
}

// P74: from the same digest different bytes lead to different digests, also where these begin anew.
func TestP74DifferentBytes(t *testing.T) {
	for _, digest := range someDigests() {
		had := []int{}
		for b := firstByte; b <= lastByte; b++ {
			got := checkMore(t, digest, b)
			checkAnother(t, had, got)
			had = append(had, got)
		}
	}
}

// P74: with the same byte all digests lead to different ones, and so to all of them.
func TestP74AllDigests(t *testing.T) {
	for _, b := range []int{firstByte, 98, lastByte} {
		had := make([]bool, digestPrime)
		for digest := 0; digest < digestPrime; digest++ {
			got := impl.DigestMore(digest, b)
			if got < 0 || got >= digestPrime || had[got] {
				t.Fatalf("DigestMore(%d, %d) is %d", digest, b, got)
			}
			had[got] = true
		}
	}
}

// P74: other digests and other bytes, alone and together.
func TestP74OtherArguments(t *testing.T) {
	for _, digest := range badDigests() {
		for b := firstByte; b <= lastByte; b++ {
			refuseMore(t, digest, b)
		}
		for _, b := range badBytes() {
			refuseMore(t, digest, b)
		}
	}
	for _, b := range badBytes() {
		for _, digest := range someDigests() {
			refuseMore(t, digest, b)
		}
	}
	refuseMore(t, impl.DigestOf("\n"), 98)
}

// P75: digests that were reckoned elsewhere, without any modulus before the end.
func TestP75KnownDigests(t *testing.T) {
	oneToTwenty := []int{1, 2, 3, 4, 5, 6, 7, 8, 9, 10, 11, 12, 13, 14, 15, 16, 17, 18, 19, 20}
	lists := [][]int{nil, {}, {0}, {1}, {5}, {0, 0}, {1, 2}, {2, 1}, {1, 2, 3}, {992919}, {992920}, {992921}, {digestPrime}, {greatest}, {greatest, greatest}, numbersOf(0, 20), numbersOf(greatest, 20), oneToTwenty}
	digests := []int{7, 7, 7063, 7064, 7068, 126686, 127697, 128705, 848452, 999982, 0, 1, 7063, 24063, 296975, 56121, 656161, 509643}
	for k, list := range lists {
		if got := impl.DigestList(list); got != digests[k] {
			t.Fatalf("DigestList(%d) is %d, not %d", list, got, digests[k])
		}
	}
}

// P75: every length for which there is room for a number more, and numbers around all at which something ends.
func TestP75OneMore(t *testing.T) {
	for _, list := range someLists() {
		for _, n := range lastNumbers() {
			if n >= 0 && n < greatest && len(list) < mostNumbers {
				checkOneMore(t, list, n)
			} else {
				checkList(t, longerBy(list, n))
			}
		}
	}
	for n := 0; n < 2*digestPrime; n++ {
		if impl.DigestList([]int{3, n + 1}) != (impl.DigestList([]int{3, n})+1)%digestPrime {
			t.Fatalf("after 3 with %d", n)
		}
	}
}

// P75: all small lists, in all orders.
func TestP75AllSmallLists(t *testing.T) {
	lists := [][]int{{}}
	for at := 0; at < len(lists); at++ {
		checkList(t, lists[at])
		for _, n := range []int{0, 1, 2, digestPrime - 1, greatest - 1} {
			checkOneMore(t, lists[at], n)
			if len(lists[at]) < 5 {
				lists = append(lists, longerBy(lists[at], n))
			}
		}
	}
	if len(lists) != 1+5+25+125+625+3125 {
		t.Fatalf("there are %d lists", len(lists))
	}
}

// P75: the order of numbers matters, as do zeros at the beginning.
func TestP75Order(t *testing.T) {
	for many := 0; many < mostNumbers; many++ {
		if impl.DigestList(numbersOf(0, many)) == impl.DigestList(numbersOf(0, many+1)) {
			t.Fatalf("%d zeros and one more", many)
		}
		for at := 1; at < many; at++ {
			list := withNumber(withNumber(numbersOf(7, many), at-1, 36), at, 1295)
			other := withNumber(withNumber(numbersOf(7, many), at-1, 1295), at, 36)
			if checkList(t, list) == checkList(t, other) {
				t.Fatalf("%d and %d", list, other)
			}
		}
	}
}

// P75: at most 20 numbers have a digest, whatever they are.
func TestP75TooManyNumbers(t *testing.T) {
	for many := 0; many <= 100; many++ {
		for _, n := range []int{0, 5, digestPrime, greatest} {
			if (checkList(t, numbersOf(n, many)) == -1) != (many > mostNumbers) {
				t.Fatalf("%d times %d", many, n)
			}
		}
	}
	refuseList(t, make([]int, 1000000))
	for _, list := range someLists() {
		refuseList(t, append(numbersOf(0, mostNumbers+1), list...))
	}
}

// P75: other numbers, at every place, also the last one, and in lists that are too long.
func TestP75OtherNumbers(t *testing.T) {
	for many := 1; many <= mostNumbers+2; many++ {
		for at := 0; at < many; at++ {
			for _, n := range append(outsideSigns(), -7, -992920, -digestPrime, -1-digestPrime) {
				refuseList(t, withNumber(numbersOf(5, many), at, n))
				refuseList(t, withNumber(numbersOf(greatest, many), at, n))
			}
		}
	}
}

// P75: the argument is not written to, not even behind its end.
func TestP75ArgumentsStay(t *testing.T) {
	list := append(numbersOf(greatest, 10), 5, -1, 7, greatest+1, 36, 0)
	before := append([]int{}, list...)
	for from := 0; from <= len(list); from++ {
		for till := from; till <= len(list); till++ {
			checkList(t, list[from:till])
			if !sameNumbers(list, before) {
				t.Fatalf("%d are changed to %d", before, list)
			}
		}
	}
}

// P73, P74 and P75: nothing is kept from one call to the next.
func TestP73CallsAreAlike(t *testing.T) {
	for k := 0; k < 3; k++ {
		for _, s := range someTexts() {
			checkMore(t, checkDigest(t, s), firstByte+k)
			refuseDigest(t, s+"\n")
			refuseMore(t, -1, firstByte)
		}
		for _, list := range someLists() {
			checkList(t, list)
			refuseList(t, longerBy(list, -1))
		}
	}
}

// P73 and P74: texts in no order, of every length, some too long, and the same ones byte by byte.
func TestP73AndP74WhateverTexts(t *testing.T) {
	data := uint32(6)
	for k := 0; k < 10000; k++ {
		text := []byte{}
		digest := 1
		for many := k % (longest + 3); many > 0; many-- {
			data = nextData(data)
			b := firstByte + chosenOf(data, lastByte-firstByte+1)
			text = append(text, byte(b))
			digest = checkMore(t, digest, b)
		}
		if got := checkDigest(t, string(text)); len(text) <= longest && got != digest {
			t.Fatalf("DigestOf(%q) is %d, not %d", text, got, digest)
		}
	}
}

// P75: numbers in no order, of every length.
func TestP75WhateverNumbers(t *testing.T) {
	data := uint32(7)
	for k := 0; k < 20000; k++ {
		list := []int{}
		for many := k % mostNumbers; many > 0; many-- {
			data = nextData(data)
			list = append(list, int(data)%(greatest+1))
		}
		data = nextData(data)
		checkOneMore(t, list, int(data)%greatest)
	}
}
