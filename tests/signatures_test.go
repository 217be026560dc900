package tests

import (
	"testing"

	"loop.example/feedbridge/impl"
)

const firstSignedModulus = 100

// textSigned uses an inverse exponent that was found in another way, so that it does not share its way with the program.
func textSigned(k impl.SignKey, s string) (impl.Signed, bool) {
	if !isKey(k) || !isText(s) {
		return impl.Signed{}, false
	}
	n := k.One * k.Two
	signature := powerOf(textDigest(s)%n, inverseExponent(k), n)
	return impl.Signed{Text: s, Modulus: n, Exponent: k.Exponent, Signature: signature}, true
}

func isRight(s impl.Signed) bool {
	if !isText(s.Text) || s.Modulus < firstSignedModulus || !isBelow(s.Signature, s.Modulus) {
		return false
	}
	if s.Exponent < firstExponent || s.Exponent > lastExponent {
		return false
	}
	return powerOf(s.Signature, s.Exponent, s.Modulus) == textDigest(s.Text)%s.Modulus
}

func isBy(s impl.Signed, k impl.SignKey) bool {
	return isRight(s) && isKey(k) && s.Modulus == k.One*k.Two && s.Exponent == k.Exponent
}

func withText(s impl.Signed, text string) impl.Signed {
	s.Text = text
	return s
}

func withSignature(s impl.Signed, signature int) impl.Signed {
	s.Signature = signature
	return s
}

func withExponent(s impl.Signed, exponent int) impl.Signed {
	s.Exponent = exponent
	return s
}

func withModulus(s impl.Signed, n int) impl.Signed {
	s.Modulus = n
	return s
}

// turnedText is the text from its end on.
func turnedText(s string) string {
	list := []byte{}
	for k := len(s) - 1; k >= 0; k-- {
		list = append(list, s[k])
	}
	return string(list)
}

// textOfDigest looks for a text of four bytes; there are so many that every digest has one.
func textOfDigest(digest int) string {
	for _, beginning := range textsOf(textBytes(), 2) {
		for b := firstByte; b <= lastByte; b++ {
			three := beginning + string([]byte{byte(b)})
			last := (digest + digestPrime - textDigest(three)*257%digestPrime) % digestPrime
			if isTextByte(last) {
				return three + string([]byte{byte(last)})
			}
		}
	}
	return ""
}

// badTexts are no texts, each with one byte too many or one that is none.
func badTexts() []string {
	texts := []string{letters(longest + 1), repeated(" ", longest+1), repeated("a", 2*longest), repeated("a", 1000), "a\nb", "\n", "\x00", "hello\n", "\nhello", "h\xc3\xa4llo"}
	for b := 0; b < allBytes; b++ {
		if !isTextByte(b) {
			texts = append(texts, string([]byte{byte(b)}), "ab"+string([]byte{byte(b)}), string([]byte{byte(b)})+"ab", withByte(letters(longest), longest-1, b))
		}
	}
	return texts
}

// fewTexts are the shortest ones, the longest ones, and some between.
func fewTexts() []string {
	return []string{"", "a", "ab", "ba", "hello", "olleh", "feed", "create 1 @ann@red k1", "a=7;b=10", letters(longest), repeated(" ", longest), repeated("~", longest)}
}

// otherKeys have the same modulus or the same exponent as a key, and differ otherwise.
func otherKeys(k impl.SignKey) []impl.SignKey {
	keys := []impl.SignKey{{}, {One: k.One, Two: k.One, Exponent: k.Exponent}, {One: k.Two, Two: k.Two, Exponent: k.Exponent}, {One: 1, Two: k.One * k.Two, Exponent: k.Exponent}, {One: k.One * k.Two, Two: 1, Exponent: k.Exponent}, {One: -k.One, Two: -k.Two, Exponent: k.Exponent}, {One: k.One, Two: k.Two, Exponent: -k.Exponent}}
	for _, exponent := range []int{0, 1, 2, k.Exponent - 2, k.Exponent - 1, k.Exponent + 1, k.Exponent + 2, k.Exponent + (k.One-1)*(k.Two-1), 491, 997} {
		if exponent != k.Exponent {
			keys = append(keys, impl.SignKey{One: k.One, Two: k.Two, Exponent: exponent})
		}
	}
	for _, prime := range []int{11, 13, 17, 59, 991, 997} {
		if prime != k.One && prime != k.Two {
			keys = append(keys, impl.SignKey{One: k.One, Two: prime, Exponent: k.Exponent}, impl.SignKey{One: prime, Two: k.Two, Exponent: k.Exponent})
		}
	}
	return keys
}

// checkSignedText checks that the text is signed, and that the signature is right and by the key, in both orders of the primes.
func checkSignedText(t *testing.T, k impl.SignKey, s string) impl.Signed {
	t.Helper()
	got, ok := impl.SignText(k, s)
	want, valid := textSigned(k, s)
	if !ok || !valid || got != want {
		t.Fatalf("SignText(%v, %q) is %v, %t, not %v, %t", k, s, got, ok, want, valid)
	}
	turned, ok := impl.SignText(turnedKey(k), s)
	if !ok || turned != got {
		t.Fatalf("SignText(%v, %q) is %v, %t, not %v", turnedKey(k), s, turned, ok, got)
	}
	if !impl.SignatureRight(got) || !impl.SignedBy(got, k) || !impl.SignedBy(got, turnedKey(k)) {
		t.Fatalf("%v, signed by %v: %t, %t, %t", got, k, impl.SignatureRight(got), impl.SignedBy(got, k), impl.SignedBy(got, turnedKey(k)))
	}
	return got
}

func refuseSignedText(t *testing.T, k impl.SignKey, s string) {
	t.Helper()
	if got, ok := impl.SignText(k, s); ok || got != (impl.Signed{}) {
		t.Fatalf("SignText(%v, %q) is %v, %t", k, s, got, ok)
	}
}

func checkRight(t *testing.T, s impl.Signed) bool {
	t.Helper()
	got := impl.SignatureRight(s)
	if got != isRight(s) {
		t.Fatalf("SignatureRight(%v) is %t", s, got)
	}
	return got
}

// checkBy checks both orders of the primes.
func checkBy(t *testing.T, s impl.Signed, k impl.SignKey) bool {
	t.Helper()
	got := impl.SignedBy(s, k)
	if got != isBy(s, k) || impl.SignedBy(s, turnedKey(k)) != got {
		t.Fatalf("SignedBy(%v, %v) is %t, and with both exchanged %t", s, k, got, impl.SignedBy(s, turnedKey(k)))
	}
	return got
}

// refuseWrong checks that the signature is wrong, and by none of some keys.
func refuseWrong(t *testing.T, s impl.Signed, keys []impl.SignKey) {
	t.Helper()
	if impl.SignatureRight(s) {
		t.Fatalf("%v is right", s)
	}
	for _, k := range keys {
		if impl.SignedBy(s, k) {
			t.Fatalf("%v is by %v", s, k)
		}
	}
}

// checkOtherText checks that a right signature is right for another text only if both digests are the same modulo the modulus.
func checkOtherText(t *testing.T, s impl.Signed, k impl.SignKey, text string) bool {
	t.Helper()
	other := withText(s, text)
	alike := textDigest(text)%s.Modulus == textDigest(s.Text)%s.Modulus
	if impl.SignatureRight(other) != alike || impl.SignedBy(other, k) != alike {
		t.Fatalf("with %q, signed as %v: %t, %t", text, s, impl.SignatureRight(other), impl.SignedBy(other, k))
	}
	return alike
}

// P17: signatures that were reckoned elsewhere.
func TestP17KnownSignatures(t *testing.T) {
	texts := []string{"", "a", "hello", "olleh", "create 1 @ann@red k1", "a=7;b=10", repeated("~", 80), repeated(" ", 80)}
	known := [][]int{{61, 53, 17, 1, 2607, 943, 2162, 1156, 330, 771, 1473}, {53, 61, 17, 1, 2607, 943, 2162, 1156, 330, 771, 1473}, {11, 13, 7, 1, 107, 87, 43, 56, 106, 77, 0}, {11, 13, 121, 1, 68, 87, 43, 56, 50, 77, 0}, {13, 11, 599, 1, 61, 120, 10, 23, 123, 77, 0}, {11, 17, 3, 1, 95, 175, 175, 23, 8, 0, 132}, {11, 17, 999, 1, 6, 65, 65, 177, 145, 0, 132}, {997, 991, 7, 1, 340799, 596160, 255553, 497072, 383058, 821224, 583691}, {991, 997, 997, 1, 418097, 316698, 166363, 340494, 439545, 821224, 982073}, {997, 983, 5, 1, 688359, 72077, 133971, 542119, 458649, 233603, 641282}, {499, 503, 5, 1, 77862, 186917, 177703, 16255, 144629, 111373, 26603}, {997, 11, 7, 1, 822, 7930, 9294, 1563, 4198, 693, 7425}}
	for _, row := range known {
		k := impl.SignKey{One: row[0], Two: row[1], Exponent: row[2]}
		for place, text := range texts {
			want := impl.Signed{Text: text, Modulus: row[0] * row[1], Exponent: row[2], Signature: row[3+place]}
			if got := checkSignedText(t, k, text); got != want {
				t.Fatalf("SignText(%v, %q) is %v, not %v", k, text, got, want)
			}
		}
	}
}

// P17: texts of every length.
func TestP17SomeTexts(t *testing.T) {
	for _, k := range someKeys() {
		for _, text := range someTexts() {
			got := checkSignedText(t, k, text)
			if got.Text != text || got.Modulus != impl.KeyModulus(k) || got.Exponent != k.Exponent {
				t.Fatalf("SignText(%v, %q) is %v", k, text, got)
			}
			opened := impl.OpenNumber(got.Modulus, got.Exponent, got.Signature)
			if opened != impl.DigestOf(text)%got.Modulus || got.Signature != impl.SignNumber(k, opened) {
				t.Fatalf("%v is opened as %d", got, opened)
			}
		}
	}
}

// P17: all texts of up to two bytes.
func TestP17AllShortTexts(t *testing.T) {
	for _, k := range []impl.SignKey{{One: 11, Two: 13, Exponent: 7}, {One: 997, Two: 991, Exponent: 7}} {
		for many := 0; many <= 2; many++ {
			for _, text := range textsOf(textBytes(), many) {
				checkSignedText(t, k, text)
			}
		}
	}
}

// P17: digests at both ends, and around the modulus and its double, as what is signed is what is left modulo the modulus.
func TestP17DigestsAroundTheModulus(t *testing.T) {
	for _, k := range someKeys() {
		n := k.One * k.Two
		for _, digest := range []int{0, 1, 2, n - 2, n - 1, n, n + 1, 2 * n, 2*n + 1, 3*n - 1, digestPrime - 2, digestPrime - 1} {
			if digest >= digestPrime {
				continue
			}
			text := textOfDigest(digest)
			if impl.DigestOf(text) != digest {
				t.Fatalf("DigestOf(%q) is %d, not %d", text, impl.DigestOf(text), digest)
			}
			got := checkSignedText(t, k, text)
			if digest%n == 0 && got.Signature != 0 || digest%n == 1 && got.Signature != 1 || digest%n == n-1 && got.Signature != n-1 {
				t.Fatalf("SignText(%v, %q) is %v", k, text, got)
			}
		}
	}
}

// P17: all pairs of primes.
func TestP17AllPairs(t *testing.T) {
	for _, one := range keyPrimes() {
		for _, two := range keyPrimes() {
			k := impl.SignKey{One: one, Two: two, Exponent: 997}
			got, ok := impl.SignText(k, "hello")
			if one == two {
				refuseSignedText(t, k, "hello")
			} else if !ok || !impl.SignatureRight(got) || !impl.SignedBy(got, k) || got.Modulus != one*two || got.Exponent != 997 || got.Text != "hello" {
				t.Fatalf("SignText(%v) is %v, %t", k, got, ok)
			}
		}
	}
}

// P17: all exponents.
func TestP17AllExponents(t *testing.T) {
	for _, pair := range [][]int{{11, 13}, {61, 53}, {997, 991}, {17, 19}} {
		for exponent := -10; exponent <= lastExponent+10; exponent++ {
			k := impl.SignKey{One: pair[0], Two: pair[1], Exponent: exponent}
			if isKey(k) {
				checkSignedText(t, k, "hello")
			} else {
				refuseSignedText(t, k, "hello")
			}
		}
	}
}

// P17: other texts are not signed.
func TestP17OtherTexts(t *testing.T) {
	for _, text := range badTexts() {
		for _, k := range someKeys() {
			refuseSignedText(t, k, text)
		}
		refuseSignedText(t, impl.SignKey{}, text)
	}
}

// P17: every byte, at both ends of a text and alone.
func TestP17AllBytes(t *testing.T) {
	k := impl.SignKey{One: 61, Two: 53, Exponent: 17}
	for b := 0; b < allBytes; b++ {
		for _, text := range []string{string([]byte{byte(b)}), withByte("hello", 0, b), withByte("hello", 4, b), withByte(letters(longest), longest-1, b)} {
			if isTextByte(b) {
				checkSignedText(t, k, text)
			} else {
				refuseSignedText(t, k, text)
			}
		}
	}
}

// P17: other keys sign nothing.
func TestP17OtherKeys(t *testing.T) {
	for _, k := range badKeys() {
		for _, text := range append(fewTexts(), badTexts()...) {
			refuseSignedText(t, k, text)
		}
	}
}

// P81: exactly one of all signatures is right.
func TestP81AllSignatures(t *testing.T) {
	for _, k := range []impl.SignKey{{One: 11, Two: 13, Exponent: 7}, {One: 13, Two: 11, Exponent: 121}, {One: 11, Two: 17, Exponent: 999}, {One: 17, Two: 19, Exponent: 5}, {One: 61, Two: 53, Exponent: 17}} {
		for _, text := range fewTexts() {
			right := checkSignedText(t, k, text)
			for signature := -20; signature < right.Modulus+20; signature++ {
				other := withSignature(right, signature)
				same := signature == right.Signature
				if impl.SignatureRight(other) != same || impl.SignedBy(other, k) != same {
					t.Fatalf("%v, signed by %v: %t, %t", other, k, impl.SignatureRight(other), impl.SignedBy(other, k))
				}
			}
		}
	}
}

// P81: numbers that are none modulo the modulus, also those that leave the right signature.
func TestP81OtherSignatures(t *testing.T) {
	for _, k := range someKeys() {
		for _, text := range fewTexts() {
			right := checkSignedText(t, k, text)
			n := right.Modulus
			for _, signature := range append(outsideOf(n), right.Signature+n, right.Signature-n, right.Signature+2*n, right.Signature+1<<32, right.Signature-1<<32, right.Signature+n<<40) {
				if !isBelow(signature, n) {
					refuseWrong(t, withSignature(right, signature), []impl.SignKey{k})
				}
			}
			for _, signature := range []int{(right.Signature + 1) % n, (right.Signature + n - 1) % n, (right.Signature + k.One) % n, (right.Signature + k.Two) % n, (n - right.Signature) % n} {
				checkRight(t, withSignature(right, signature))
				checkBy(t, withSignature(right, signature), k)
			}
		}
	}
}

// P81: all texts of two bytes, of which as many are right with the signature of another text as was reckoned elsewhere.
func TestP81AllShortTexts(t *testing.T) {
	texts := []string{"", "hello", "feed"}
	known := [][]int{{11, 13, 7, 66, 66, 64}, {11, 17, 3, 47, 48, 49}, {61, 53, 17, 3, 2, 2}, {997, 991, 7, 0, 0, 0}, {997, 11, 7, 1, 0, 1}}
	for _, row := range known {
		k := impl.SignKey{One: row[0], Two: row[1], Exponent: row[2]}
		for place, text := range texts {
			right := checkSignedText(t, k, text)
			alike := 0
			for _, other := range textsOf(textBytes(), 2) {
				if checkOtherText(t, right, k, other) {
					alike++
				}
			}
			if alike != row[3+place] {
				t.Fatalf("%d texts are right as %v, not %d", alike, right, row[3+place])
			}
		}
	}
}

// P81: every text with the signature of every other one.
func TestP81SomeTexts(t *testing.T) {
	for _, k := range someKeys() {
		for _, text := range fewTexts() {
			right := checkSignedText(t, k, text)
			for _, other := range someTexts() {
				checkOtherText(t, right, k, other)
			}
		}
	}
}

// P81: every other byte, at every place; with some of them the digests are the same modulo the modulus.
func TestP81OtherBytes(t *testing.T) {
	for _, k := range []impl.SignKey{{One: 11, Two: 13, Exponent: 7}, {One: 61, Two: 53, Exponent: 17}, {One: 997, Two: 991, Exponent: 7}} {
		for _, text := range []string{"a", "hello", "create 1 @ann@red k1"} {
			right := checkSignedText(t, k, text)
			for at := range text {
				for b := 0; b < allBytes; b++ {
					other := withByte(text, at, b)
					if isTextByte(b) {
						checkOtherText(t, right, k, other)
					} else {
						refuseWrong(t, withText(right, other), []impl.SignKey{k})
					}
				}
			}
		}
	}
}

// P81: texts that were turned, of which few stay right, as was reckoned elsewhere: those that are the same from both ends, and those of the same digest modulo the modulus.
func TestP81TurnedTexts(t *testing.T) {
	known := [][]int{{11, 13, 7, 18, 2}, {11, 17, 3, 16, 14}, {11, 19, 7, 26, 0}, {13, 17, 5, 10, 2}, {61, 53, 17, 0, 0}, {997, 11, 7, 0, 0}, {997, 991, 7, 0, 0}}
	for _, row := range known {
		k := impl.SignKey{One: row[0], Two: row[1], Exponent: row[2]}
		checkTurnedTexts(t, k, textsOf("adelor", 5), 216, row[3])
		checkTurnedTexts(t, k, textsOf("ab~", 6), 27, row[4])
	}
}

// checkTurnedTexts counts the texts that are the same when they are turned, and the other ones that stay right.
func checkTurnedTexts(t *testing.T, k impl.SignKey, texts []string, wantSame int, wantAlike int) {
	t.Helper()
	same, alike := 0, 0
	for _, text := range texts {
		right := checkSignedText(t, k, text)
		stays := checkOtherText(t, right, k, turnedText(text))
		if text == turnedText(text) {
			same++
		} else if stays {
			alike++
		}
	}
	if same != wantSame || alike != wantAlike {
		t.Fatalf("of texts signed by %v, %d are the same when turned, and %d others stay right, not %d and %d", k, same, alike, wantSame, wantAlike)
	}
}

// P81: with the modulus 187 a text and the same one turned have the same signature, and with 143 they do not.
func TestP81TurnedHello(t *testing.T) {
	k := impl.SignKey{One: 11, Two: 17, Exponent: 3}
	if right := checkSignedText(t, k, "hello"); !checkOtherText(t, right, k, "olleh") {
		t.Fatalf("%v, turned, is wrong", right)
	}
	k = impl.SignKey{One: 11, Two: 13, Exponent: 7}
	if right := checkSignedText(t, k, "hello"); checkOtherText(t, right, k, "olleh") {
		t.Fatalf("%v, turned, is right", right)
	}
}

func TestP81TurnedSomeTexts(t *testing.T) {
	for _, k := range someKeys() {
		for _, text := range someTexts() {
			right := checkSignedText(t, k, text)
			if checkOtherText(t, right, k, turnedText(text)) && text != turnedText(text) && right.Signature != checkSignedText(t, k, turnedText(text)).Signature {
				t.Fatalf("%q has another signature than %q", turnedText(text), text)
			}
		}
	}
}

// P81: other texts are wrong with whatever there is, also where neither has a digest nor can be opened.
func TestP81InvalidTexts(t *testing.T) {
	keys := append(badKeys(), someKeys()...)
	for _, text := range badTexts() {
		for _, k := range someKeys() {
			right := checkSignedText(t, k, "hello")
			refuseWrong(t, withText(right, text), []impl.SignKey{k})
			refuseWrong(t, withExponent(withText(right, text), 2), []impl.SignKey{k})
			for _, signature := range []int{-1, 0, 1, right.Modulus - 1, right.Modulus} {
				refuseWrong(t, withSignature(withText(right, text), signature), []impl.SignKey{k})
			}
		}
		for signature := -1; signature <= 143; signature++ {
			refuseWrong(t, impl.Signed{Text: text, Modulus: 143, Exponent: 7, Signature: signature}, nil)
		}
		refuseWrong(t, impl.Signed{Text: text}, keys)
		refuseWrong(t, impl.Signed{Text: text, Modulus: -1, Exponent: -1, Signature: -1}, keys)
	}
}

// P81: moduli from 100 on count. The digest of the empty text is 1, and 1 is opened as 1 with all moduli.
func TestP81AllSmallModuli(t *testing.T) {
	for n := -300; n <= 1100; n++ {
		s := impl.Signed{Modulus: n, Exponent: 7, Signature: 1}
		if impl.SignatureRight(s) != (n >= firstSignedModulus) {
			t.Fatalf("SignatureRight(%v) is %t", s, impl.SignatureRight(s))
		}
	}
}

// P81: all signatures around the least modulus, some of which are right from it on.
func TestP81AroundTheLeastModulus(t *testing.T) {
	for n := 80; n <= 120; n++ {
		right := 0
		for _, text := range fewTexts() {
			for signature := -2; signature <= n+2; signature++ {
				if checkRight(t, impl.Signed{Text: text, Modulus: n, Exponent: firstExponent, Signature: signature}) {
					right++
				}
			}
		}
		if (right > 0) != (n >= firstSignedModulus) {
			t.Fatalf("with %d are %d signatures right", n, right)
		}
	}
}

// P81: the greatest moduli, and those that are none.
func TestP81OtherModuli(t *testing.T) {
	for n := mostModulus - 200; n <= mostModulus+200; n++ {
		s := impl.Signed{Modulus: n, Exponent: 7, Signature: 1}
		if impl.SignatureRight(s) != (n <= mostModulus) {
			t.Fatalf("SignatureRight(%v) is %t", s, impl.SignatureRight(s))
		}
	}
	for _, n := range badModuli() {
		for _, text := range fewTexts() {
			for _, signature := range []int{-1, 0, 1, 2, 97, n - 1, n, textDigest(text)} {
				for _, exponent := range []int{-1, 0, 1, 2, 3, 7, 1000, 1001} {
					refuseWrong(t, impl.Signed{Text: text, Modulus: n, Exponent: exponent, Signature: signature}, append(badKeys(), impl.SignKey{One: 11, Two: 13, Exponent: 7}))
				}
			}
		}
	}
}

// P81: a right signature is mostly wrong with another modulus.
func TestP81WithAnotherModulus(t *testing.T) {
	for _, k := range someKeys() {
		for _, text := range fewTexts() {
			right := checkSignedText(t, k, text)
			for _, n := range append(someModuli(), right.Modulus-1, right.Modulus+1, 2*right.Modulus, -right.Modulus, right.Modulus+1<<32, right.Modulus-1<<32) {
				checkRight(t, withModulus(right, n))
				checkBy(t, withModulus(right, n), k)
			}
			for _, n := range badModuli() {
				refuseWrong(t, withModulus(right, n), []impl.SignKey{k})
			}
		}
	}
}

// P81: exponents in 3..1000 count, also those that no key has.
func TestP81OtherExponents(t *testing.T) {
	for _, n := range []int{100, 121, 143, 187, 988027, mostModulus} {
		for exponent := -10; exponent <= lastExponent+10; exponent++ {
			s := impl.Signed{Modulus: n, Exponent: exponent, Signature: 1}
			if impl.SignatureRight(s) != (exponent >= firstExponent && exponent <= lastExponent) {
				t.Fatalf("SignatureRight(%v) is %t", s, impl.SignatureRight(s))
			}
			for _, signature := range []int{0, 2, n - 1} {
				checkRight(t, withSignature(s, signature))
			}
		}
		for _, exponent := range outsideExponents() {
			for _, signature := range []int{-1, 0, 1, n - 1, n} {
				refuseWrong(t, impl.Signed{Modulus: n, Exponent: exponent, Signature: signature}, []impl.SignKey{{One: 11, Two: 13, Exponent: exponent}})
			}
		}
	}
}

// P81: without an inverse exponent several signatures are right, or none.
func TestP81ExponentsWithoutInverse(t *testing.T) {
	several, none := 0, 0
	for _, text := range someTexts() {
		right := 0
		for signature := -1; signature <= 143; signature++ {
			if checkRight(t, impl.Signed{Text: text, Modulus: 143, Exponent: 6, Signature: signature}) {
				right++
			}
		}
		if right > 1 {
			several++
		}
		if right == 0 {
			none++
		}
	}
	if several == 0 || none == 0 {
		t.Fatalf("%d texts have several signatures, and %d none", several, none)
	}
}

// P82: all keys of small primes, with all signatures of such keys: one is by the keys of its modulus and its exponent alone.
func TestP82AllSmallKeys(t *testing.T) {
	keys := []impl.SignKey{}
	for _, one := range []int{11, 13, 17, 19} {
		for _, two := range []int{11, 13, 17, 19} {
			for _, exponent := range []int{3, 5, 7, 11, 13, 17, 121, 125, 127, 241, 499, 997} {
				k := impl.SignKey{One: one, Two: two, Exponent: exponent}
				if isKey(k) {
					keys = append(keys, k)
				}
			}
		}
	}
	for _, signing := range keys {
		right := checkSignedText(t, signing, "hello")
		by := 0
		for _, k := range keys {
			if checkBy(t, right, k) {
				by++
			}
		}
		if by != 2 {
			t.Fatalf("%v is by %d keys", right, by)
		}
	}
}

// P82: what has the same modulus or the same exponent alone is not by the key.
func TestP82OtherKeys(t *testing.T) {
	for _, k := range someKeys() {
		for _, text := range fewTexts() {
			right := checkSignedText(t, k, text)
			for _, other := range otherKeys(k) {
				if checkBy(t, right, other) {
					t.Fatalf("%v is by %v", right, other)
				}
			}
		}
	}
}

// P82: exponents with the same remainder lead to the same signature, but it is by the key of its exponent alone.
func TestP82SameRemainders(t *testing.T) {
	for exponent := firstExponent; exponent <= lastExponent-120; exponent++ {
		k := impl.SignKey{One: 11, Two: 13, Exponent: exponent}
		next := impl.SignKey{One: 11, Two: 13, Exponent: exponent + 120}
		if !isKey(k) {
			continue
		}
		right := checkSignedText(t, k, "hello")
		other := checkSignedText(t, next, "hello")
		if withExponent(right, next.Exponent) != other || impl.SignedBy(right, next) || impl.SignedBy(other, k) {
			t.Fatalf("%v and %v are by %v and %v", right, other, k, next)
		}
	}
}

// P82: whoever made it, what is right and has the modulus and the exponent of a key is by it. The signature is chosen here first, and then the text.
func TestP82ChosenSignatures(t *testing.T) {
	for _, k := range someKeys() {
		n := k.One * k.Two
		for _, signature := range []int{0, 1, 2, k.One, k.Two, n / 2, n - 2, n - 1} {
			digest := powerOf(signature, k.Exponent, n)
			chosen := impl.Signed{Text: textOfDigest(digest), Modulus: n, Exponent: k.Exponent, Signature: signature}
			if !checkRight(t, chosen) || !checkBy(t, chosen, k) || checkSignedText(t, k, chosen.Text) != chosen {
				t.Fatalf("%v is not by %v", chosen, k)
			}
		}
	}
}

// P82: wrong signatures are by no key, also with its modulus and its exponent.
func TestP82WrongSignatures(t *testing.T) {
	for _, k := range someKeys() {
		for _, text := range fewTexts() {
			right := checkSignedText(t, k, text)
			for more := 1; more < 10; more++ {
				refuseWrong(t, withSignature(right, (right.Signature+more)%right.Modulus), []impl.SignKey{k, turnedKey(k)})
			}
		}
	}
	for _, k := range append(someKeys(), badKeys()...) {
		if impl.SignedBy(impl.Signed{}, k) || impl.SignedBy(impl.Signed{Modulus: -1, Exponent: k.Exponent, Signature: -1}, k) || impl.SignedBy(impl.Signed{Modulus: -1, Exponent: k.Exponent, Signature: 1}, k) {
			t.Fatalf("nothing is by %v", k)
		}
	}
}

// P82: other keys have no signatures, also if the signature is right and has the product of both numbers and the exponent.
func TestP82InvalidKeys(t *testing.T) {
	right := 0
	for _, k := range badKeys() {
		for _, n := range []int{k.One * k.Two, 143, 3233, -1, 0} {
			for _, signature := range []int{1, 0, -1} {
				s := impl.Signed{Modulus: n, Exponent: k.Exponent, Signature: signature}
				if checkBy(t, s, k) {
					t.Fatalf("%v is by %v", s, k)
				}
				if checkRight(t, s) && n == k.One*k.Two {
					right++
				}
			}
		}
	}
	if right < 20 {
		t.Fatalf("%d signatures are right", right)
	}
}

// P82: right signatures with moduli and exponents that no key has are by none.
func TestP82WithoutKeys(t *testing.T) {
	list := []impl.Signed{{Modulus: 100, Exponent: 7, Signature: 1}, {Modulus: 121, Exponent: 7, Signature: 1}, {Modulus: 142, Exponent: 7, Signature: 1}, {Modulus: 144, Exponent: 7, Signature: 1}, {Modulus: 997, Exponent: 7, Signature: 1}, {Modulus: 143, Exponent: 3, Signature: 1}, {Modulus: 143, Exponent: 1000, Signature: 1}, {Modulus: 988026, Exponent: 7, Signature: 1}, {Modulus: 988028, Exponent: 7, Signature: 1}, {Modulus: 994009, Exponent: 7, Signature: 1}, {Modulus: mostModulus, Exponent: 7, Signature: 1}}
	primes := keyPrimes()
	for _, s := range list {
		if !checkRight(t, s) {
			t.Fatalf("%v is wrong", s)
		}
		for _, one := range primes {
			for _, two := range primes {
				if impl.SignedBy(s, impl.SignKey{One: one, Two: two, Exponent: s.Exponent}) {
					t.Fatalf("%v is by %d and %d", s, one, two)
				}
			}
		}
	}
}

// P82: of all pairs of primes only one, in both orders, has the modulus.
func TestP82AllPairs(t *testing.T) {
	right := checkSignedText(t, impl.SignKey{One: 61, Two: 53, Exponent: 997}, "hello")
	by := 0
	for _, one := range keyPrimes() {
		for _, two := range keyPrimes() {
			if impl.SignedBy(right, impl.SignKey{One: one, Two: two, Exponent: 997}) {
				by++
			}
		}
	}
	if by != 2 {
		t.Fatalf("%v is by %d keys", right, by)
	}
}

// P82: of all exponents only one is that of the signature.
func TestP82AllExponents(t *testing.T) {
	for _, k := range someKeys() {
		right := checkSignedText(t, k, "hello")
		for exponent := -10; exponent <= lastExponent+10; exponent++ {
			other := impl.SignKey{One: k.One, Two: k.Two, Exponent: exponent}
			if impl.SignedBy(right, other) != (exponent == k.Exponent) {
				t.Fatalf("SignedBy(%v, %v) is %t", right, other, exponent != k.Exponent)
			}
			checkBy(t, withExponent(right, exponent), other)
		}
	}
}

// P17, P81 and P82: nothing is kept from one call to the next.
func TestP17SignaturesAreAlike(t *testing.T) {
	for times := 0; times < 3; times++ {
		for _, k := range someKeys() {
			right := checkSignedText(t, k, "hello")
			refuseSignedText(t, k, "\n")
			refuseSignedText(t, impl.SignKey{One: k.One, Two: k.One, Exponent: k.Exponent}, "hello")
			refuseWrong(t, withText(right, "\n"), []impl.SignKey{k})
			refuseWrong(t, withModulus(right, 99), []impl.SignKey{k})
		}
	}
}

// P17, P81 and P82: whatever keys and texts.
func TestP17WhateverTexts(t *testing.T) {
	data := uint32(15)
	primes := keyPrimes()
	signed := 0
	for times := 0; times < 5000; times++ {
		data = nextData(data)
		one := primes[chosenOf(data, len(primes))]
		data = nextData(data)
		two := primes[chosenOf(data, len(primes))]
		data = nextData(data)
		k := impl.SignKey{One: one, Two: two, Exponent: chosenOf(data, 1010)}
		data = nextData(data)
		text := whateverText(data, 20)
		if !isKey(k) {
			refuseSignedText(t, k, text)
			continue
		}
		signed++
		right := checkSignedText(t, k, text)
		checkOtherText(t, right, k, turnedText(text))
		checkOtherText(t, right, k, whateverText(data+1, 20))
		data = nextData(data)
		other := withSignature(right, chosenOf(data, one*two))
		checkRight(t, other)
		checkBy(t, other, k)
	}
	if signed < 1000 {
		t.Fatalf("%d texts were signed", signed)
	}
}

// whateverText is a valid text of fewer bytes than the given number.
func whateverText(data uint32, above int) string {
	many := chosenOf(data, above)
	list := []byte{}
	for k := 0; k < many; k++ {
		data = nextData(data)
		list = append(list, byte(firstByte+chosenOf(data, lastByte-firstByte+1)))
	}
	return string(list)
}

// P81 and P82: whatever there is, most of which is wrong.
func TestP81WhateverSigned(t *testing.T) {
	data := uint32(81)
	right := 0
	for times := 0; times < 50000; times++ {
		data = nextData(data)
		s := impl.Signed{Modulus: chosenOf(data, 120) + 60}
		data = nextData(data)
		s.Exponent = chosenOf(data, 12) - 2
		data = nextData(data)
		s.Signature = chosenOf(data, 130) - 5
		data = nextData(data)
		s.Text = whateverText(data, 3)
		if checkRight(t, s) {
			right++
		}
		if impl.SignedBy(s, impl.SignKey{One: 11, Two: 13, Exponent: 7}) != (isRight(s) && s.Modulus == 143 && s.Exponent == 7) {
			t.Fatalf("SignedBy(%v) is not as it should be", s)
		}
	}
	if right == 0 {
		t.Fatal("none is right")
	}
}
