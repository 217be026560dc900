package tests

import (
	"testing"

	"loop.example/feedbridge/impl"
)

const (
	firstKeyPrime = 11
	lastKeyPrime  = 997
	firstExponent = 3
	lastExponent  = 1000
)

// keyPrimes are the primes that a key may have.
func keyPrimes() []int {
	list := []int{}
	for n, prime := range sievedPrimes(lastKeyPrime + 1) {
		if prime && n >= firstKeyPrime {
			list = append(list, n)
		}
	}
	return list
}

func isAmong(n int, list []int) bool {
	for _, one := range list {
		if one == n {
			return true
		}
	}
	return false
}

// isKey looks for divisors that both numbers have, so that it does not share its way with the program.
func isKey(k impl.SignKey) bool {
	primes := keyPrimes()
	if !isAmong(k.One, primes) || !isAmong(k.Two, primes) || k.One == k.Two {
		return false
	}
	return k.Exponent >= firstExponent && k.Exponent <= lastExponent && hasInverse(k)
}

func hasInverse(k impl.SignKey) bool {
	return !shareDivisor(k.Exponent, k.One-1) && !shareDivisor(k.Exponent, k.Two-1)
}

// inverseExponent looks for a multiple of the exponent one above a multiple of the other number, so that it does not share its way with the program.
func inverseExponent(k impl.SignKey) int {
	around := (k.One - 1) * (k.Two - 1)
	for times := 1; times < k.Exponent; times++ {
		if (times*around+1)%k.Exponent == 0 {
			return (times*around + 1) / k.Exponent
		}
	}
	return -1
}

func turnedKey(k impl.SignKey) impl.SignKey {
	return impl.SignKey{One: k.Two, Two: k.One, Exponent: k.Exponent}
}

// someKeys are at both ends, in either order, and with exponents of all kinds, also those greater than (One-1)*(Two-1).
func someKeys() []impl.SignKey {
	list := [][]int{{61, 53, 17}, {11, 13, 7}, {13, 11, 7}, {11, 13, 119}, {11, 13, 121}, {11, 13, 127}, {11, 13, 241}, {11, 13, 599}, {11, 13, 961}, {11, 17, 3}, {17, 11, 3}, {11, 17, 999}, {11, 17, 161}, {13, 17, 5}, {17, 19, 289}, {11, 997, 7}, {997, 11, 7}, {997, 991, 7}, {991, 997, 7}, {997, 991, 997}, {997, 991, 991}, {997, 983, 5}, {499, 503, 5}, {101, 103, 7}, {101, 103, 997}, {467, 479, 3}, {479, 467, 999}, {257, 17, 3}, {257, 17, 999}, {977, 983, 999}, {983, 977, 3}}
	keys := []impl.SignKey{}
	for _, k := range list {
		keys = append(keys, impl.SignKey{One: k[0], Two: k[1], Exponent: k[2]})
	}
	return keys
}

// badKeys are no keys, each for a reason of its own.
func badKeys() []impl.SignKey {
	list := [][]int{{0, 0, 0}, {61, 61, 17}, {11, 11, 7}, {997, 997, 7}, {61, 53, 6}, {61, 53, 13}, {61, 53, 39}, {61, 53, 5}, {53, 61, 5}, {60, 53, 17}, {61, 54, 17}, {7, 53, 17}, {61, 7, 17}, {2, 11, 7}, {11, 2, 7}, {3, 11, 7}, {5, 11, 7}, {11, 5, 7}, {1, 11, 7}, {11, 1, 7}, {0, 11, 7}, {11, 0, 7}, {9, 11, 7}, {11, 9, 7}, {12, 11, 7}, {1009, 11, 5}, {11, 1009, 5}, {1013, 11, 3}, {998, 11, 7}, {999, 11, 7}, {1000, 11, 7}, {11, 999, 7}, {121, 13, 7}, {961, 13, 7}, {13, 961, 7}, {-11, -13, 7}, {-11, 13, 7}, {11, -13, 7}, {-61, -53, 17}, {143, 1, 7}, {1, 143, 7}, {11, 13, 0}, {11, 13, 1}, {11, 13, 2}, {11, 13, -1}, {11, 13, -7}, {11, 13, -113}, {11, 13, -119}, {11, 13, 3}, {11, 13, 4}, {11, 13, 5}, {11, 13, 6}, {11, 13, 120}, {11, 13, 240}, {11, 13, 960}, {11, 13, 1000}, {11, 13, 1001}, {11, 13, 1003}, {11, 13, 1009}, {11, 17, 1001}, {17, 19, 1001}, {257, 17, 1001}, {997, 991, 1001}, {997, 991, 3}, {997, 991, 5}, {997, 991, 11}, {997, 991, 83}, {997, 991, 996}, {997, 991, 990}, {997, 991, 913}, {11, 17, 5}, {11, 17, 1000}, {11, 13, 7 + 1<<32}, {11 + 1<<32, 13, 7}, {11, 13 + 1<<32, 7}, {11 - 1<<32, 13, 7}, {11, 13, 7 - 1<<32}, {11, 13, 1<<63 - 1}, {11, 13, -1 << 63}, {1<<63 - 1, 13, 7}, {-1 << 63, 13, 7}, {11, 1<<63 - 1, 7}, {11, -1 << 63, 7}, {1<<63 - 1, -1 << 63, -1 << 63}, {-1 << 63, -1 << 63, -1 << 63}, {-1<<63 + 1, 1, 7}, {1, 1, 3}, {1, 1, 1}, {2, 2, 3}, {2, 3, 3}}
	keys := []impl.SignKey{}
	for _, k := range list {
		keys = append(keys, impl.SignKey{One: k[0], Two: k[1], Exponent: k[2]})
	}
	return keys
}

// outsideExponents cannot be used to open a number, also those whose lowest digits could.
func outsideExponents() []int {
	return []int{2, 1, 0, -1, -2, -3, -7, -17, -1000, 1001, 1002, 1003, 1007, 10007, greatest, 1 << 31, 1 << 32, 3 + 1<<32, 7 + 1<<32, 3 - 1<<32, 1<<63 - 1, -1 << 31, -1 << 32, -1 << 63, 3 - 1<<63}
}

func checkKey(t *testing.T, k impl.SignKey) {
	t.Helper()
	if !impl.KeyValid(k) || !impl.KeyValid(turnedKey(k)) {
		t.Fatalf("KeyValid(%v) is %t, and with both exchanged %t", k, impl.KeyValid(k), impl.KeyValid(turnedKey(k)))
	}
	n := impl.KeyModulus(k)
	if n != k.One*k.Two || n%k.One != 0 || n%k.Two != 0 || impl.KeyModulus(turnedKey(k)) != n {
		t.Fatalf("KeyModulus(%v) is %d, and with both exchanged %d", k, n, impl.KeyModulus(turnedKey(k)))
	}
}

func refuseKey(t *testing.T, k impl.SignKey) {
	t.Helper()
	if impl.KeyValid(k) || impl.KeyModulus(k) != -1 || impl.SignNumber(k, 0) != -1 || impl.SignNumber(k, 1) != -1 || impl.SignNumber(k, -1) != -1 {
		t.Fatalf("%v is no key: %t, %d, %d, %d, %d", k, impl.KeyValid(k), impl.KeyModulus(k), impl.SignNumber(k, 0), impl.SignNumber(k, 1), impl.SignNumber(k, -1))
	}
}

// checkKeyIf checks a key in both orders.
func checkKeyIf(t *testing.T, k impl.SignKey, valid bool) {
	t.Helper()
	if valid {
		checkKey(t, k)
		return
	}
	refuseKey(t, k)
	refuseKey(t, turnedKey(k))
}

// checkSigned checks that what was signed is opened, and what was opened is signed.
func checkSigned(t *testing.T, k impl.SignKey, number int) int {
	t.Helper()
	signature := impl.SignNumber(k, number)
	if !isBelow(signature, k.One*k.Two) || impl.OpenNumber(k.One*k.Two, k.Exponent, signature) != number {
		t.Fatalf("SignNumber(%v, %d) is %d, and opened it is %d", k, number, signature, impl.OpenNumber(k.One*k.Two, k.Exponent, signature))
	}
	opened := impl.OpenNumber(k.One*k.Two, k.Exponent, number)
	if !isBelow(opened, k.One*k.Two) || impl.SignNumber(k, opened) != number {
		t.Fatalf("opening %d with %v it is %d, and signed %d", number, k, opened, impl.SignNumber(k, opened))
	}
	return signature
}

func refuseSigned(t *testing.T, k impl.SignKey, number int) {
	t.Helper()
	if got := impl.SignNumber(k, number); got != -1 {
		t.Fatalf("SignNumber(%v, %d) is %d", k, number, got)
	}
}

func checkOpened(t *testing.T, n int, exponent int, number int) int {
	t.Helper()
	got := impl.OpenNumber(n, exponent, number)
	if got != powerOf(number, exponent, n) {
		t.Fatalf("OpenNumber(%d, %d, %d) is %d, not %d", n, exponent, number, got, powerOf(number, exponent, n))
	}
	return got
}

func refuseOpened(t *testing.T, n int, exponent int, number int) {
	t.Helper()
	if got := impl.OpenNumber(n, exponent, number); got != -1 {
		t.Fatalf("OpenNumber(%d, %d, %d) is %d", n, exponent, number, got)
	}
}

// checkOpenedProduct checks that opening the product is the product of both opened numbers.
func checkOpenedProduct(t *testing.T, n int, exponent int, a int, b int) {
	t.Helper()
	got := impl.OpenNumber(n, exponent, productOf(a, b, n))
	want := productOf(impl.OpenNumber(n, exponent, a), impl.OpenNumber(n, exponent, b), n)
	if got != want || got == -1 {
		t.Fatalf("modulo %d with %d the product of %d and %d is opened as %d, not %d", n, exponent, a, b, got, want)
	}
}

// P16: signatures that were reckoned elsewhere.
func TestP16KnownSignatures(t *testing.T) {
	known := [][]int{{61, 53, 17, 65, 588}, {61, 53, 17, 2, 1027}, {61, 53, 17, 61, 2806}, {61, 53, 17, 53, 3074}, {61, 53, 17, 1616, 787}, {61, 53, 17, 3231, 2206}, {61, 53, 17, 3232, 3232}, {11, 13, 7, 2, 63}, {11, 13, 7, 11, 132}, {11, 13, 7, 13, 52}, {11, 13, 7, 71, 59}, {11, 13, 7, 141, 80}, {11, 13, 127, 2, 63}, {11, 13, 127, 141, 80}, {11, 13, 121, 2, 2}, {11, 13, 121, 141, 141}, {13, 11, 599, 2, 72}, {13, 11, 599, 13, 39}, {13, 11, 599, 71, 141}, {11, 17, 3, 2, 161}, {11, 17, 3, 65, 10}, {11, 17, 3, 185, 26}, {11, 17, 999, 2, 94}, {11, 17, 999, 93, 185}, {997, 991, 7, 2, 846014}, {997, 991, 7, 997, 303088}, {997, 991, 7, 991, 265588}, {997, 991, 7, 494013, 809941}, {997, 991, 7, 988025, 142013}, {997, 991, 7, 988026, 988026}, {991, 997, 7, 65, 291145}, {997, 991, 997, 2, 279162}, {997, 991, 997, 988025, 708865}, {997, 983, 5, 2, 249845}, {499, 503, 5, 125498, 176756}, {101, 103, 7, 10401, 2843}}
	for _, k := range known {
		key := impl.SignKey{One: k[0], Two: k[1], Exponent: k[2]}
		if got := checkSigned(t, key, k[3]); got != k[4] {
			t.Fatalf("SignNumber(%v, %d) is %d, not %d", key, k[3], got, k[4])
		}
		if got := impl.OpenNumber(k[0]*k[1], k[2], k[4]); got != k[3] {
			t.Fatalf("OpenNumber(%d, %d, %d) is %d, not %d", k[0]*k[1], k[2], k[4], got, k[3])
		}
	}
}

// P16: numbers that were opened elsewhere, also with moduli that no key has, of which 1 is the least.
func TestP16KnownOpenings(t *testing.T) {
	known := [][]int{{3233, 17, 65, 2790}, {1, 3, 0, 0}, {1, 1000, 0, 0}, {2, 1000, 1, 1}, {2, 3, 0, 0}, {7, 3, 2, 1}, {10, 3, 7, 3}, {1000, 3, 10, 0}, {720720, 999, 11, 1331}, {999983, 1000, 2, 497056}, {988027, 7, 988026, 988026}, {988027, 1000, 123456, 982639}, {mostModulus, 3, 100, 0}, {mostModulus, 3, 999999, 999999}, {mostModulus, 1000, 999999, 1}, {mostModulus, 1000, 7, 600001}}
	for _, k := range known {
		if got := impl.OpenNumber(k[0], k[1], k[2]); got != k[3] {
			t.Fatalf("OpenNumber(%d, %d, %d) is %d, not %d", k[0], k[1], k[2], got, k[3])
		}
	}
}

// P16: all numbers of the smallest keys, with all exponents.
func TestP16AllNumbersOfSmallKeys(t *testing.T) {
	primes := []int{11, 13, 17, 19}
	for _, one := range primes {
		for _, two := range primes {
			for exponent := firstExponent; exponent <= lastExponent; exponent++ {
				k := impl.SignKey{One: one, Two: two, Exponent: exponent}
				if one == two || !hasInverse(k) {
					refuseKey(t, k)
					continue
				}
				for number := 0; number < one*two; number++ {
					checkSigned(t, k, number)
				}
				refuseSigned(t, k, one*two)
			}
		}
	}
}

// P16: all numbers of the key with the greatest modulus, no two of which have the same signature.
func TestP16AllNumbersOfTheGreatestKey(t *testing.T) {
	k := impl.SignKey{One: 997, Two: 991, Exponent: 7}
	had := make([]bool, 997*991)
	for number := 0; number < 997*991; number++ {
		signature := checkSigned(t, k, number)
		if had[signature] {
			t.Fatalf("SignNumber(%v, %d) is %d, as that of another number", k, number, signature)
		}
		had[signature] = true
	}
	refuseSigned(t, k, 997*991)
}

// P16: numbers at both ends, and those that one of the primes divides, as a power of the inverse exponent that was found in another way.
func TestP16SomeKeys(t *testing.T) {
	for _, k := range someKeys() {
		n := k.One * k.Two
		inverse := inverseExponent(k)
		numbers := append(someBelow(n), k.One, k.Two, 2*k.One, 3*k.Two, n-k.One, n-k.Two)
		for _, number := range numbers {
			if got := checkSigned(t, k, number); got != powerOf(number, inverse, n) {
				t.Fatalf("SignNumber(%v, %d) is %d, not %d", k, number, got, powerOf(number, inverse, n))
			}
			checkOpened(t, n, k.Exponent, number)
		}
	}
}

// P16: 0, 1 and the last number are signatures of themselves.
func TestP16BothEnds(t *testing.T) {
	primes := keyPrimes()
	for _, one := range primes {
		for _, two := range primes {
			k := impl.SignKey{One: one, Two: two, Exponent: 991}
			if one != two && (impl.SignNumber(k, 0) != 0 || impl.SignNumber(k, 1) != 1 || impl.SignNumber(k, one*two-1) != one*two-1 || impl.SignNumber(k, one*two) != -1 || impl.SignNumber(k, -1) != -1) {
				t.Fatalf("signed by %v, both ends are %d, %d, %d, %d and %d", k, impl.SignNumber(k, 0), impl.SignNumber(k, 1), impl.SignNumber(k, one*two-1), impl.SignNumber(k, one*two), impl.SignNumber(k, -1))
			}
		}
	}
}

// P16: exponents with the same remainder sign alike, and with the remainder 1 every number is its signature.
func TestP16Remainders(t *testing.T) {
	for exponent := firstExponent; exponent <= lastExponent; exponent++ {
		k := impl.SignKey{One: 11, Two: 13, Exponent: exponent}
		less := impl.SignKey{One: 11, Two: 13, Exponent: exponent % 120}
		for number := 0; impl.KeyValid(k) && number < 143; number++ {
			got := impl.SignNumber(k, number)
			if exponent%120 == 1 && got != number {
				t.Fatalf("SignNumber(%v, %d) is %d", k, number, got)
			}
			if exponent%120 > 1 && got != impl.SignNumber(less, number) {
				t.Fatalf("SignNumber(%v, %d) is %d, not %d", k, number, got, impl.SignNumber(less, number))
			}
		}
	}
}

// P16: with both primes exchanged numbers are signed alike.
func TestP16ExchangedPrimes(t *testing.T) {
	for _, k := range someKeys() {
		for _, number := range someBelow(k.One * k.Two) {
			if got := impl.SignNumber(turnedKey(k), number); got != checkSigned(t, k, number) {
				t.Fatalf("SignNumber(%v, %d) is %d, not %d", turnedKey(k), number, got, impl.SignNumber(k, number))
			}
		}
	}
}

// P16: other numbers, which are neither signed nor opened.
func TestP16OtherNumbers(t *testing.T) {
	for _, k := range someKeys() {
		n := k.One * k.Two
		for _, number := range outsideOf(n) {
			refuseSigned(t, k, number)
			refuseOpened(t, n, k.Exponent, number)
		}
	}
	for _, n := range someModuli() {
		for _, number := range outsideOf(n) {
			if !isBelow(number, n) {
				refuseOpened(t, n, firstExponent, number)
				refuseOpened(t, n, lastExponent, number)
			}
		}
	}
}

// P16: other keys sign nothing, whatever the number is.
func TestP16OtherKeys(t *testing.T) {
	for _, k := range badKeys() {
		for _, number := range append(outsideOf(143), 0, 1, 2, 10, 11, 12, 13, 65, 142, 988026, mostModulus-1) {
			refuseSigned(t, k, number)
		}
	}
}

// P16: all exponents, also those without an inverse; and no other ones.
func TestP16OtherExponents(t *testing.T) {
	for _, n := range someModuli() {
		for _, number := range []int{0, n / 2, n / 3, n - 1} {
			checkAllExponents(t, n, number)
		}
		for _, exponent := range outsideExponents() {
			for _, number := range append(someBelow(n), -1, n) {
				refuseOpened(t, n, exponent, number)
			}
		}
	}
}

// checkAllExponents makes the powers one after the other.
func checkAllExponents(t *testing.T, n int, number int) {
	t.Helper()
	power := 1 % n
	for exponent := 1; exponent <= lastExponent+20; exponent++ {
		power = productOf(power, number, n)
		want := -1
		if exponent >= firstExponent && exponent <= lastExponent {
			want = power
		}
		if got := impl.OpenNumber(n, exponent, number); got != want {
			t.Fatalf("OpenNumber(%d, %d, %d) is %d, not %d", n, exponent, number, got, want)
		}
		refuseOpened(t, n, -exponent, number)
	}
}

// P16: other moduli.
func TestP16OtherModuli(t *testing.T) {
	for _, n := range badModuli() {
		for _, exponent := range []int{-1, 0, 1, 2, 3, 4, 7, 17, 999, 1000, 1001} {
			for _, number := range []int{-1, 0, 1, 2, 7, n - 1, n, n + 1, mostModulus - 1, mostModulus} {
				refuseOpened(t, n, exponent, number)
			}
		}
	}
}

// P78: every key that is none, in both orders.
func TestP78OtherKeys(t *testing.T) {
	for _, k := range badKeys() {
		if isKey(k) {
			t.Fatalf("%v is a key", k)
		}
		checkKeyIf(t, k, false)
	}
}

func TestP78SomeKeys(t *testing.T) {
	for _, k := range someKeys() {
		if !isKey(k) {
			t.Fatalf("%v is no key", k)
		}
		checkKeyIf(t, k, true)
	}
}

// P78: the same prime twice, with all exponents, and other numbers twice.
func TestP78SameTwice(t *testing.T) {
	for n := 0; n <= 1010; n++ {
		for exponent := firstExponent; exponent <= lastExponent; exponent++ {
			if impl.KeyValid(impl.SignKey{One: n, Two: n, Exponent: exponent}) {
				t.Fatalf("%d twice is valid with %d", n, exponent)
			}
		}
		refuseKey(t, impl.SignKey{One: n, Two: n, Exponent: 499})
	}
}

// P78: all two numbers, of which exactly the primes from 11 to 997 can be those of a key. No prime less 1 can be divided by 499.
func TestP78AllNumbers(t *testing.T) {
	primes := sievedPrimes(1030)
	valid := 0
	for one := -30; one < 1030; one++ {
		oneFits := one >= firstKeyPrime && one <= lastKeyPrime && primes[one]
		for two := -30; two < 1030; two++ {
			twoFits := two >= firstKeyPrime && two <= lastKeyPrime && primes[two]
			k := impl.SignKey{One: one, Two: two, Exponent: 499}
			if impl.KeyValid(k) != (oneFits && twoFits && one != two) {
				t.Fatalf("KeyValid(%v) is %t", k, impl.KeyValid(k))
			}
			if impl.KeyValid(k) {
				valid++
			}
		}
	}
	if valid != 26732 {
		t.Fatalf("%d keys are valid", valid)
	}
}

// P78: all pairs of primes with some exponents, as many of which have an inverse as was reckoned elsewhere.
func TestP78AllPairs(t *testing.T) {
	exponents := []int{3, 4, 5, 7, 11, 13, 17, 121, 125, 990, 991, 995, 997, 999, 1000}
	many := []int{7140, 0, 15252, 18360, 21462, 22650, 23562, 21462, 15252, 0, 26732, 15006, 26732, 6806, 0}
	primes := keyPrimes()
	for place, exponent := range exponents {
		valid := 0
		for _, one := range primes {
			for _, two := range primes {
				k := impl.SignKey{One: one, Two: two, Exponent: exponent}
				if impl.KeyValid(k) != (one != two && hasInverse(k)) || impl.KeyValid(turnedKey(k)) != impl.KeyValid(k) {
					t.Fatalf("KeyValid(%v) is %t", k, impl.KeyValid(k))
				}
				if impl.KeyValid(k) {
					valid++
				}
			}
		}
		if valid != many[place] {
			t.Fatalf("with %d are %d keys valid, not %d", exponent, valid, many[place])
		}
	}
}

// P78: all exponents with some pairs of primes, as many of which have an inverse as was reckoned elsewhere.
func TestP78AllExponents(t *testing.T) {
	pairs := [][]int{{11, 13, 265}, {11, 17, 399}, {61, 53, 245}, {997, 991, 239}, {991, 983, 240}, {11, 997, 262}, {17, 19, 332}, {467, 479, 495}}
	for _, pair := range pairs {
		valid := 0
		for exponent := -3000; exponent <= 3000; exponent++ {
			k := impl.SignKey{One: pair[0], Two: pair[1], Exponent: exponent}
			fits := exponent >= firstExponent && exponent <= lastExponent && hasInverse(k)
			checkKeyIf(t, k, fits)
			if fits {
				valid++
			}
		}
		if valid != pair[2] {
			t.Fatalf("with %d and %d are %d exponents valid, not %d", pair[0], pair[1], valid, pair[2])
		}
		for _, exponent := range outsideExponents() {
			refuseKey(t, impl.SignKey{One: pair[0], Two: pair[1], Exponent: exponent})
		}
	}
}

// P78: an exponent has no inverse if the number before either prime can be divided by one of its divisors; then opening mixes numbers up.
func TestP78ExponentsWithoutInverse(t *testing.T) {
	for _, pair := range [][]int{{11, 13}, {13, 11}, {11, 17}, {61, 53}, {19, 23}} {
		n := pair[0] * pair[1]
		for exponent := firstExponent; exponent <= lastExponent; exponent++ {
			had := make([]bool, n)
			alike := false
			for number := 0; number < n; number++ {
				opened := impl.OpenNumber(n, exponent, number)
				alike = alike || had[opened]
				had[opened] = true
			}
			k := impl.SignKey{One: pair[0], Two: pair[1], Exponent: exponent}
			if impl.KeyValid(k) == alike {
				t.Fatalf("KeyValid(%v) is %t", k, !alike)
			}
		}
	}
}

// P79: all moduli, each of one pair in both orders alone.
func TestP79AllModuli(t *testing.T) {
	primes := keyPrimes()
	times := make([]int, mostModulus+1)
	for _, one := range primes {
		for _, two := range primes {
			if one == two {
				continue
			}
			k := impl.SignKey{One: one, Two: two, Exponent: 997}
			checkKey(t, k)
			times[impl.KeyModulus(k)]++
		}
	}
	for n, many := range times {
		if many != 0 && many != 2 {
			t.Fatalf("%d keys have the modulus %d", many, n)
		}
	}
	if times[143] != 2 || times[988027] != 2 || times[187] != 2 || times[997*983] != 2 {
		t.Fatal("both ends are moduli")
	}
}

// P79: moduli that were reckoned elsewhere.
func TestP79KnownModuli(t *testing.T) {
	known := [][]int{{61, 53, 17, 3233}, {53, 61, 17, 3233}, {11, 13, 7, 143}, {11, 17, 3, 187}, {997, 991, 7, 988027}, {991, 997, 997, 988027}, {997, 983, 5, 980051}, {499, 503, 5, 250997}, {101, 103, 7, 10403}, {997, 11, 7, 10967}}
	for _, k := range known {
		if got := impl.KeyModulus(impl.SignKey{One: k[0], Two: k[1], Exponent: k[2]}); got != k[3] {
			t.Fatalf("KeyModulus of %d, %d and %d is %d, not %d", k[0], k[1], k[2], got, k[3])
		}
	}
}

// P79: nothing but both primes divides the modulus.
func TestP79Divisors(t *testing.T) {
	for _, k := range someKeys() {
		primes := primesOf(impl.KeyModulus(k))
		if len(primes) != 2 || primes[0]+primes[1] != k.One+k.Two || !isAmong(k.One, primes) || !isAmong(k.Two, primes) {
			t.Fatalf("KeyModulus(%v) can be divided by %v", k, primes)
		}
	}
}

// P79: the exponent does not matter, if it is one of a key.
func TestP79AnyExponent(t *testing.T) {
	for _, k := range someKeys() {
		for exponent := -2; exponent <= lastExponent+2; exponent++ {
			other := impl.SignKey{One: k.One, Two: k.Two, Exponent: exponent}
			want := -1
			if exponent >= firstExponent && exponent <= lastExponent && hasInverse(other) {
				want = k.One * k.Two
			}
			if got := impl.KeyModulus(other); got != want {
				t.Fatalf("KeyModulus(%v) is %d, not %d", other, got, want)
			}
		}
	}
}

// P80: all products of small numbers, also with exponents without an inverse.
func TestP80AllSmallProducts(t *testing.T) {
	for n := 1; n <= 30; n++ {
		for a := 0; a < n; a++ {
			for b := 0; b < n; b++ {
				for _, exponent := range []int{3, 4, 5, 6, 7, 120, 999, 1000} {
					checkOpenedProduct(t, n, exponent, a, b)
				}
			}
		}
	}
}

// P80: products at both ends, with MulMod, too.
func TestP80SomeProducts(t *testing.T) {
	for _, n := range someModuli() {
		for _, a := range someBelow(n) {
			for _, b := range someBelow(n) {
				for _, exponent := range []int{3, 17, 512, 1000} {
					checkOpenedProduct(t, n, exponent, a, b)
					got := impl.OpenNumber(n, exponent, impl.MulMod(a, b, n))
					if got != impl.MulMod(impl.OpenNumber(n, exponent, a), impl.OpenNumber(n, exponent, b), n) {
						t.Fatalf("modulo %d with %d the product of %d and %d is opened as %d", n, exponent, a, b, got)
					}
				}
			}
		}
	}
}

// P80: products that were signed, the signature of which is the product of both signatures.
func TestP80SignedProducts(t *testing.T) {
	for _, k := range someKeys() {
		n := k.One * k.Two
		for _, a := range append(someBelow(n), k.One, k.Two) {
			for _, b := range []int{0, 1, 2, 3, k.One, k.Two, n / 2, n - 2, n - 1} {
				checkOpenedProduct(t, n, k.Exponent, a, b)
				want := productOf(checkSigned(t, k, a), checkSigned(t, k, b), n)
				if got := impl.SignNumber(k, productOf(a, b, n)); got != want {
					t.Fatalf("signed by %v the product of %d and %d is %d, not %d", k, a, b, got, want)
				}
			}
		}
	}
}

// P80: a factor that is no number modulo it makes the product -1, which is not opened.
func TestP80OtherFactors(t *testing.T) {
	for _, n := range someModuli() {
		for _, a := range outsideOf(n) {
			if !isBelow(a, n) {
				refuseOpened(t, n, 7, impl.MulMod(a, 0, n))
				refuseOpened(t, n, 7, impl.MulMod(n-1, a, n))
			}
		}
	}
	for _, n := range badModuli() {
		refuseOpened(t, n, 7, impl.MulMod(0, 0, n))
	}
}

// P16, P78, P79 and P80: nothing is kept from one call to the next.
func TestP16CallsAreAlike(t *testing.T) {
	for times := 0; times < 3; times++ {
		for _, k := range someKeys() {
			checkKey(t, k)
			checkSigned(t, k, 2)
			refuseSigned(t, k, k.One*k.Two)
			checkOpened(t, k.One*k.Two, k.Exponent, 5)
			refuseKey(t, impl.SignKey{One: k.One, Two: k.One, Exponent: k.Exponent})
			refuseOpened(t, k.One*k.Two, 2, 5)
		}
	}
}

// P16, P78, P79 and P80: whatever primes, exponents and numbers.
func TestP16WhateverKeys(t *testing.T) {
	data := uint32(14)
	primes := keyPrimes()
	for times := 0; times < 20000; times++ {
		data = nextData(data)
		one := primes[chosenOf(data, len(primes))]
		data = nextData(data)
		two := primes[chosenOf(data, len(primes))]
		data = nextData(data)
		k := impl.SignKey{One: one, Two: two, Exponent: chosenOf(data, 1010)}
		valid := one != two && k.Exponent >= firstExponent && k.Exponent <= lastExponent && hasInverse(k)
		checkKeyIf(t, k, valid)
		data = nextData(data)
		a := chosenOf(data, one*two)
		data = nextData(data)
		b := chosenOf(data, one*two)
		if !valid {
			refuseSigned(t, k, a)
			continue
		}
		if got := checkSigned(t, k, a); got != powerOf(a, inverseExponent(k), one*two) {
			t.Fatalf("SignNumber(%v, %d) is %d", k, a, got)
		}
		checkOpenedProduct(t, one*two, k.Exponent, a, b)
	}
}

// P78: whatever numbers, most of which are no primes.
func TestP78WhateverNumbers(t *testing.T) {
	data := uint32(78)
	for times := 0; times < 20000; times++ {
		data = nextData(data)
		one := chosenOf(data, 1100) - 50
		data = nextData(data)
		two := chosenOf(data, 1100) - 50
		data = nextData(data)
		k := impl.SignKey{One: one, Two: two, Exponent: chosenOf(data, 1100) - 50}
		checkKeyIf(t, k, isKey(k))
	}
}
