package tests

import (
	"testing"

	"loop.example/feedbridge/impl"
)

const mostModulus = 1000000

// productOf goes through the decimal digits of a factor, so that it does not share its way with the program, and stays small.
func productOf(a int, b int, m int) int {
	if !isBelow(a, m) || !isBelow(b, m) {
		return -1
	}
	product := 0
	for _, digit := range []byte(digits(b, 7)) {
		product = (product*10 + a*int(digit-'0')) % m
	}
	return product
}

// isBelow reports whether m is a modulus and n is a number modulo it.
func isBelow(n int, m int) bool {
	return m > 0 && m < mostModulus+1 && n >= 0 && n <= m-1
}

// powerOf goes through the decimal digits of the exponent from the first one on, so that it does not share its squares with the program.
func powerOf(a int, exponent int, m int) int {
	if !isBelow(a, m) || exponent < 0 || exponent > greatest {
		return -1
	}
	power := 1 % m
	for _, digit := range []byte(digits(exponent, 10)) {
		power = timesItself(power, 10, 1%m, m)
		power = timesItself(a, int(digit-'0'), power, m)
	}
	return power
}

// timesItself multiplies what there is by a number, one time after the other.
func timesItself(a int, times int, product int, m int) int {
	for k := 0; k < times; k++ {
		product = productOf(product, a, m)
	}
	return product
}

// inverseOf tries all numbers, so that it does not share its way with the program.
func inverseOf(a int, m int) int {
	if m == 1 || !isBelow(a, m) {
		return -1
	}
	product := 0
	for x := 0; x < m; x++ {
		if product == 1 {
			return x
		}
		product = (product + a) % m
	}
	return -1
}

// primesOf are the primes that divide a number.
func primesOf(m int) []int {
	primes := []int{}
	left := m
	for divisor := 2; left > 1; divisor++ {
		if left%divisor == 0 {
			primes = append(primes, divisor)
		}
		for left%divisor == 0 {
			left = left / divisor
		}
	}
	return primes
}

func dividedByOne(n int, divisors []int) bool {
	for _, divisor := range divisors {
		if n%divisor == 0 {
			return true
		}
	}
	return false
}

// sievedPrimes tells of all numbers below many which are primes, by striking out all products.
func sievedPrimes(many int) []bool {
	primes := make([]bool, many)
	for n := 2; n < many; n++ {
		primes[n] = true
	}
	for n := 2; n < many; n++ {
		for product := 2 * n; product < many; product = product + n {
			primes[product] = false
		}
	}
	return primes
}

// someModuli are at both ends, around powers of 2, primes, and numbers with many divisors or few.
func someModuli() []int {
	list := []int{30, 36, 60, 97, 100, 210, 255, 256, 257, 960, 997, 1000, 3120, 46340, 46341, 65535, 65536, 65537, 524288, 720720, 832040, 988027, 999983, 999998, 999999, mostModulus}
	for m := 1; m <= 12; m++ {
		list = append(list, m)
	}
	return list
}

func badModuli() []int {
	return []int{0, -1, -2, -7, -10, -mostModulus, mostModulus + 1, mostModulus + 2, 2 * mostModulus, 1 << 20, greatest, 1 << 31, 1 << 32, 1<<32 + 10, -1 << 31, -1<<32 + 10, 1<<63 - 1, -1 << 63, -1<<63 + 1}
}

// someBelow are numbers modulo m at both ends, in the middle, and between, of which none comes twice.
func someBelow(m int) []int {
	list := []int{}
	for n := 0; n < m; n++ {
		if n < 4 || n >= m-4 || n == m/2 || n == m/2+1 || n == 46341 || n == 65536 || n == 514229 || n%(m/5+1) == m/7 {
			list = append(list, n)
		}
	}
	return list
}

// outsideOf are no numbers modulo m, also those whose lowest digits are one.
func outsideOf(m int) []int {
	return []int{-1, -2, -m, -m - 1, 1 - 2*m, m, m + 1, 2 * m, 2*m + 1, m * m, mostModulus, mostModulus + 1, 1 << 31, 1 << 32, 1<<32 + 1, -1 << 31, -1 << 32, 1 - 1<<32, 1<<63 - 1, -1 << 63, -1<<63 + 1}
}

// someExponents are at both ends, around powers of 2, and around the half.
func someExponents() []int {
	list := []int{0, 1, 2, 3, 4, 5, 6, 7, 8, 9, 10, 99, 100, 255, 256, 257, 65535, 65536, 123456789, 1<<29 - 1, 1 << 29, 1<<29 + 1, greatest/2 - 1, greatest / 2, greatest/2 + 1}
	for less := 10; less >= 0; less-- {
		list = append(list, greatest-less)
	}
	return list
}

func checkProduct(t *testing.T, a int, b int, m int) int {
	t.Helper()
	got := impl.MulMod(a, b, m)
	if got != productOf(a, b, m) {
		t.Fatalf("MulMod(%d, %d, %d) is %d, not %d", a, b, m, got, productOf(a, b, m))
	}
	return got
}

func refuseProduct(t *testing.T, a int, b int, m int) {
	t.Helper()
	if got := impl.MulMod(a, b, m); got != -1 {
		t.Fatalf("MulMod(%d, %d, %d) is %d", a, b, m, got)
	}
}

func checkPower(t *testing.T, a int, exponent int, m int) int {
	t.Helper()
	got := impl.PowMod(a, exponent, m)
	if got != powerOf(a, exponent, m) {
		t.Fatalf("PowMod(%d, %d, %d) is %d, not %d", a, exponent, m, got, powerOf(a, exponent, m))
	}
	return got
}

func refusePower(t *testing.T, a int, exponent int, m int) {
	t.Helper()
	if got := impl.PowMod(a, exponent, m); got != -1 {
		t.Fatalf("PowMod(%d, %d, %d) is %d", a, exponent, m, got)
	}
}

// checkSum checks that the power of a sum is the product of both powers, and that there is none if the sum is too great.
func checkSum(t *testing.T, a int, one int, two int, m int) {
	t.Helper()
	if one+two > greatest {
		refusePower(t, a, one+two, m)
		return
	}
	got := impl.PowMod(a, one+two, m)
	want := impl.MulMod(impl.PowMod(a, one, m), impl.PowMod(a, two, m), m)
	if got != want || !isBelow(got, m) {
		t.Fatalf("modulo %d the number %d to the power of %d is %d, and the product of the powers of %d and %d is %d", m, a, one+two, got, one, two, want)
	}
}

// checkInverse checks that what is there is an inverse, and that the inverse of it is the number.
func checkInverse(t *testing.T, a int, m int) int {
	t.Helper()
	got := impl.InverseMod(a, m)
	if !isBelow(got, m) || impl.MulMod(a, got, m) != 1 || productOf(a, got, m) != 1 {
		t.Fatalf("InverseMod(%d, %d) is %d", a, m, got)
	}
	if back := impl.InverseMod(got, m); back != a {
		t.Fatalf("InverseMod(%d, %d) is %d, not %d", got, m, back, a)
	}
	return got
}

func refuseInverse(t *testing.T, a int, m int) {
	t.Helper()
	if got := impl.InverseMod(a, m); got != -1 {
		t.Fatalf("InverseMod(%d, %d) is %d", a, m, got)
	}
}

// checkAllInverses checks that exactly the numbers that no prime divides that divides m have an inverse, and returns how many these are.
func checkAllInverses(t *testing.T, m int) int {
	t.Helper()
	primes := primesOf(m)
	many := 0
	for a := 0; a < m; a++ {
		if dividedByOne(a, primes) {
			refuseInverse(t, a, m)
		} else {
			checkInverse(t, a, m)
			many++
		}
	}
	return many
}

func TestMaxModulus(t *testing.T) {
	if impl.MaxModulus != mostModulus {
		t.Fatal(impl.MaxModulus)
	}
}

// P14: powers that were reckoned elsewhere.
func TestP14KnownPowers(t *testing.T) {
	known := [][]int{{3, 5, 7, 5}, {5, 1, 7, 5}, {2, greatest, 1000, 376}, {2, greatest, mostModulus, 109376}, {3, greatest - 1, mostModulus, 666667}, {999999, greatest, mostModulus, 1}, {999999, greatest - 1, mostModulus, 999999}, {7, 1 << 29, 999983, 98212}, {7, 1<<29 - 1, 999983, 156885}, {123456, 123456789, 999983, 998199}, {10, 6, mostModulus, 0}, {10, 5, mostModulus, 100000}, {2, 19, mostModulus, 524288}, {2, 20, mostModulus, 48576}, {2, 30, 999999, 742897}, {2, 999982, 999983, 1}, {2, 999983, 999983, 2}, {999998, greatest, 999999, 1}}
	for _, k := range known {
		if got := impl.PowMod(k[0], k[1], k[2]); got != k[3] {
			t.Fatalf("PowMod(%d, %d, %d) is %d, not %d", k[0], k[1], k[2], got, k[3])
		}
	}
}

// P14: all small numbers, exponents and moduli, one product after the other.
func TestP14AllSmallPowers(t *testing.T) {
	for m := 1; m <= 40; m++ {
		for a := 0; a < m; a++ {
			power := 1 % m
			for exponent := 0; exponent <= 70; exponent++ {
				if got := impl.PowMod(a, exponent, m); got != power {
					t.Fatalf("PowMod(%d, %d, %d) is %d, not %d", a, exponent, m, got, power)
				}
				power = power * a % m
			}
		}
	}
}

// P14: all small sums.
func TestP14AllSmallSums(t *testing.T) {
	for m := 1; m <= 16; m++ {
		for a := 0; a < m; a++ {
			for one := 0; one <= 20; one++ {
				for two := 0; two <= 20; two++ {
					checkSum(t, a, one, two, m)
				}
			}
		}
	}
}

// P14: sums at both ends, also those that are too great to be an exponent.
func TestP14Sums(t *testing.T) {
	for _, m := range someModuli() {
		for _, a := range someBelow(m) {
			for _, one := range someExponents() {
				checkPower(t, a, one, m)
				checkSum(t, a, one, greatest-one, m)
				checkSum(t, a, one, greatest-one+1, m)
				checkSum(t, a, one, 1, m)
				checkSum(t, a, one, one, m)
			}
		}
	}
}

// P14: the power of 0 is 1, also that of the number 0; but modulo 1 everything is 0.
func TestP14NoFactors(t *testing.T) {
	for m := 2; m <= 3000; m++ {
		for _, a := range []int{0, 1, m / 2, m - 1} {
			if got := impl.PowMod(a, 0, m); got != 1 {
				t.Fatalf("PowMod(%d, 0, %d) is %d", a, m, got)
			}
		}
	}
	for _, exponent := range someExponents() {
		if got := impl.PowMod(0, exponent, 1); got != 0 {
			t.Fatalf("PowMod(0, %d, 1) is %d", exponent, got)
		}
		refusePower(t, 1, exponent, 1)
	}
	if impl.PowMod(0, 0, mostModulus) != 1 || impl.PowMod(mostModulus-1, 0, mostModulus) != 1 {
		t.Fatal("the power of 0 is 1")
	}
}

// P14: 0 and 1 stay, and the power of 1 is the number.
func TestP14WhatStays(t *testing.T) {
	for _, m := range someModuli() {
		for _, exponent := range someExponents() {
			if exponent > 0 && impl.PowMod(0, exponent, m) != 0 {
				t.Fatalf("PowMod(0, %d, %d) is %d", exponent, m, impl.PowMod(0, exponent, m))
			}
			if m > 1 && impl.PowMod(1, exponent, m) != 1 {
				t.Fatalf("PowMod(1, %d, %d) is %d", exponent, m, impl.PowMod(1, exponent, m))
			}
		}
		for _, a := range someBelow(m) {
			if got := impl.PowMod(a, 1, m); got != a {
				t.Fatalf("PowMod(%d, 1, %d) is %d", a, m, got)
			}
		}
	}
}

// P14: other numbers, exponents and moduli, alone and together.
func TestP14OtherArguments(t *testing.T) {
	for _, m := range someModuli() {
		for _, a := range outsideOf(m) {
			for _, exponent := range append(outsideSigns(), 0, 1, 2, 7, greatest) {
				if !isBelow(a, m) {
					refusePower(t, a, exponent, m)
				}
			}
		}
		for _, a := range someBelow(m) {
			for _, exponent := range append(outsideSigns(), -3, -36, 1-m) {
				if exponent < 0 || exponent > greatest {
					refusePower(t, a, exponent, m)
				}
			}
		}
	}
	for _, m := range badModuli() {
		for _, a := range []int{-1, 0, 1, 2, 7, m - 1, m, m + 1, mostModulus, mostModulus - 1} {
			for _, exponent := range []int{-1, 0, 1, 2, 7, greatest, greatest + 1} {
				refusePower(t, a, exponent, m)
			}
		}
	}
}

// P14: powers of powers, and of products.
func TestP14PowersOfPowers(t *testing.T) {
	for _, m := range someModuli() {
		for _, a := range someBelow(m) {
			for one := 0; one <= 12; one++ {
				for two := 0; two <= 12; two++ {
					if got := impl.PowMod(impl.PowMod(a, one, m), two, m); got != impl.PowMod(a, one*two, m) {
						t.Fatalf("modulo %d the number %d to the power of %d to the power of %d is %d", m, a, one, two, got)
					}
				}
			}
			b := m - 1 - a/2
			if got := impl.PowMod(impl.MulMod(a, b, m), 37, m); got != impl.MulMod(impl.PowMod(a, 37, m), impl.PowMod(b, 37, m), m) {
				t.Fatalf("modulo %d the product of %d and %d to the power of 37 is %d", m, a, b, got)
			}
		}
	}
}

// P15: inverses that were reckoned elsewhere.
func TestP15KnownInverses(t *testing.T) {
	known := [][]int{{1, 2, 1}, {3, 10, 7}, {7, 960, 823}, {17, 3120, 2753}, {1, mostModulus, 1}, {999999, mostModulus, 999999}, {3, mostModulus, 666667}, {7, mostModulus, 857143}, {333333, mostModulus, 999997}, {2, 999999, 500000}, {2, 999983, 499992}, {999982, 999983, 999982}, {123456, 999983, 179243}, {832040, 999983, 202863}, {514229, 832040, 514229}, {317811, 514229, 196418}}
	for _, k := range known {
		if got := impl.InverseMod(k[0], k[1]); got != k[2] {
			t.Fatalf("InverseMod(%d, %d) is %d, not %d", k[0], k[1], got, k[2])
		}
	}
}

// P15: all numbers modulo all small moduli, of which some have no inverse.
func TestP15AllSmallInverses(t *testing.T) {
	for m := 1; m <= 250; m++ {
		for a := -1; a <= m+1; a++ {
			if got := impl.InverseMod(a, m); got != inverseOf(a, m) {
				t.Fatalf("InverseMod(%d, %d) is %d, not %d", a, m, got, inverseOf(a, m))
			}
			if isBelow(a, m) && inverseOf(a, m) != -1 {
				checkInverse(t, a, m)
			}
		}
	}
}

// P15: all numbers modulo others, of which as many have an inverse as was reckoned elsewhere.
func TestP15AllInverses(t *testing.T) {
	moduli := []int{2, 3, 4, 30, 1000, 65536, 720720, 999998, 999999, mostModulus}
	invertible := []int{1, 2, 2, 8, 400, 32768, 138240, 480060, 466560, 400000}
	for k, m := range moduli {
		if many := checkAllInverses(t, m); many != invertible[k] {
			t.Fatalf("modulo %d there are %d inverses", m, many)
		}
	}
}

// P15: without an inverse are 0, what divides the modulus, and what is divided by a divisor of it.
func TestP15NoInverse(t *testing.T) {
	for m := 2; m <= 2000; m++ {
		refuseInverse(t, 0, m)
		for divisor := 2; divisor < m; divisor++ {
			for many := 1; m%divisor == 0 && many < 6 && many*divisor < m; many++ {
				refuseInverse(t, many*divisor, m)
			}
		}
	}
	for _, a := range []int{0, 2, 5, 10, 500000, 999998, 999995} {
		refuseInverse(t, a, mostModulus)
	}
}

// P15: 1 and the last number are inverses of themselves.
func TestP15BothEnds(t *testing.T) {
	for m := 2; m <= 5000; m++ {
		if impl.InverseMod(1, m) != 1 || impl.InverseMod(m-1, m) != m-1 {
			t.Fatalf("modulo %d the inverses of 1 and %d are %d and %d", m, m-1, impl.InverseMod(1, m), impl.InverseMod(m-1, m))
		}
	}
	for less := 0; less <= 5000; less++ {
		checkInverse(t, 1, mostModulus-less)
		checkInverse(t, mostModulus-less-1, mostModulus-less)
	}
}

// P15: other numbers, and other moduli, of which 1 is one.
func TestP15OtherArguments(t *testing.T) {
	for _, m := range someModuli() {
		for _, a := range outsideOf(m) {
			if !isBelow(a, m) {
				refuseInverse(t, a, m)
			}
		}
	}
	for _, m := range append(badModuli(), 1) {
		for _, a := range []int{-2, -1, 0, 1, 2, 3, 7, m - 2, m - 1, m, m + 1, -m, mostModulus - 1, mostModulus, mostModulus + 1} {
			refuseInverse(t, a, m)
		}
	}
}

// P15: the power of the inverse is the inverse of the power.
func TestP15PowersOfInverses(t *testing.T) {
	for _, m := range someModuli() {
		primes := primesOf(m)
		for _, a := range someBelow(m) {
			if m == 1 || dividedByOne(a, primes) {
				refuseInverse(t, a, m)
				continue
			}
			inverse := checkInverse(t, a, m)
			for _, exponent := range someExponents() {
				if got := impl.PowMod(inverse, exponent, m); got != checkInverse(t, impl.PowMod(a, exponent, m), m) {
					t.Fatalf("modulo %d the inverse of %d to the power of %d is %d", m, a, exponent, got)
				}
			}
		}
	}
}

// P76: products that were reckoned elsewhere, of which some need more than 32 bits.
func TestP76KnownProducts(t *testing.T) {
	known := [][]int{{7, 8, 10, 6}, {0, 0, 1, 0}, {999999, 999999, mostModulus, 1}, {999998, 999999, mostModulus, 2}, {999982, 999982, 999983, 1}, {123456, 654321, mostModulus, 853376}, {46341, 46341, mostModulus, 488281}, {65536, 65536, 999999, 971590}, {499999, 2, 999998, 0}, {999998, 999998, 999999, 1}, {1000, 1000, mostModulus, 0}, {31622, 31623, 999983, 999489}}
	for _, k := range known {
		if got := impl.MulMod(k[0], k[1], k[2]); got != k[3] {
			t.Fatalf("MulMod(%d, %d, %d) is %d, not %d", k[0], k[1], k[2], got, k[3])
		}
	}
}

// P76: all products modulo all small moduli, and numbers around them.
func TestP76AllSmallProducts(t *testing.T) {
	for m := -2; m <= 40; m++ {
		for a := -2; a <= m+2; a++ {
			for b := -2; b <= m+2; b++ {
				if checkProduct(t, a, b, m) != impl.MulMod(b, a, m) {
					t.Fatalf("MulMod(%d, %d, %d) is %d", b, a, m, impl.MulMod(b, a, m))
				}
			}
		}
	}
}

// P76: with 1 the number stays, if 1 is a number modulo it; and with 0 it is 0.
func TestP76WithOne(t *testing.T) {
	for m := 2; m <= 300; m++ {
		for a := 0; a < m; a++ {
			checkStays(t, a, m)
		}
	}
	for a := 0; a < mostModulus; a++ {
		checkStays(t, a, mostModulus)
	}
	refuseProduct(t, 0, 1, 1)
	refuseProduct(t, 1, 0, 1)
	refuseProduct(t, 1, 1, 1)
	if impl.MulMod(0, 0, 1) != 0 {
		t.Fatal("modulo 1 there is 0 alone")
	}
}

func checkStays(t *testing.T, a int, m int) {
	t.Helper()
	if impl.MulMod(a, 1, m) != a || impl.MulMod(1, a, m) != a || impl.MulMod(a, 0, m) != 0 || impl.MulMod(0, a, m) != 0 {
		t.Fatalf("modulo %d with 1 it is %d and %d instead of %d, and with 0 %d and %d", m, impl.MulMod(a, 1, m), impl.MulMod(1, a, m), a, impl.MulMod(a, 0, m), impl.MulMod(0, a, m))
	}
}

// P76: two factors, and three in any order.
func TestP76AnyOrder(t *testing.T) {
	for _, m := range someModuli() {
		for _, a := range someBelow(m) {
			for _, b := range someBelow(m) {
				product := checkProduct(t, a, b, m)
				if got := impl.MulMod(b, a, m); got != product {
					t.Fatalf("MulMod(%d, %d, %d) is %d, not %d", b, a, m, got, product)
				}
				for _, c := range []int{0, m / 3, m - 1} {
					got := impl.MulMod(product, c, m)
					if impl.MulMod(a, impl.MulMod(b, c, m), m) != got || impl.MulMod(impl.MulMod(a, c, m), b, m) != got {
						t.Fatalf("modulo %d the product of %d, %d and %d is %d", m, a, b, c, got)
					}
				}
			}
		}
	}
}

// P76: other numbers on either side, and other moduli.
func TestP76OtherArguments(t *testing.T) {
	for _, m := range someModuli() {
		for _, a := range outsideOf(m) {
			for _, b := range append(outsideOf(m), 0, m/2, m-1) {
				if !isBelow(a, m) {
					refuseProduct(t, a, b, m)
					refuseProduct(t, b, a, m)
				}
			}
		}
	}
	for _, m := range badModuli() {
		for _, a := range []int{-1, 0, 1, 2, m - 1, m, m + 1, mostModulus - 1, mostModulus} {
			for _, b := range []int{-1, 0, 1, 2, m - 1, m, m + 1, mostModulus - 1, mostModulus} {
				refuseProduct(t, a, b, m)
			}
		}
	}
}

// P77: exactly the primes up to 1000 are primes, and no other number is.
func TestP77Primes(t *testing.T) {
	primes := sievedPrimes(1001)
	many := 0
	for n := -5000; n <= 5000; n++ {
		want := n >= 0 && n <= 1000 && primes[n]
		if impl.IsPrime(n) != want {
			t.Fatalf("IsPrime(%d) is %t", n, !want)
		}
		if want {
			many++
		}
	}
	if many != 168 {
		t.Fatalf("there are %d primes up to 1000", many)
	}
}

// P77: primes that are too great to be asked about, and other numbers.
func TestP77OtherNumbers(t *testing.T) {
	for _, n := range append(append(badModuli(), outsideSigns()...), 1009, 1013, 46337, 65537, 999983, 999999937, greatest, 1<<31-1, 1<<32+2, 1<<32+997, 997-1<<32, -997, 997*997, -1<<63+2) {
		if impl.IsPrime(n) {
			t.Fatalf("IsPrime(%d) is true", n)
		}
	}
}

// P77: all numbers modulo all primes that can be asked about; and modulo any other number one has no inverse.
func TestP77AllPrimes(t *testing.T) {
	for m := 2; m <= 1000; m++ {
		if invertible := checkAllInverses(t, m); (invertible == m-1) != impl.IsPrime(m) {
			t.Fatalf("modulo %d there are %d inverses", m, invertible)
		}
	}
}

// P77: all numbers modulo greater primes, each the inverse of one alone, among which is the greatest one that is a modulus.
func TestP77GreatPrimes(t *testing.T) {
	for _, prime := range []int{1009, 65537, digestPrime} {
		had := make([]bool, prime)
		for a := 1; a < prime; a++ {
			inverse := checkInverse(t, a, prime)
			if had[inverse] {
				t.Fatalf("InverseMod(%d, %d) is %d, as that of another number", a, prime, inverse)
			}
			had[inverse] = true
		}
		refuseInverse(t, 0, prime)
		refuseInverse(t, prime, prime)
	}
}

// P77: modulo a prime the inverse is the power of the prime less 2.
func TestP77InversesArePowers(t *testing.T) {
	for _, prime := range []int{2, 3, 5, 7, 11, 97, 991, 997, 65537, digestPrime} {
		for _, a := range someBelow(prime) {
			if a > 0 && impl.InverseMod(a, prime) != impl.PowMod(a, prime-2, prime) {
				t.Fatalf("InverseMod(%d, %d) is %d, not %d", a, prime, impl.InverseMod(a, prime), impl.PowMod(a, prime-2, prime))
			}
		}
	}
}

// P14, P15, P76 and P77: nothing is kept from one call to the next.
func TestP14CallsAreAlike(t *testing.T) {
	for k := 0; k < 3; k++ {
		for _, m := range someModuli() {
			checkProduct(t, m-1, m/2, m)
			refuseProduct(t, m, 0, m)
			checkPower(t, m/2, m+k, m)
			refusePower(t, m-1, -1, m)
			refuseInverse(t, 0, m)
			if m > 1 {
				checkInverse(t, m-1, m)
			}
		}
		if !impl.IsPrime(997) || impl.IsPrime(999) {
			t.Fatal("primes stay primes")
		}
	}
}

// P14, P15 and P76: whatever numbers, exponents and moduli.
func TestP14P15AndP76WhateverNumbers(t *testing.T) {
	data := uint32(8)
	for k := 0; k < 20000; k++ {
		data = nextData(data)
		m := chosenOf(data, mostModulus) + 1
		data = nextData(data)
		a := chosenOf(data, m)
		data = nextData(data)
		b := chosenOf(data, m)
		data = nextData(data)
		one := int(data) % (greatest + 1)
		data = nextData(data)
		two := int(data) % (greatest + 1)
		checkProduct(t, a, b, m)
		checkPower(t, a, one, m)
		checkSum(t, b, one, two, m)
		if m == 1 || shareDivisor(a, m) {
			refuseInverse(t, a, m)
		} else {
			checkInverse(t, a, m)
		}
	}
}

// shareDivisor takes the smaller one from the greater one in halves, so that it divides by nothing but 2.
func shareDivisor(a int, b int) bool {
	if a%2 == 0 && b%2 == 0 {
		return true
	}
	for a > 0 && b > 0 {
		for a%2 == 0 {
			a = a / 2
		}
		for b%2 == 0 {
			b = b / 2
		}
		if a < b {
			b = b - a
		} else {
			a = a - b
		}
	}
	return a+b > 1
}
