package tests

import (
	"testing"

	"loop.example/feedbridge/impl"
)

const (
	mostKeys = 6
	mostAge  = 30
)

// areTurns looks at every two days, so that it does not share its way of looking at neighbours with TurnsValid.
func areTurns(list []impl.Turn) bool {
	if len(list) > mostKeys {
		return false
	}
	for k, turn := range list {
		if turn.Day < 0 || turn.Day > greatest || !isKey(turn.Use) {
			return false
		}
		for _, later := range list[k+1:] {
			if later.Day <= turn.Day {
				return false
			}
		}
		// Of keys the product of the primes tells the primes.
		if k > 0 && list[k-1].Use.One*list[k-1].Use.Two == turn.Use.One*turn.Use.Two {
			return false
		}
	}
	return true
}

// keyUsed is for valid rotations; it searches them from the end, so that it does not share its way of searching with KeyOn.
func keyUsed(list []impl.Turn, day int) (impl.SignKey, bool) {
	for k := len(list) - 1; k >= 0; k-- {
		if list[k].Day <= day {
			return list[k].Use, true
		}
	}
	return impl.SignKey{}, false
}

// counts is for valid rotations; it looks at every day that counts, so that it does not share its way with SignedOn.
func counts(list []impl.Turn, s impl.Signed, day int) bool {
	if day < 0 || day > greatest || !isRight(s) {
		return false
	}
	for back := 0; back <= mostAge; back++ {
		k, ok := keyUsed(list, day-back)
		if ok && s.Modulus == k.One*k.Two && s.Exponent == k.Exponent {
			return true
		}
	}
	return false
}

func sameTurns(a []impl.Turn, b []impl.Turn) bool {
	if len(a) != len(b) {
		return false
	}
	for k := range a {
		if a[k] != b[k] {
			return false
		}
	}
	return true
}

func copyOfTurns(list []impl.Turn) []impl.Turn {
	return append([]impl.Turn{}, list...)
}

func withTurn(list []impl.Turn, turn impl.Turn) []impl.Turn {
	return append(copyOfTurns(list), turn)
}

// insertedTurn puts a turn at a place, whether it belongs there or not.
func insertedTurn(list []impl.Turn, at int, turn impl.Turn) []impl.Turn {
	return append(withTurn(list[:at], turn), list[at:]...)
}

func turnsWithout(list []impl.Turn, at int) []impl.Turn {
	return append(copyOfTurns(list[:at]), list[at+1:]...)
}

// turnKeys have different primes, some of them one in common.
func turnKeys() []impl.SignKey {
	return []impl.SignKey{{One: 61, Two: 53, Exponent: 17}, {One: 59, Two: 53, Exponent: 17}, {One: 11, Two: 13, Exponent: 7}, {One: 17, Two: 11, Exponent: 3}, {One: 997, Two: 991, Exponent: 7}, {One: 13, Two: 17, Exponent: 5}, {One: 997, Two: 11, Exponent: 7}, {One: 499, Two: 503, Exponent: 5}}
}

// turnsOn have a key of their own on each day, as long as there are enough of them.
func turnsOn(days []int) []impl.Turn {
	keys := turnKeys()
	list := []impl.Turn{}
	for k, day := range days {
		list = append(list, impl.Turn{Day: day, Use: keys[k%len(keys)]})
	}
	return list
}

// manyTurns have room before each of them, between them, and after them.
func manyTurns(many int) []impl.Turn {
	days := []int{}
	for k := 0; k < many; k++ {
		days = append(days, 10*k+10)
	}
	return turnsOn(days)
}

// turnAfter is one that may come after all of manyTurns, and is right at its end.
func turnAfter(many int) impl.Turn {
	return impl.Turn{Day: 10*many + 1, Use: impl.SignKey{One: 101, Two: 103, Exponent: 7}}
}

// someTurns are valid ones: at both ends of the days, one right after the other, far from each other, and with keys that come again.
func someTurns() [][]impl.Turn {
	a, b, c := turnKeys()[0], turnKeys()[1], turnKeys()[2]
	other := impl.SignKey{One: a.Two, Two: a.One, Exponent: 7}
	return [][]impl.Turn{
		nil,
		{},
		{{Day: 0, Use: a}},
		{{Day: greatest, Use: a}},
		{{Day: 10, Use: a}, {Day: 50, Use: b}},
		{{Day: 0, Use: a}, {Day: greatest, Use: b}},
		{{Day: greatest - 1, Use: a}, {Day: greatest, Use: b}},
		{{Day: greatest - 31, Use: b}, {Day: greatest - 30, Use: a}, {Day: greatest - 29, Use: c}},
		{{Day: 5, Use: a}, {Day: 6, Use: b}, {Day: 7, Use: a}, {Day: 100, Use: b}, {Day: 131, Use: a}, {Day: 163, Use: c}},
		{{Day: 0, Use: a}, {Day: 40, Use: b}, {Day: 80, Use: other}, {Day: 95, Use: c}, {Day: 96, Use: turnedKey(a)}},
		turnsOn([]int{0, 1, 2, 3, 4, 5}),
		turnsOn([]int{0, 29, 58, 87, 116, 145}),
		turnsOn([]int{0, 30, 60, 90, 120, 150}),
		turnsOn([]int{0, 31, 62, 93, 124, 155}),
		turnsOn([]int{7, 39, 71, 103, 135, 167}),
		turnsOn([]int{greatest - 5, greatest - 4, greatest - 3, greatest - 2, greatest - 1, greatest}),
		turnsOn([]int{1, 10, 100, 1000, 10000, 100000}),
		manyTurns(3),
		manyTurns(mostKeys),
	}
}

// outsideDays are no days of rotations, also those whose lowest digits are.
func outsideDays() []int {
	return []int{-1, -2, -30, -31, -greatest, greatest + 1, greatest + 2, greatest + 30, greatest + 31, 2 * greatest, 1 << 31, 1 << 32, 1<<32 + 15, 15 - 1<<32, 1<<63 - 1, 1<<63 - 30, -1 << 31, -1 << 32, -1 << 63, -1<<63 + 29, -1<<63 + 30}
}

// daysAround are those at which something may change for the rotations, those beside them, and others that may be far from them.
func daysAround(list []impl.Turn) []int {
	days := append(outsideDays(), 0, 1, 29, 30, 31, 32, greatest-31, greatest-30, greatest-1, greatest)
	for _, turn := range list {
		for _, after := range []int{0, mostAge, 2 * mostAge} {
			days = append(days, turn.Day+after-2, turn.Day+after-1, turn.Day+after, turn.Day+after+1)
		}
		days = append(days, turn.Day/2, turn.Day+1000, turn.Day-mostAge, turn.Day-mostAge-1)
	}
	return days
}

// otherTurns are not valid for one reason each, but for the zero value and what has too many.
func otherTurns() [][]impl.Turn {
	a, b := turnKeys()[0], turnKeys()[1]
	exponent := impl.SignKey{One: a.One, Two: a.Two, Exponent: 7}
	return [][]impl.Turn{
		{{}},
		{{}, {}},
		{{Day: 10, Use: a}, {}},
		{{}, {Day: 10, Use: a}},
		{{Day: -1, Use: a}},
		{{Day: greatest + 1, Use: a}},
		{{Day: 10}},
		{{Day: -1, Use: a}, {Day: 10, Use: b}},
		{{Day: 10, Use: a}, {Day: greatest + 1, Use: b}},
		{{Day: 10, Use: a}, {Day: 10, Use: b}},
		{{Day: 10, Use: a}, {Day: 9, Use: b}},
		{{Day: 10, Use: a}, {Day: 50, Use: a}},
		{{Day: 10, Use: a}, {Day: 50, Use: turnedKey(a)}},
		{{Day: 10, Use: a}, {Day: 50, Use: exponent}},
		{{Day: 10, Use: a}, {Day: 50, Use: turnedKey(exponent)}},
		{{Day: 10, Use: b}, {Day: 20, Use: a}, {Day: 30, Use: b}, {Day: 30, Use: a}},
		{{Day: 10, Use: b}, {Day: 20, Use: a}, {Day: 30, Use: exponent}, {Day: 40, Use: b}},
		manyTurns(mostKeys + 1),
		manyTurns(1000),
	}
}

// signedBy signs by the key; whoever calls it knows that it is one.
func signedBy(t *testing.T, k impl.SignKey, text string) impl.Signed {
	t.Helper()
	s, ok := impl.SignText(k, text)
	if !ok {
		t.Fatalf("SignText(%v, %q) is %v", k, text, s)
	}
	return s
}

func checkTurns(t *testing.T, list []impl.Turn) bool {
	t.Helper()
	valid := impl.TurnsValid(list)
	if valid != areTurns(list) {
		t.Fatalf("TurnsValid(%v) is %t", list, valid)
	}
	return valid
}

// checkKeyOn is for valid rotations.
func checkKeyOn(t *testing.T, list []impl.Turn, day int) {
	t.Helper()
	got, ok := impl.KeyOn(list, day)
	want, used := keyUsed(list, day)
	if got != want || ok != used {
		t.Fatalf("KeyOn(%v, %d) is %v, %t, not %v, %t", list, day, got, ok, want, used)
	}
}

// checkSignedOn is for valid rotations, and reports whether the signature counts.
func checkSignedOn(t *testing.T, list []impl.Turn, s impl.Signed, day int) bool {
	t.Helper()
	got := impl.SignedOn(list, s, day)
	if got != counts(list, s, day) {
		t.Fatalf("SignedOn(%v, %v, %d) is %t", list, s, day, got)
	}
	if got && !impl.SignatureRight(s) {
		t.Fatalf("SignedOn(%v, %v, %d) is true, but it is not right", list, s, day)
	}
	return got
}

// checkRotations checks what is promised of valid rotations.
func checkRotations(t *testing.T, list []impl.Turn) {
	t.Helper()
	if !checkTurns(t, list) {
		t.Fatalf("%v are valid", list)
	}
	for _, day := range daysAround(list) {
		checkKeyOn(t, list, day)
	}
	for k, turn := range list {
		if got, ok := impl.KeyOn(list, turn.Day); !ok || got != turn.Use {
			t.Fatalf("KeyOn(%v, %d) is %v, %t", list, turn.Day, got, ok)
		}
		if got, ok := impl.KeyOn(list, turn.Day-1); k == 0 && (ok || got != (impl.SignKey{})) {
			t.Fatalf("KeyOn(%v, %d) is %v, %t", list, turn.Day-1, got, ok)
		}
	}
}

// checkSignatures checks the signatures of all keys of valid rotations, and of keys that are not among them.
func checkSignatures(t *testing.T, list []impl.Turn) {
	t.Helper()
	signed := []impl.Signed{}
	for _, turn := range list {
		signed = append(signed, signedBy(t, turn.Use, "hello"))
	}
	for _, k := range turnKeys() {
		signed = append(signed, signedBy(t, k, "hello"))
	}
	for _, day := range daysAround(list) {
		for _, s := range signed {
			checkSignedOn(t, list, s, day)
		}
		k, ok := impl.KeyOn(list, day)
		if inside := day >= 0 && day <= greatest; ok && impl.SignedOn(list, signedBy(t, k, "x"), day) != inside {
			t.Fatalf("on %d a signature by the key of the day counts: %t", day, !inside)
		}
	}
}

// refuseTurns checks that nothing can be done with rotations that are not valid.
func refuseTurns(t *testing.T, list []impl.Turn) {
	t.Helper()
	if impl.TurnsValid(list) || areTurns(list) {
		t.Fatalf("%v are not valid", list)
	}
	turns := []impl.Turn{{}, turnAfter(1), {Day: 2000, Use: turnKeys()[6]}}
	days := []int{-1, 0, 9, 10, 11, 50, 100, greatest, greatest + 1}
	for k, turn := range list {
		if k < 20 {
			turns = append(turns, turn)
			days = append(days, turn.Day-1, turn.Day, turn.Day+1)
		}
	}
	for _, turn := range turns {
		if got, ok := impl.AddTurn(list, turn); ok || len(got) != 0 {
			t.Fatalf("AddTurn(%v, %v) is %v, %t", list, turn, got, ok)
		}
	}
	signed := []impl.Signed{}
	for _, turn := range turns {
		// Keys that are none sign nothing, and nothing does not count either.
		s, _ := impl.SignText(turn.Use, "x")
		signed = append(signed, s)
	}
	for _, day := range days {
		if got, ok := impl.KeyOn(list, day); ok || got != (impl.SignKey{}) {
			t.Fatalf("KeyOn(%v, %d) is %v, %t", list, day, got, ok)
		}
		for _, s := range signed {
			if impl.SignedOn(list, s, day) {
				t.Fatalf("SignedOn(%v, %v, %d) is true", list, s, day)
			}
		}
	}
}

// checkAddTurn is for valid rotations, and reports whether there is one more.
func checkAddTurn(t *testing.T, list []impl.Turn, turn impl.Turn) bool {
	t.Helper()
	want := withTurn(list, turn)
	can := areTurns(want)
	if !can {
		want = list
	}
	got, ok := impl.AddTurn(list, turn)
	if ok != can || !sameTurns(got, want) {
		t.Fatalf("AddTurn(%v, %v) is %v, %t", list, turn, got, ok)
	}
	if ok {
		checkAddedTurn(t, list, turn, got)
	}
	return ok
}

// checkAddedTurn checks what is promised of a key that was added.
func checkAddedTurn(t *testing.T, list []impl.Turn, turn impl.Turn, longer []impl.Turn) {
	t.Helper()
	if !impl.TurnsValid(longer) {
		t.Fatalf("%v are not valid", longer)
	}
	for _, after := range []int{0, 1, mostAge, 1000, greatest} {
		if got, ok := impl.KeyOn(longer, turn.Day+after); !ok || got != turn.Use {
			t.Fatalf("KeyOn(%v, %d) is %v, %t, not %v", longer, turn.Day+after, got, ok, turn.Use)
		}
	}
	for _, day := range append(daysAround(list), turn.Day-1, turn.Day-2) {
		if day >= turn.Day {
			continue
		}
		before, was := impl.KeyOn(list, day)
		if got, ok := impl.KeyOn(longer, day); ok != was || got != before {
			t.Fatalf("KeyOn(%v, %d) is %v, %t, and before it was %v, %t", longer, day, got, ok, before, was)
		}
	}
	if got, ok := impl.AddTurn(longer, turn); ok || !sameTurns(got, longer) {
		t.Fatalf("AddTurn(%v, %v) is %v, %t", longer, turn, got, ok)
	}
}

// P18: what the document describes, written out.
func TestP18KnownTurns(t *testing.T) {
	a := impl.SignKey{One: 61, Two: 53, Exponent: 17}
	b := impl.SignKey{One: 59, Two: 53, Exponent: 17}
	first, second, third := impl.Turn{Day: 10, Use: a}, impl.Turn{Day: 50, Use: b}, impl.Turn{Day: 51, Use: a}
	list, ok := impl.AddTurn(nil, first)
	if !ok || !sameTurns(list, []impl.Turn{first}) {
		t.Fatalf("the first one alone is %v, %t", list, ok)
	}
	for _, refused := range []impl.Turn{first, {Day: 50, Use: a}, {Day: 50, Use: turnedKey(a)}, {Day: 50, Use: impl.SignKey{One: 61, Two: 53, Exponent: 7}}, {Day: 10, Use: b}, {Day: 9, Use: b}, {Day: 0, Use: b}, {Day: -1, Use: b}, {Day: greatest + 1, Use: b}, {Day: 50}, {}} {
		if got, ok := impl.AddTurn(list, refused); ok || !sameTurns(got, []impl.Turn{first}) {
			t.Fatalf("with %v it is %v, %t", refused, got, ok)
		}
	}
	list, ok = impl.AddTurn(list, second)
	if !ok || !sameTurns(list, []impl.Turn{first, second}) {
		t.Fatalf("with the second one it is %v, %t", list, ok)
	}
	list, ok = impl.AddTurn(list, third)
	if !ok || !sameTurns(list, []impl.Turn{first, second, third}) {
		t.Fatalf("with the third one it is %v, %t", list, ok)
	}
	days := []int{9, 10, 49, 50, 51, 52, greatest, greatest + 1}
	for k, want := range []impl.SignKey{{}, a, a, b, a, a, a, a} {
		if got, ok := impl.KeyOn(list, days[k]); got != want || ok != (k > 0) {
			t.Fatalf("KeyOn(%v, %d) is %v, %t", list, days[k], got, ok)
		}
	}
}

// P18: every turn of all rotations after all others, of which most do not come after them.
func TestP18SomeTurns(t *testing.T) {
	for _, list := range someTurns() {
		for _, others := range append(someTurns(), otherTurns()...) {
			for k := 0; k < len(others) && k < 10; k++ {
				checkAddTurn(t, list, others[k])
			}
		}
		for _, day := range daysAround(list) {
			for _, k := range turnKeys() {
				checkAddTurn(t, list, impl.Turn{Day: day, Use: k})
			}
		}
	}
}

// P18: after each of them one more may come, up to MaxKeys, from the next day on, and until Great.
func TestP18EveryLength(t *testing.T) {
	for many := 0; many <= mostKeys; many++ {
		list := manyTurns(many)
		for _, day := range []int{10*many + 1, 10*many + 2, 10*many + 1000, greatest - 1, greatest} {
			turn := turnAfter(many)
			turn.Day = day
			if checkAddTurn(t, list, turn) != (many < mostKeys) {
				t.Fatalf("one more after %d", many)
			}
		}
		for day := -2; day <= 10*many; day++ {
			turn := turnAfter(many)
			turn.Day = day
			// With none before it every day is late enough.
			if checkAddTurn(t, list, turn) != (many == 0 && day >= 0) {
				t.Fatalf("%v after %v", turn, list)
			}
		}
		for _, day := range outsideDays() {
			turn := turnAfter(many)
			turn.Day = day
			if checkAddTurn(t, list, turn) {
				t.Fatalf("%v after %v", turn, list)
			}
		}
	}
}

// P18: nothing comes after the last day.
func TestP18AfterTheLastDay(t *testing.T) {
	list := turnsOn([]int{0, greatest})
	for _, day := range append(outsideDays(), 0, 1, greatest-1, greatest) {
		if checkAddTurn(t, list, impl.Turn{Day: day, Use: turnKeys()[3]}) {
			t.Fatalf("a turn on %d comes after the last day", day)
		}
	}
}

// P18: keys that are none are not added, from whatever day on.
func TestP18InvalidKeys(t *testing.T) {
	for _, k := range badKeys() {
		for many := 0; many <= mostKeys; many++ {
			for _, day := range []int{0, 10 * many, 10*many + 1, greatest} {
				if checkAddTurn(t, manyTurns(many), impl.Turn{Day: day, Use: k}) {
					t.Fatalf("%v is added to %d", k, many)
				}
			}
		}
	}
}

// P18: the primes of the key before are refused in both orders and with every exponent, and those of earlier ones are not; one prime in common is no reason.
func TestP18SamePrimes(t *testing.T) {
	for many := 1; many < mostKeys; many++ {
		list := manyTurns(many)
		for at, had := range list {
			for _, exponent := range []int{had.Use.Exponent, 3, 7, 17, 997} {
				k := impl.SignKey{One: had.Use.One, Two: had.Use.Two, Exponent: exponent}
				can := isKey(k) && at < many-1
				if checkAddTurn(t, list, impl.Turn{Day: 999, Use: k}) != can || checkAddTurn(t, list, impl.Turn{Day: 999, Use: turnedKey(k)}) != can {
					t.Fatalf("%v after %v", k, list)
				}
			}
			for _, prime := range []int{101, 983} {
				one := impl.SignKey{One: had.Use.One, Two: prime, Exponent: 997}
				two := impl.SignKey{One: prime, Two: had.Use.Two, Exponent: 997}
				for _, k := range []impl.SignKey{one, two, turnedKey(one), turnedKey(two)} {
					if !checkAddTurn(t, list, impl.Turn{Day: 999, Use: k}) {
						t.Fatalf("%v is refused after %v", k, list)
					}
				}
			}
		}
	}
}

// P18: all keys of small primes after all others; after each of them those of other primes.
func TestP18AllSmallKeys(t *testing.T) {
	keys := []impl.SignKey{}
	for _, one := range []int{11, 13, 17, 19} {
		for _, two := range []int{11, 13, 17, 19} {
			for _, exponent := range []int{7, 11, 499} {
				if k := (impl.SignKey{One: one, Two: two, Exponent: exponent}); isKey(k) {
					keys = append(keys, k)
				}
			}
		}
	}
	added := 0
	for _, k := range keys {
		for _, next := range keys {
			if checkAddTurn(t, []impl.Turn{{Day: 3, Use: k}}, impl.Turn{Day: 4, Use: next}) {
				added++
			}
		}
	}
	// Twelve ordered pairs of primes with three exponents each; after each key the six of its own pair are refused.
	if len(keys) != 36 || added != 36*30 {
		t.Fatalf("after %d keys %d were added", len(keys), added)
	}
}

// P18: nothing is added to rotations that are not valid, and they are not returned.
func TestP18OtherTurns(t *testing.T) {
	for _, list := range otherTurns() {
		refuseTurns(t, list)
	}
}

// P18: arguments are not written to, not even behind their ends, and answers are new, also those beside false.
func TestP18ArgumentsStay(t *testing.T) {
	list := manyTurns(mostKeys)
	before := copyOfTurns(list)
	for many := 0; many <= mostKeys; many++ {
		for _, turn := range []impl.Turn{turnAfter(many), {}, list[0], {Day: greatest + 1, Use: turnKeys()[6]}, {Day: -1}} {
			impl.TurnsValid(list[:many])
			impl.KeyOn(list[:many], turn.Day)
			impl.SignedOn(list[:many], impl.Signed{}, turn.Day)
			got, _ := impl.AddTurn(list[:many], turn)
			got = append(got, turn, turn, turn)
			for k := range got {
				got[k] = impl.Turn{Day: -5}
			}
			if !sameTurns(list, before) {
				t.Fatalf("%v is changed to %v", before, list)
			}
		}
	}
}

// P18: two answers share nothing with each other.
func TestP18AnswersAreNew(t *testing.T) {
	list := manyTurns(4)
	for _, turn := range []impl.Turn{turnAfter(4), {}} {
		one, _ := impl.AddTurn(list, turn)
		two, _ := impl.AddTurn(list, turn)
		want := copyOfTurns(two)
		one = append(one, turn)
		for k := range one {
			one[k] = impl.Turn{}
		}
		if !sameTurns(two, want) {
			t.Fatalf("%v is changed to %v", want, two)
		}
	}
}

// P18, P83, P84 and P85: nothing is kept from one call to the next.
func TestP18TurnsAreAlike(t *testing.T) {
	for times := 0; times < 3; times++ {
		checkRotations(t, manyTurns(5))
		refuseTurns(t, manyTurns(mostKeys+1))
		checkRotations(t, nil)
		refuseTurns(t, []impl.Turn{{}})
		checkSignatures(t, manyTurns(2))
		checkSignatures(t, nil)
	}
}

// P83: with the first one twice they are not valid, at the beginning and at every other place; without it they are.
func TestP83FirstTurnTwice(t *testing.T) {
	for _, list := range someTurns() {
		checkRotations(t, list)
		if len(list) == 0 {
			continue
		}
		checkRotations(t, list[1:])
		for at := 0; at <= len(list); at++ {
			refuseTurns(t, insertedTurn(list, at, list[0]))
		}
	}
}

// P83: with any one twice, at every place. Without any one between others they are valid if those beside it have not the same primes.
func TestP83AnyTurnTwice(t *testing.T) {
	for _, list := range someTurns() {
		for k := range list {
			for at := 0; at <= len(list); at++ {
				refuseTurns(t, insertedTurn(list, at, list[k]))
			}
			checkTurns(t, turnsWithout(list, k))
			checkTurns(t, list[:k])
			checkTurns(t, list[k:])
		}
	}
	list := manyTurns(mostKeys)
	for k := range list {
		checkRotations(t, turnsWithout(list, k))
	}
}

// P83: of all orders of four days exactly one is valid.
func TestP83EveryOrder(t *testing.T) {
	valid := 0
	for code := 0; code < 256; code++ {
		days := []int{code & 3, code >> 2 & 3, code >> 4 & 3, code >> 6}
		if checkTurns(t, turnsOn(days)) {
			valid++
		}
	}
	if valid != 1 {
		t.Fatalf("%d orders are valid", valid)
	}
}

// P83: the day of each is any one between those beside it, and no other one.
func TestP83EveryDay(t *testing.T) {
	for many := 1; many <= mostKeys; many++ {
		for at := 0; at < many; at++ {
			for _, day := range append(daysAround(manyTurns(many)), 5, 15, 25, 35, 45, 55) {
				list := manyTurns(many)
				list[at].Day = day
				above, below := -1, greatest+1
				if at > 0 {
					above = list[at-1].Day
				}
				if at < many-1 {
					below = list[at+1].Day
				}
				if checkTurns(t, list) != (day > above && day < below) {
					t.Fatalf("TurnsValid(%v) is %t", list, impl.TurnsValid(list))
				}
			}
		}
	}
}

// P83: days that are none, at every place.
func TestP83OutsideDays(t *testing.T) {
	for many := 1; many <= mostKeys; many++ {
		for at := 0; at < many; at++ {
			for _, day := range outsideDays() {
				list := manyTurns(many)
				list[at].Day = day
				refuseTurns(t, list)
			}
		}
	}
}

// P83: keys that are none, at every place.
func TestP83InvalidKeys(t *testing.T) {
	for _, k := range badKeys() {
		for many := 1; many <= mostKeys; many++ {
			for at := 0; at < many; at++ {
				list := manyTurns(many)
				list[at].Use = k
				if impl.TurnsValid(list) {
					t.Fatalf("%v are not valid", list)
				}
			}
		}
		refuseTurns(t, []impl.Turn{{Day: 10, Use: k}})
		refuseTurns(t, []impl.Turn{{Day: 10, Use: turnKeys()[0]}, {Day: 20, Use: k}})
		refuseTurns(t, []impl.Turn{{Day: 10, Use: k}, {Day: 20, Use: turnKeys()[0]}})
	}
}

// P83: the primes of one of them at each other place, in both orders and with other exponents: only beside it they are refused.
func TestP83SamePrimes(t *testing.T) {
	for many := 2; many <= mostKeys; many++ {
		for from := 0; from < many; from++ {
			for at := 0; at < many; at++ {
				for _, exponent := range []int{17, 7, 3, 997} {
					list := manyTurns(many)
					k := impl.SignKey{One: list[from].Use.One, Two: list[from].Use.Two, Exponent: exponent}
					if at == from || !isKey(k) {
						continue
					}
					beside := at == from-1 || at == from+1
					for _, use := range []impl.SignKey{k, turnedKey(k)} {
						list[at].Use = use
						if checkTurns(t, list) == beside {
							t.Fatalf("TurnsValid(%v) is %t", list, !beside)
						}
					}
				}
			}
		}
	}
}

// P83: all pairs of primes after one of them; only its own, in both orders, are refused.
func TestP83AllPairs(t *testing.T) {
	a := impl.SignKey{One: 61, Two: 53, Exponent: 997}
	refused := 0
	for _, one := range keyPrimes() {
		for _, two := range keyPrimes() {
			k := impl.SignKey{One: one, Two: two, Exponent: 997}
			after := impl.TurnsValid([]impl.Turn{{Day: 1, Use: a}, {Day: 2, Use: k}})
			before := impl.TurnsValid([]impl.Turn{{Day: 1, Use: k}, {Day: 2, Use: a}})
			if after != before {
				t.Fatalf("%v after %v: %t, and before it: %t", k, a, after, before)
			}
			if one != two && !after {
				refused++
			}
			if one == two && after {
				t.Fatalf("%v is no key", k)
			}
		}
	}
	if refused != 2 {
		t.Fatalf("%d keys are refused", refused)
	}
}

// P83: none and up to MaxKeys are valid, more are not, however many.
func TestP83Lengths(t *testing.T) {
	for many := 0; many <= 40; many++ {
		if checkTurns(t, manyTurns(many)) != (many <= mostKeys) {
			t.Fatalf("%d turns are valid: %t", many, many > mostKeys)
		}
	}
	refuseTurns(t, manyTurns(4000))
	refuseTurns(t, make([]impl.Turn, 4000))
}

// P83: all lists of up to three of some turns, of which as many are valid as was reckoned elsewhere.
func TestP83AllSmallLists(t *testing.T) {
	a, b := turnKeys()[0], turnKeys()[1]
	some := []impl.Turn{{Day: 40, Use: a}, {Day: 1, Use: a}, {Day: 2, Use: b}, {Day: 2, Use: turnedKey(a)}, {Day: 1, Use: b}, {Day: 40, Use: b}, {Day: 0, Use: a}, {Day: -1, Use: a}, {Day: 1}}
	lists := [][]impl.Turn{{}}
	last := lists
	for many := 1; many <= 3; many++ {
		longer := [][]impl.Turn{}
		for _, list := range last {
			for _, turn := range some {
				longer = append(longer, withTurn(list, turn))
			}
		}
		lists = append(lists, longer...)
		last = longer
	}
	valid := 0
	for _, list := range lists {
		if !checkTurns(t, list) {
			refuseTurns(t, list)
			continue
		}
		valid++
		checkRotations(t, list)
		checkSignatures(t, list)
		for _, turn := range some {
			checkAddTurn(t, list, turn)
		}
	}
	// None, one, two and three of them.
	if valid != 1+7+9+5 {
		t.Fatalf("%d small lists are valid", valid)
	}
}

// P84: the days of keys, reckoned elsewhere: from each day on until the one before the next.
func TestP84KnownDays(t *testing.T) {
	list := turnsOn([]int{0, 1, 5, 36, 37, 100})
	many := make([]int, len(list))
	for day := -50; day < 150; day++ {
		got, ok := impl.KeyOn(list, day)
		if ok != (day >= 0) {
			t.Fatalf("KeyOn(%v, %d) is %v, %t", list, day, got, ok)
		}
		for k, turn := range list {
			if ok && turn.Use == got {
				many[k]++
			}
		}
	}
	if !sameNumbers(many, []int{1, 4, 31, 1, 63, 50}) {
		t.Fatalf("the keys are used on %v days", many)
	}
}

func TestP84SomeTurns(t *testing.T) {
	for _, list := range someTurns() {
		checkRotations(t, list)
	}
}

// P84: all parts of ten days with up to MaxKeys keys, with all days around them.
func TestP84AllSmallDays(t *testing.T) {
	for chosen := 0; chosen < 1<<10; chosen++ {
		days := []int{}
		for day := 0; day < 10; day++ {
			if chosen>>day&1 == 1 {
				days = append(days, day)
			}
		}
		list := turnsOn(days)
		if len(days) > mostKeys {
			refuseTurns(t, list)
			continue
		}
		for day := -3; day < 13; day++ {
			checkKeyOn(t, list, day)
		}
	}
}

// P84: any number is a day, also before the first one and after the last one.
func TestP84WhateverDays(t *testing.T) {
	for many := 0; many <= mostKeys; many++ {
		list := manyTurns(many)
		for _, day := range []int{-1 << 63, -1<<63 + 1, -1 << 32, -1 << 31, -greatest, -1, 0, 9} {
			if got, ok := impl.KeyOn(list, day); ok || got != (impl.SignKey{}) {
				t.Fatalf("KeyOn(%v, %d) is %v, %t", list, day, got, ok)
			}
		}
		for _, day := range []int{10 * many, 10*many + 1, greatest, greatest + 1, 1 << 31, 1 << 32, 1<<63 - 1} {
			if got, ok := impl.KeyOn(list, day); many > 0 && (!ok || got != list[many-1].Use) || many == 0 && ok {
				t.Fatalf("KeyOn(%v, %d) is %v, %t", list, day, got, ok)
			}
		}
	}
}

// P84: keys that come again are used again, with whatever exponent and order of the primes.
func TestP84KeysComeAgain(t *testing.T) {
	a, b := turnKeys()[0], turnKeys()[1]
	other := impl.SignKey{One: a.Two, Two: a.One, Exponent: 7}
	list := []impl.Turn{{Day: 0, Use: a}, {Day: 2, Use: b}, {Day: 4, Use: other}, {Day: 6, Use: turnedKey(b)}, {Day: 8, Use: turnedKey(a)}, {Day: 9, Use: b}}
	checkRotations(t, list)
	for day, want := range []impl.SignKey{a, a, b, b, other, other, turnedKey(b), turnedKey(b), turnedKey(a), b, b} {
		if got, ok := impl.KeyOn(list, day); !ok || got != want {
			t.Fatalf("KeyOn(%v, %d) is %v, %t", list, day, got, ok)
		}
	}
}

// P84: in other rotations no key is used, not even one before what is not valid.
func TestP84OtherTurns(t *testing.T) {
	for many := 1; many <= mostKeys; many++ {
		for at := 0; at < many; at++ {
			for _, bad := range []impl.Turn{{}, {Day: 5}, {Day: -1, Use: turnKeys()[6]}, {Day: greatest + 1, Use: turnKeys()[6]}, {Day: 10*at + 10, Use: impl.SignKey{One: 61, Two: 61, Exponent: 17}}} {
				list := manyTurns(many)
				list[at] = bad
				refuseTurns(t, list)
			}
		}
	}
}

// P85: the days on which signatures count, written out: from the day of the key on until MaxAge after the last one on which it is used.
func TestP85KnownDays(t *testing.T) {
	a, b, c := turnKeys()[0], turnKeys()[1], turnKeys()[2]
	// A key, and days on which its signatures count: from the first of each two until the other one.
	checkDays(t, []impl.Turn{{Day: 10, Use: a}, {Day: 50, Use: b}}, a, []int{10, 79})
	checkDays(t, []impl.Turn{{Day: 10, Use: a}, {Day: 50, Use: b}}, b, []int{50, 400})
	checkDays(t, []impl.Turn{{Day: 10, Use: a}, {Day: 50, Use: b}}, c, nil)
	checkDays(t, []impl.Turn{{Day: 0, Use: a}, {Day: 1, Use: b}, {Day: 2, Use: c}}, a, []int{0, 30})
	checkDays(t, []impl.Turn{{Day: 0, Use: a}, {Day: 1, Use: b}, {Day: 2, Use: c}}, b, []int{1, 31})
	checkDays(t, []impl.Turn{{Day: 0, Use: a}, {Day: 1, Use: b}, {Day: 2, Use: c}}, c, []int{2, 400})
	// It is used again when it still counts, on the first day on which it would not, and one day later.
	checkDays(t, []impl.Turn{{Day: 10, Use: a}, {Day: 20, Use: b}, {Day: 30, Use: a}, {Day: 40, Use: b}}, a, []int{10, 69})
	checkDays(t, []impl.Turn{{Day: 10, Use: a}, {Day: 20, Use: b}, {Day: 50, Use: a}, {Day: 60, Use: b}}, a, []int{10, 89})
	checkDays(t, []impl.Turn{{Day: 10, Use: a}, {Day: 20, Use: b}, {Day: 51, Use: a}, {Day: 60, Use: b}}, a, []int{10, 49, 51, 89})
	checkDays(t, []impl.Turn{{Day: 10, Use: a}, {Day: 20, Use: b}, {Day: 51, Use: a}, {Day: 60, Use: b}}, b, []int{20, 400})
	checkDays(t, []impl.Turn{{Day: 10, Use: a}, {Day: 20, Use: b}, {Day: 200, Use: a}, {Day: 201, Use: c}}, a, []int{10, 49, 200, 230})
	checkDays(t, []impl.Turn{{Day: 10, Use: a}, {Day: 20, Use: b}, {Day: 200, Use: a}, {Day: 201, Use: c}}, b, []int{20, 229})
	checkDays(t, nil, a, nil)
}

// checkDays checks all days from -50 until 400.
func checkDays(t *testing.T, list []impl.Turn, k impl.SignKey, ends []int) {
	t.Helper()
	s := signedBy(t, k, "hello")
	for day := -50; day <= 400; day++ {
		want := false
		for at := 0; at+1 < len(ends); at += 2 {
			want = want || day >= ends[at] && day <= ends[at+1]
		}
		if checkSignedOn(t, list, s, day) != want {
			t.Fatalf("SignedOn(%v, %v, %d) is %t", list, s, day, !want)
		}
	}
}

func TestP85SomeTurns(t *testing.T) {
	for _, list := range someTurns() {
		checkSignatures(t, list)
	}
}

// P85: the key before, which is used until each day between.
func TestP85EveryDay(t *testing.T) {
	a, b := turnKeys()[0], turnKeys()[1]
	old, young := signedBy(t, a, "x"), signedBy(t, b, "x")
	for next := 1; next < 80; next++ {
		list := []impl.Turn{{Day: 0, Use: a}, {Day: next, Use: b}}
		for day := -2; day < 120; day++ {
			if impl.SignedOn(list, old, day) != (day >= 0 && day-(next-1) <= mostAge) || impl.SignedOn(list, young, day) != (day >= next) {
				t.Fatalf("on %d by %v: %t, %t", day, list, impl.SignedOn(list, old, day), impl.SignedOn(list, young, day))
			}
		}
	}
}

// P85: with six keys one after the other, so many days apart, how many of them count at 0, 1, 5, 14, 25, 26, 28, 29 and 30 days after the day of the last one, as was reckoned elsewhere.
func TestP85HowManyCount(t *testing.T) {
	after := []int{0, 1, 5, 14, 25, 26, 28, 29, 30}
	known := [][]int{{1, 6, 6, 6, 6, 6, 5, 3, 2, 1}, {6, 6, 6, 6, 4, 2, 2, 2, 2, 1}, {15, 3, 3, 3, 3, 2, 2, 2, 2, 1}, {29, 3, 2, 2, 2, 2, 2, 2, 2, 1}, {30, 2, 2, 2, 2, 2, 2, 2, 2, 1}, {31, 2, 2, 2, 2, 2, 2, 2, 2, 1}, {40, 2, 2, 2, 2, 2, 2, 2, 2, 1}}
	for _, row := range known {
		apart := row[0]
		list := turnsOn([]int{0, apart, 2 * apart, 3 * apart, 4 * apart, 5 * apart})
		for place, days := range after {
			count := 0
			for _, turn := range list {
				if checkSignedOn(t, list, signedBy(t, turn.Use, "x"), 5*apart+days) {
					count++
				}
			}
			if count != row[1+place] {
				t.Fatalf("%d days after the last one of %v %d count, not %d", days, list, count, row[1+place])
			}
		}
	}
}

// P85: signatures by keys that come later do not count before their days, however near these are.
func TestP85LaterKeys(t *testing.T) {
	for _, list := range someTurns() {
		for k, turn := range list {
			s := signedBy(t, turn.Use, "x")
			for back := 1; back <= 40; back++ {
				// A key that came before, too, may count.
				if impl.SignedOn(list[k:], s, turn.Day-back) {
					t.Fatalf("SignedOn(%v, %v, %d) is true", list[k:], s, turn.Day-back)
				}
				checkSignedOn(t, list, s, turn.Day-back)
			}
		}
	}
}

// P85: with the same primes and another exponent it is another key, of which each counts in its own days.
func TestP85OtherExponents(t *testing.T) {
	a, b := turnKeys()[0], turnKeys()[1]
	other := impl.SignKey{One: a.One, Two: a.Two, Exponent: 7}
	checkDays(t, []impl.Turn{{Day: 10, Use: a}, {Day: 50, Use: b}}, other, nil)
	list := []impl.Turn{{Day: 10, Use: a}, {Day: 50, Use: b}, {Day: 60, Use: other}, {Day: 120, Use: b}}
	checkDays(t, list, a, []int{10, 79})
	checkDays(t, list, other, []int{60, 149})
	checkDays(t, list, b, []int{50, 89, 120, 400})
	for _, s := range []impl.Signed{withExponent(signedBy(t, a, "x"), 7), withExponent(signedBy(t, other, "x"), 17)} {
		for day := -50; day <= 400; day++ {
			if checkSignedOn(t, list, s, day) {
				t.Fatalf("SignedOn(%v, %v, %d) is true", list, s, day)
			}
		}
	}
}

// P85: exponents with the same remainder make the same signature, and still one key does not count for the other one.
func TestP85SameRemainders(t *testing.T) {
	b := turnKeys()[1]
	a, other := impl.SignKey{One: 11, Two: 13, Exponent: 7}, impl.SignKey{One: 11, Two: 13, Exponent: 127}
	list := []impl.Turn{{Day: 10, Use: a}, {Day: 50, Use: b}, {Day: 200, Use: other}}
	checkDays(t, list, a, []int{10, 79})
	checkDays(t, list, other, []int{200, 400})
}

// P85: with both primes exchanged it is the same modulus, so signatures count alike.
func TestP85ExchangedPrimes(t *testing.T) {
	for _, list := range someTurns() {
		for _, turn := range list {
			for _, day := range daysAround(list) {
				one := checkSignedOn(t, list, signedBy(t, turn.Use, "x"), day)
				if impl.SignedOn(list, signedBy(t, turnedKey(turn.Use), "x"), day) != one {
					t.Fatalf("by %v on %d signatures by %v and by the same one turned do not count alike", list, day, turn.Use)
				}
			}
		}
	}
	a, b := turnKeys()[0], turnKeys()[1]
	checkDays(t, []impl.Turn{{Day: 10, Use: a}, {Day: 20, Use: b}, {Day: 30, Use: turnedKey(a)}, {Day: 40, Use: turnedKey(b)}}, a, []int{10, 69})
	checkDays(t, []impl.Turn{{Day: 10, Use: turnedKey(a)}, {Day: 50, Use: b}}, a, []int{10, 79})
}

// P85: only one of all signatures counts, on days of its own key and of old ones.
func TestP85AllSignatures(t *testing.T) {
	list := []impl.Turn{{Day: 10, Use: impl.SignKey{One: 11, Two: 13, Exponent: 7}}, {Day: 20, Use: impl.SignKey{One: 17, Two: 11, Exponent: 3}}}
	for _, turn := range list {
		for _, text := range []string{"", "a", "hello"} {
			right := signedBy(t, turn.Use, text)
			for signature := -20; signature < right.Modulus+20; signature++ {
				for _, day := range []int{9, 10, 19, 20, 49, 50} {
					if checkSignedOn(t, list, withSignature(right, signature), day) && signature != right.Signature {
						t.Fatalf("on %d %v counts as %d", day, right, signature)
					}
				}
			}
		}
	}
}

// P85: all kinds of texts, signed by the key of the day, by an old key, by one that is too old, and by one that comes later.
func TestP85SomeTexts(t *testing.T) {
	keys := turnKeys()
	list := []impl.Turn{{Day: 10, Use: keys[0]}, {Day: 20, Use: keys[1]}, {Day: 51, Use: keys[2]}, {Day: 60, Use: keys[3]}}
	for _, text := range someTexts() {
		for k, want := range []bool{false, true, true, false} {
			s := signedBy(t, keys[k], text)
			if checkSignedOn(t, list, s, 55) != want || checkSignedOn(t, list, withText(s, "other"), 55) && !impl.SignatureRight(withText(s, "other")) {
				t.Fatalf("SignedOn(%v, %v, 55) is %t", list, s, !want)
			}
		}
	}
}

// P85: texts that are none do not count, with whatever signature.
func TestP85InvalidTexts(t *testing.T) {
	list := manyTurns(mostKeys)
	for _, text := range badTexts() {
		for _, turn := range list {
			right := signedBy(t, turn.Use, "hello")
			for _, signature := range []int{-1, 0, 1, right.Signature} {
				for _, day := range []int{turn.Day, turn.Day + 5, 60} {
					if impl.SignedOn(list, withSignature(withText(right, text), signature), day) {
						t.Fatalf("%q counts by %v", text, turn)
					}
				}
			}
		}
		if impl.SignedOn(list, impl.Signed{Text: text}, 60) || impl.SignedOn(nil, impl.Signed{Text: text, Modulus: -1, Exponent: -1, Signature: -1}, 60) {
			t.Fatalf("%q counts", text)
		}
	}
}

// P85: right signatures of no key do not count, nor do those of the products of primes that are in no key together.
func TestP85WithoutKeys(t *testing.T) {
	list := []impl.Turn{{Day: 10, Use: impl.SignKey{One: 61, Two: 53, Exponent: 17}}, {Day: 20, Use: impl.SignKey{One: 59, Two: 47, Exponent: 17}}}
	for _, n := range []int{100, 121, 143, 61 * 61, 61 * 59, 61 * 47, 53 * 59, 53 * 47, 61*53 - 1, 61*53 + 1, 2 * 61 * 53, 59*47 - 1, mostModulus} {
		s := impl.Signed{Modulus: n, Exponent: 17, Signature: 1}
		if !impl.SignatureRight(s) {
			t.Fatalf("%v is wrong", s)
		}
		for day := 0; day < 100; day++ {
			if impl.SignedOn(list, s, day) {
				t.Fatalf("SignedOn(%v, %v, %d) is true", list, s, day)
			}
		}
	}
	for day := -50; day < 100; day++ {
		if impl.SignedOn(list, impl.Signed{}, day) || impl.SignedOn(nil, impl.Signed{}, day) || impl.SignedOn(nil, signedBy(t, list[0].Use, "x"), day) {
			t.Fatalf("on %d nothing counts", day)
		}
	}
}

// P85: days that are none, also those after Great on which a key is used or may count.
func TestP85OutsideDays(t *testing.T) {
	for _, list := range someTurns() {
		for _, turn := range list {
			s := signedBy(t, turn.Use, "x")
			for _, day := range outsideDays() {
				if impl.SignedOn(list, s, day) {
					t.Fatalf("SignedOn(%v, %v, %d) is true", list, s, day)
				}
			}
			if !impl.SignedOn(list, s, turn.Day) {
				t.Fatalf("SignedOn(%v, %v, %d) is false", list, s, turn.Day)
			}
		}
	}
}

// P85: on the last days before Great, and on the first ones.
func TestP85BothEnds(t *testing.T) {
	a, b := turnKeys()[0], turnKeys()[1]
	old := signedBy(t, a, "x")
	for back := 0; back < 40; back++ {
		list := []impl.Turn{{Day: 0, Use: a}, {Day: greatest - back, Use: b}}
		if checkSignedOn(t, list, old, greatest) != (back < mostAge) || !checkSignedOn(t, list, signedBy(t, b, "x"), greatest) || !checkSignedOn(t, list, old, 0) {
			t.Fatalf("at both ends of %v signatures do not count", list)
		}
	}
}

// P85: by rotations that are not valid nothing counts, not even by a key before what is not valid.
func TestP85OtherTurns(t *testing.T) {
	for _, list := range otherTurns() {
		for _, k := range turnKeys() {
			s := signedBy(t, k, "hello")
			for day := 0; day < 100; day++ {
				if impl.SignedOn(list, s, day) {
					t.Fatalf("SignedOn(%v, %v, %d) is true", list, s, day)
				}
			}
		}
	}
}

// whateverTurns are mostly valid, and have their days near each other.
func whateverTurns(data uint32) ([]impl.Turn, uint32) {
	keys := turnKeys()
	list := []impl.Turn{}
	data = nextData(data)
	many := chosenOf(data, mostKeys+1)
	day := -1
	for k := 0; k < many; k++ {
		data = nextData(data)
		day += 1 + chosenOf(data, 50)
		data = nextData(data)
		use := keys[chosenOf(data, 4)]
		data = nextData(data)
		if chosenOf(data, 3) == 0 {
			use = turnedKey(use)
		}
		list = append(list, impl.Turn{Day: day, Use: use})
	}
	data = nextData(data)
	if many > 0 && chosenOf(data, 8) == 0 {
		list[many-1].Day = day - 40
	}
	return list, data
}

// P18, P83, P84 and P85: whatever rotations.
func TestP85WhateverTurns(t *testing.T) {
	data := uint32(16)
	valid, counting := 0, 0
	for times := 0; times < 3000; times++ {
		list, next := whateverTurns(data)
		data = next
		if !checkTurns(t, list) {
			refuseTurns(t, list)
			continue
		}
		valid++
		for tries := 0; tries < 10; tries++ {
			data = nextData(data)
			k := turnKeys()[chosenOf(data, 5)]
			data = nextData(data)
			day := chosenOf(data, 350) - 20
			checkKeyOn(t, list, day)
			checkAddTurn(t, list, impl.Turn{Day: day, Use: k})
			if checkSignedOn(t, list, signedBy(t, k, whateverText(data, 10)), day) {
				counting++
			}
		}
	}
	if valid < 500 || counting < 500 {
		t.Fatalf("%d rotations are valid, and %d signatures count", valid, counting)
	}
}
