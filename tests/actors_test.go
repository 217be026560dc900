package tests

import (
	"testing"

	"loop.example/feedbridge/impl"
)

const mostActors = 8

// areActors looks at every two actors, so that it does not share its way of looking at neighbours with ActorsValid.
func areActors(list []impl.Actor) bool {
	if len(list) > mostActors {
		return false
	}
	for k, a := range list {
		if !isWord(a.Name) || !isWord(a.Feed) || a.Sign < 0 || a.Sign > greatest {
			return false
		}
		for _, later := range list[k+1:] {
			if !keyBefore(a.Name, later.Name) || a.Feed == later.Feed {
				return false
			}
		}
	}
	return true
}

// actorPlace searches all actors from the end, so that it does not share its way of searching with ActorNamed.
func actorPlace(list []impl.Actor, name string) int {
	for k := len(list) - 1; k >= 0; k-- {
		if list[k].Name == name {
			return k
		}
	}
	return -1
}

// actorsWith searches the place from the end, so that it does not share its way of adding with AddActor.
func actorsWith(list []impl.Actor, a impl.Actor) []impl.Actor {
	place := len(list)
	for place > 0 && keyBefore(a.Name, list[place-1].Name) {
		place--
	}
	return insertedActor(list, place, a)
}

// nameFor tries the digits from the greatest one on, so that it does not share its way of trying with NameFor.
func nameFor(list []impl.Actor, word string) string {
	if !isWord(word) || !areActors(list) {
		return ""
	}
	if actorPlace(list, word) == -1 {
		return word
	}
	name := ""
	for digit := 9; digit >= 2; digit-- {
		if other := wordWithDigit(word, digit); actorPlace(list, other) == -1 {
			name = other
		}
	}
	return name
}

func wordWithDigit(word string, digit int) string {
	if len(word) > 7 {
		word = word[:7]
	}
	return word + digits(digit, 1)
}

func sameActors(a []impl.Actor, b []impl.Actor) bool {
	if len(a) != len(b) {
		return false
	}
	for k := range a {
		if a[k] != b[k] {
			return false
		}
	}
	return true
}

func copyOfActors(list []impl.Actor) []impl.Actor {
	return append([]impl.Actor{}, list...)
}

func actorsWithout(list []impl.Actor, at int) []impl.Actor {
	return append(copyOfActors(list[:at]), list[at+1:]...)
}

// insertedActor puts an actor at a place, whether it belongs there or not.
func insertedActor(list []impl.Actor, at int, a impl.Actor) []impl.Actor {
	return append(append(copyOfActors(list[:at]), a), list[at:]...)
}

// actorsOf have the names in their order, so that they are valid if the names are and ascend.
func actorsOf(names []string) []impl.Actor {
	list := []impl.Actor{}
	for k, name := range names {
		list = append(list, impl.Actor{Name: name, Feed: "f" + digits(k, 3), Sign: k})
	}
	return list
}

// actorsOfWords brings the names into their order.
func actorsOfWords(names []string) []impl.Actor {
	list := []impl.Actor{}
	for _, a := range actorsOf(names) {
		list = actorsWith(list, a)
	}
	return list
}

// manyActors have names with room before each of them, between them, and after them.
func manyActors(many int) []impl.Actor {
	names := []string{}
	for k := 0; k < many; k++ {
		names = append(names, "n"+digits(2*k+1, 4))
	}
	return actorsOf(names)
}

// actorBetween stands at a place of manyActors.
func actorBetween(at int) impl.Actor {
	return impl.Actor{Name: "n" + digits(2*at, 4), Feed: "other", Sign: 5}
}

// someActors are valid ones; some of their names begin others, and some are feeds of others.
func someActors() [][]impl.Actor {
	return [][]impl.Actor{
		nil,
		{},
		{{Name: "a", Feed: "a"}},
		{{Name: "a", Feed: "b", Sign: greatest}, {Name: "b", Feed: "a", Sign: greatest}},
		{{Name: "art", Feed: "f2", Sign: 7}, {Name: "news", Feed: "f1"}},
		{{Name: "a", Feed: "z"}, {Name: "a0", Feed: "y"}, {Name: "a00", Feed: "x"}, {Name: "a1", Feed: "w"}, {Name: "a10", Feed: "v"}, {Name: "a2", Feed: "u"}, {Name: "aa", Feed: "t"}, {Name: "b", Feed: "s"}},
		{{Name: letters(6), Feed: letters(8), Sign: 1}, {Name: letters(7), Feed: letters(7), Sign: 1}, {Name: letters(8), Feed: letters(6), Sign: 1}},
		{{Name: "abcdefg0", Feed: "f"}, {Name: "abcdefg2", Feed: "g"}, {Name: "abcdefg3", Feed: "h"}, {Name: "abcdefga", Feed: "i"}, {Name: "abcdefgz", Feed: "j"}},
		actorsOf([]string{"x", "x2", "x3", "x4", "x5", "x6", "x7", "x8"}),
		actorsOf([]string{"x", "x0", "x1", "x3", "x33", "x9", "xx"}),
		actorsOf([]string{"abcdefg2", "abcdefg3", "abcdefg4", "abcdefg5", "abcdefg6", "abcdefg7", "abcdefg8", "abcdefg9"}),
		manyActors(3),
		manyActors(mostActors),
	}
}

// badActors are not valid for one reason each, but for the zero value.
func badActors() []impl.Actor {
	list := []impl.Actor{{}, {Name: "new"}, {Feed: "new"}}
	for _, bad := range badWords() {
		list = append(list, impl.Actor{Name: bad, Feed: "new", Sign: 5}, impl.Actor{Name: "new", Feed: bad, Sign: 5})
	}
	for _, sign := range outsideSigns() {
		list = append(list, impl.Actor{Name: "new", Feed: "new", Sign: sign})
	}
	return list
}

func outsideSigns() []int {
	return []int{-1, -2, -greatest, greatest + 1, greatest + 2, 2 * greatest, 1 << 31, 1 << 32, 1<<32 + 5, 1<<63 - 1, -1 << 31, -1 << 32, -1 << 63}
}

// namesAround are the names that are there, their beginnings, what is a little longer, and their feeds, which are no names.
func namesAround(list []impl.Actor) []string {
	names := []string{"", "0", "a", "A", "zzzzzzzz", letters(9), "\xff", "@"}
	for _, a := range list {
		for till := 1; till < len(a.Name); till++ {
			names = append(names, a.Name[:till])
		}
		for _, end := range []string{"", "0", "1", "2", "3", "9", "a", "z", " ", "\x00"} {
			names = append(names, a.Name+end)
		}
		names = append(names, a.Feed, withByte(a.Name, len(a.Name)-1, '9'), withByte(a.Name, 0, 'A'))
	}
	return names
}

// checkActors checks all functions for valid actors, with names and words that are around them.
func checkActors(t *testing.T, list []impl.Actor) {
	t.Helper()
	checkValidActors(t, list)
	for _, name := range namesAround(list) {
		checkNamed(t, list, name)
		checkNameFor(t, list, name)
		checkAdd(t, list, impl.Actor{Name: name, Feed: "unheard", Sign: 5})
	}
}

func checkValidActors(t *testing.T, list []impl.Actor) {
	t.Helper()
	if !impl.ActorsValid(list) || !areActors(list) {
		t.Fatalf("%+v are valid", list)
	}
}

// checkValid compares with the other way of telling, and reports whether they are valid.
func checkValid(t *testing.T, list []impl.Actor) bool {
	t.Helper()
	valid := impl.ActorsValid(list)
	if valid != areActors(list) {
		t.Fatalf("ActorsValid(%+v) is %t", list, valid)
	}
	return valid
}

func checkNamed(t *testing.T, list []impl.Actor, name string) {
	t.Helper()
	got := impl.ActorNamed(list, name)
	if got != actorPlace(list, name) {
		t.Fatalf("ActorNamed(%+v, %q) is %d", list, name, got)
	}
	if got >= 0 && list[got].Name != name {
		t.Fatalf("ActorNamed(%+v, %q) is %d, which is %q", list, name, got, list[got].Name)
	}
}

// checkAdd compares with the other way of adding, and reports whether there is one more.
func checkAdd(t *testing.T, list []impl.Actor, a impl.Actor) bool {
	t.Helper()
	want := actorsWith(list, a)
	can := areActors(want)
	if !can {
		want = list
	}
	got, ok := impl.AddActor(list, a)
	if ok != can || !sameActors(got, want) {
		t.Fatalf("AddActor(%+v, %+v) is %+v, %t", list, a, got, ok)
	}
	if ok {
		checkAdded(t, list, a, got)
	}
	return ok
}

// checkAdded checks what is promised of an actor that was added.
func checkAdded(t *testing.T, list []impl.Actor, a impl.Actor, longer []impl.Actor) {
	t.Helper()
	checkValidActors(t, longer)
	place := impl.ActorNamed(longer, a.Name)
	if place < 0 || longer[place] != a {
		t.Fatalf("ActorNamed(%+v, %q) is %d after adding it to %+v", longer, a.Name, place, list)
	}
	if !sameActors(actorsWithout(longer, place), list) {
		t.Fatalf("without %+v %+v is not as before, which was %+v", a, longer, list)
	}
	for _, again := range []impl.Actor{a, {Name: a.Name, Feed: "again", Sign: a.Sign}, {Name: "again", Feed: a.Feed, Sign: a.Sign}} {
		if got, ok := impl.AddActor(longer, again); ok || !sameActors(got, longer) {
			t.Fatalf("AddActor(%+v, %+v) is %+v, %t", longer, again, got, ok)
		}
	}
}

func checkNameFor(t *testing.T, list []impl.Actor, word string) {
	t.Helper()
	got := impl.NameFor(list, word)
	if got != nameFor(list, word) {
		t.Fatalf("NameFor(%+v, %q) is %q", list, word, got)
	}
	if got == "" {
		return
	}
	if !isWord(got) || actorPlace(list, got) >= 0 {
		t.Fatalf("NameFor(%+v, %q) is %q, which is no word, or somebody's", list, word, got)
	}
	if impl.NameFor(list, got) != got {
		t.Fatalf("NameFor(%+v, %q) is %q, although nobody has it", list, got, impl.NameFor(list, got))
	}
}

// checkOtherActors is for actors that are not valid.
func checkOtherActors(t *testing.T, list []impl.Actor) {
	t.Helper()
	if impl.ActorsValid(list) || areActors(list) {
		t.Fatalf("%+v are not valid", list)
	}
	for _, name := range []string{"", "new", "unheard", "zzzzzzzz", "A"} {
		checkNothing(t, list, name)
	}
	for _, a := range list {
		checkNothing(t, list, a.Name)
	}
}

func checkNothing(t *testing.T, list []impl.Actor, name string) {
	t.Helper()
	if got := impl.ActorNamed(list, name); got != -1 {
		t.Fatalf("ActorNamed(%+v, %q) is %d", list, name, got)
	}
	if got := impl.NameFor(list, name); got != "" {
		t.Fatalf("NameFor(%+v, %q) is %q", list, name, got)
	}
	if got, ok := impl.AddActor(list, impl.Actor{Name: name, Feed: "unheard"}); ok || len(got) != 0 {
		t.Fatalf("AddActor(%+v, %q) is %+v, %t", list, name, got, ok)
	}
}

// smallLists are all lists of up to so many of some actors, in all orders, and with some of them more than once.
func smallLists(some []impl.Actor, most int) [][]impl.Actor {
	lists := [][]impl.Actor{{}}
	last := [][]impl.Actor{{}}
	for many := 1; many <= most; many++ {
		longer := [][]impl.Actor{}
		for _, list := range last {
			for _, a := range some {
				longer = append(longer, append(copyOfActors(list), a))
			}
		}
		lists = append(lists, longer...)
		last = longer
	}
	return lists
}

// smallActors are all actors of the names, the feeds and the signs.
func smallActors(names []string, feeds []string, signs []int) []impl.Actor {
	list := []impl.Actor{}
	for _, name := range names {
		for _, feed := range feeds {
			for _, sign := range signs {
				list = append(list, impl.Actor{Name: name, Feed: feed, Sign: sign})
			}
		}
	}
	return list
}

// P10: what the document describes, written out; the place is that by names, whatever else there is.
func TestP10KnownActors(t *testing.T) {
	news := impl.Actor{Name: "news", Feed: "f1"}
	art := impl.Actor{Name: "art", Feed: "f2", Sign: 7}
	film := impl.Actor{Name: "film", Feed: "a", Sign: greatest}
	tv := impl.Actor{Name: "tv", Feed: "f0", Sign: 7}
	list, ok := impl.AddActor(nil, news)
	if !ok || !sameActors(list, []impl.Actor{news}) {
		t.Fatalf("news alone is %+v, %t", list, ok)
	}
	list, ok = impl.AddActor(list, art)
	if !ok || !sameActors(list, []impl.Actor{art, news}) {
		t.Fatalf("with art it is %+v, %t", list, ok)
	}
	list, ok = impl.AddActor(list, tv)
	if !ok || !sameActors(list, []impl.Actor{art, news, tv}) {
		t.Fatalf("with tv it is %+v, %t", list, ok)
	}
	list, ok = impl.AddActor(list, film)
	if !ok || !sameActors(list, []impl.Actor{art, film, news, tv}) {
		t.Fatalf("with film it is %+v, %t", list, ok)
	}
	for _, a := range []impl.Actor{art, film, {Name: "news", Feed: "f3"}, {Name: "radio", Feed: "f1"}, {Name: "Radio", Feed: "f3"}, {Name: "radio", Feed: "F3"}, {Name: "radio", Feed: "f3", Sign: -1}} {
		if got, ok := impl.AddActor(list, a); ok || !sameActors(got, []impl.Actor{art, film, news, tv}) {
			t.Fatalf("with %+v it is %+v, %t", a, got, ok)
		}
	}
}

func TestP10SomeActors(t *testing.T) {
	for _, list := range someActors() {
		checkActors(t, list)
		for _, others := range someActors() {
			for _, a := range others {
				checkAdd(t, list, a)
			}
		}
	}
}

// P10, P65, P66 and P67: all small lists, most of them not valid, with every actor of them added; one of the names begins another.
func TestP10AllSmallLists(t *testing.T) {
	some := smallActors([]string{"b", "a", "a2", "A"}, []string{"f", "g", "b"}, []int{0})
	some = append(some, impl.Actor{Name: "a", Feed: "f", Sign: -1}, impl.Actor{Name: "b", Feed: "", Sign: 3})
	valid := 0
	for _, list := range smallLists(some, 3) {
		if !checkValid(t, list) {
			checkOtherActors(t, list)
			continue
		}
		valid++
		for _, a := range some {
			checkNamed(t, list, a.Name)
			checkNameFor(t, list, a.Name)
			checkAdd(t, list, a)
		}
	}
	// Of three names and three feeds, one each, two each, and three each: their choices, and the orders of the feeds.
	if want := 1 + 3*3 + 3*6 + 6; valid != want {
		t.Fatalf("%d small lists are valid, not %d", valid, want)
	}
}

// P10: at every place of actors of every length; of MaxActors none is one more.
func TestP10EveryPlace(t *testing.T) {
	for many := 0; many <= mostActors; many++ {
		for at := 0; at <= many; at++ {
			list := manyActors(many)
			if checkAdd(t, list, actorBetween(at)) != (many < mostActors) {
				t.Fatalf("one more at place %d of %d", at, many)
			}
			if got, ok := impl.AddActor(list, actorBetween(at)); ok && !sameActors(got, insertedActor(list, at, actorBetween(at))) {
				t.Fatalf("%+v is added at another place than %d: %+v", actorBetween(at), at, got)
			}
		}
	}
}

// P10: names and feeds that somebody has, whoever that is, and whoever asks.
func TestP10TakenNamesAndFeeds(t *testing.T) {
	for many := 1; many < mostActors; many++ {
		list := manyActors(many)
		for _, had := range list {
			for at := 0; at <= many; at++ {
				a := actorBetween(at)
				a.Feed = had.Feed
				if checkAdd(t, list, a) {
					t.Fatalf("the feed of %+v is had by %+v", a, list)
				}
			}
			for _, feed := range []string{"other", had.Feed, list[0].Feed, list[many-1].Feed} {
				if checkAdd(t, list, impl.Actor{Name: had.Name, Feed: feed, Sign: had.Sign}) || checkAdd(t, list, impl.Actor{Name: had.Name, Feed: feed, Sign: 999}) {
					t.Fatalf("the name %q is had by %+v", had.Name, list)
				}
			}
		}
	}
}

// P10: names and feeds are told apart from each other, and equal signs do not matter.
func TestP10FeedsAreNoNames(t *testing.T) {
	list := []impl.Actor{{Name: "a", Feed: "b", Sign: 5}, {Name: "c", Feed: "d", Sign: 5}}
	for _, a := range []impl.Actor{{Name: "b", Feed: "a", Sign: 5}, {Name: "d", Feed: "c", Sign: 5}, {Name: "b", Feed: "c"}, {Name: "d", Feed: "a"}, {Name: "e", Feed: "e", Sign: 5}} {
		if !checkAdd(t, list, a) {
			t.Fatalf("AddActor(%+v, %+v) is refused", list, a)
		}
	}
}

// P10: one that is not valid is not added, at no place and of no length.
func TestP10InvalidActors(t *testing.T) {
	for _, bad := range badActors() {
		for _, list := range someActors() {
			if checkAdd(t, list, bad) {
				t.Fatalf("AddActor(%+v, %+v) is accepted", list, bad)
			}
		}
	}
}

// P10: the limits of the number are those of a valid actor.
func TestP10Signs(t *testing.T) {
	for _, sign := range []int{0, 1, 5, greatest - 1, greatest} {
		for at := 0; at <= 3; at++ {
			a := actorBetween(at)
			a.Sign = sign
			if !checkAdd(t, manyActors(3), a) {
				t.Fatalf("%+v is refused", a)
			}
		}
	}
	for _, sign := range outsideSigns() {
		for at := 0; at <= 3; at++ {
			a := actorBetween(at)
			a.Sign = sign
			if checkAdd(t, manyActors(3), a) {
				t.Fatalf("%+v is added", a)
			}
		}
	}
}

// P10: in whatever order they are added, the actors are the same.
func TestP10EveryOrder(t *testing.T) {
	names := []string{"a", "a0", "aa", "b", letters(8), "z9"}
	want := actorsOfWords(names)
	for _, order := range ordersOf(names) {
		var list []impl.Actor
		for _, name := range order {
			longer, ok := impl.AddActor(list, want[actorPlace(want, name)])
			if !ok {
				t.Fatalf("AddActor(%+v, %q) is refused", list, name)
			}
			list = longer
		}
		if !sameActors(list, want) {
			t.Fatalf("added as %q they are %+v", order, list)
		}
	}
}

// P10: nothing is added to actors that are not valid, also if one more would bring nothing new, or would be right.
func TestP10OtherActors(t *testing.T) {
	for _, list := range [][]impl.Actor{
		{{Name: "b", Feed: "f"}, {Name: "a", Feed: "g"}},
		{{Name: "a", Feed: "f"}, {Name: "a", Feed: "g"}},
		{{Name: "a", Feed: "f"}, {Name: "b", Feed: "f"}},
		{{Name: "a", Feed: "f", Sign: -1}},
		{{Name: "a", Feed: "f", Sign: greatest + 1}},
		{{Name: "A", Feed: "f"}},
		{{Name: "a", Feed: "F"}},
		{{}},
		{{}, {}},
		manyActors(mostActors + 1),
		manyActors(1000),
	} {
		checkOtherActors(t, list)
		for _, a := range append(copyOfActors(list), impl.Actor{}, impl.Actor{Name: "a", Feed: "unheard"}, impl.Actor{Name: "zz", Feed: "zz"}) {
			if got, ok := impl.AddActor(list, a); ok || len(got) != 0 {
				t.Fatalf("AddActor(%+v, %+v) is %+v, %t", list, a, got, ok)
			}
		}
	}
}

// P10, P65, P66 and P67: arguments are not written to, not even behind their ends, and answers are new, also those beside false.
func TestP10ArgumentsStay(t *testing.T) {
	list := manyActors(mostActors)
	before := copyOfActors(list)
	for many := 0; many <= mostActors; many++ {
		for at := 0; at <= many; at++ {
			for _, a := range []impl.Actor{actorBetween(at), {}, {Name: "other", Feed: "f000"}, list[at%mostActors]} {
				impl.ActorsValid(list[:many])
				impl.ActorNamed(list[:many], a.Name)
				impl.NameFor(list[:many], a.Name)
				got, _ := impl.AddActor(list[:many], a)
				got = append(got, a, a, a)
				for k := range got {
					got[k] = impl.Actor{Name: "changed", Feed: "changed", Sign: -5}
				}
				if !sameActors(list, before) {
					t.Fatalf("%+v is changed to %+v", before, list)
				}
			}
		}
	}
}

// P10: two answers share nothing with each other.
func TestP10AnswersAreNew(t *testing.T) {
	list := manyActors(4)
	for _, a := range []impl.Actor{actorBetween(2), {}} {
		one, _ := impl.AddActor(list, a)
		two, _ := impl.AddActor(list, a)
		want := copyOfActors(two)
		one = append(one, a)
		for k := range one {
			one[k] = impl.Actor{}
		}
		if !sameActors(two, want) {
			t.Fatalf("%+v is changed to %+v", want, two)
		}
	}
}

// P10, P65, P66 and P67: nothing is kept from one call to the next.
func TestP10CallsAreAlike(t *testing.T) {
	for k := 0; k < 3; k++ {
		checkActors(t, manyActors(5))
		checkOtherActors(t, manyActors(mostActors+1))
		checkActors(t, nil)
		checkOtherActors(t, []impl.Actor{{}})
	}
}

// P65: with the first actor twice, at every place, they are not valid; without it they are.
func TestP65FirstActorTwice(t *testing.T) {
	for _, list := range someActors() {
		checkValidActors(t, list)
		if len(list) == 0 {
			continue
		}
		checkActors(t, list[1:])
		for at := 0; at <= len(list); at++ {
			checkOtherActors(t, insertedActor(list, at, list[0]))
		}
	}
}

// P65: with any actor twice, or only with its name, or only with its feed, they are not valid.
func TestP65AnyActorTwice(t *testing.T) {
	for many := 1; many < mostActors; many++ {
		list := manyActors(many)
		for k, a := range list {
			checkActors(t, actorsWithout(list, k))
			for at := 0; at <= many; at++ {
				checkOtherActors(t, insertedActor(list, at, a))
				checkOtherActors(t, insertedActor(list, at, impl.Actor{Name: a.Name, Feed: "other", Sign: 5}))
				checkOtherActors(t, insertedActor(list, at, impl.Actor{Name: actorBetween(at).Name, Feed: a.Feed, Sign: 5}))
			}
		}
	}
}

// P65: names ascend; every other order of actors is not valid.
func TestP65EveryOrder(t *testing.T) {
	names := []string{"a", "a0", "ab", "b", "b1"}
	list := actorsOf(names)
	valid := 0
	for _, order := range ordersOf(names) {
		other := []impl.Actor{}
		for _, name := range order {
			other = append(other, list[actorPlace(list, name)])
		}
		if checkValid(t, other) {
			valid++
		} else {
			checkOtherActors(t, other)
		}
	}
	if valid != 1 {
		t.Fatalf("%d orders are valid", valid)
	}
}

// P65: two names, to the last byte; a name that begins another one is the lesser one.
func TestP65EveryTwoNames(t *testing.T) {
	words := append(someWords(), "a1", "a10", "a2", "aaa", "abcdefg0", "abcdefg9", "abcdefga", "abcdefgz", "b0000000", "zzzzzzz")
	for _, one := range words {
		for _, two := range words {
			list := []impl.Actor{{Name: one, Feed: "f"}, {Name: two, Feed: "g"}}
			if checkValid(t, list) != keyBefore(one, two) {
				t.Fatalf("ActorsValid(%+v) is %t", list, !keyBefore(one, two))
			}
		}
	}
	for b := 0; b < allBytes; b++ {
		for c := 0; c < allBytes; c++ {
			one := string([]byte{'a', byte(b)})
			two := string([]byte{'a', byte(c)})
			valid := isWordByte(b) && isWordByte(c) && b < c
			if checkValid(t, []impl.Actor{{Name: one, Feed: "f"}, {Name: two, Feed: "g"}}) != valid {
				t.Fatalf("the names %q and %q", one, two)
			}
		}
	}
}

// P65: feeds are different to the last byte, but in no order, and what begins another one is a different one.
func TestP65EveryTwoFeeds(t *testing.T) {
	words := append(someWords(), "a1", "a10", "abcdefg0", "zzzzzzz")
	for _, one := range words {
		for _, two := range words {
			for _, between := range []int{0, 1, 6} {
				list := manyActors(between + 2)
				list[0].Feed = one
				list[between+1].Feed = two
				if checkValid(t, list) != (one != two) {
					t.Fatalf("ActorsValid(%+v) is %t", list, one == two)
				}
			}
		}
	}
}

// P65: every byte at every place of names and of feeds of every length.
func TestP65EveryByteOfWords(t *testing.T) {
	for many := 1; many <= 9; many++ {
		for at := 0; at < many; at++ {
			for b := 0; b < allBytes; b++ {
				word := withByte(letters(many), at, b)
				name := checkValid(t, []impl.Actor{{Name: word, Feed: "f"}})
				feed := checkValid(t, []impl.Actor{{Name: "a", Feed: word}})
				if name != isWord(word) || feed != isWord(word) {
					t.Fatalf("%q as a name is %t, and as a feed %t", word, name, feed)
				}
			}
		}
	}
}

// P65: the numbers of keys, at every place.
func TestP65Signs(t *testing.T) {
	for many := 1; many <= mostActors; many++ {
		for at := 0; at < many; at++ {
			for _, sign := range []int{0, 1, greatest - 1, greatest} {
				list := manyActors(many)
				list[at].Sign = sign
				checkValidActors(t, list)
			}
			for _, sign := range outsideSigns() {
				list := manyActors(many)
				list[at].Sign = sign
				checkOtherActors(t, list)
			}
		}
	}
}

// P65: one that is not valid, at every place of actors of every length.
func TestP65InvalidActors(t *testing.T) {
	for _, bad := range badActors() {
		for many := 1; many <= mostActors; many++ {
			for at := 0; at < many; at++ {
				list := manyActors(many)
				list[at] = bad
				checkOtherActors(t, list)
				// With a name that is in its place the feed or the number alone is wrong.
				if isWord(bad.Name) {
					list[at].Name = actorBetween(at).Name
					checkOtherActors(t, list)
				}
			}
		}
	}
}

// P65: names that are in their places, but no words.
func TestP65InvalidNamesInPlace(t *testing.T) {
	for _, end := range []string{" ", "\x00", "A", "@", "-", "~", "\x7f", "\xff", "\u00e9", "0000", letters(1000)} {
		for many := 1; many <= mostActors; many++ {
			for at := 0; at < many; at++ {
				list := manyActors(many)
				list[at].Name += end
				checkOtherActors(t, list)
			}
		}
	}
}

// P65: none and up to MaxActors are valid, more are not, however many.
func TestP65Lengths(t *testing.T) {
	for many := 0; many <= 40; many++ {
		list := manyActors(many)
		if many <= mostActors {
			checkValidActors(t, list)
		} else {
			checkOtherActors(t, list)
		}
	}
	checkOtherActors(t, manyActors(4000))
	checkOtherActors(t, make([]impl.Actor, 4000))
}

// P66: what the document describes, written out; numbers begin with 0.
func TestP66KnownNumbers(t *testing.T) {
	list := []impl.Actor{{Name: "art", Feed: "news", Sign: 3}, {Name: "arts", Feed: "art", Sign: 2}, {Name: "news", Feed: "radio", Sign: 1}, {Name: "tv", Feed: "arts"}}
	for k, a := range list {
		if got := impl.ActorNamed(list, a.Name); got != k {
			t.Fatalf("ActorNamed(%+v, %q) is %d", list, a.Name, got)
		}
	}
	for _, name := range []string{"", "a", "ar", "artsy", "b", "radio", "new", "newss", "tvs", "z", "0", "Art", "ART", " art", "art ", "@art", "\x00", "\xff", letters(100000)} {
		if got := impl.ActorNamed(list, name); got != -1 {
			t.Fatalf("ActorNamed(%+v, %q) is %d", list, name, got)
		}
	}
	if got := impl.ActorNamed(nil, "art"); got != -1 {
		t.Fatalf("ActorNamed among no actors is %d", got)
	}
}

// P66: all parts of eight actors, with all of their names, and names between them.
func TestP66PartsOfActors(t *testing.T) {
	full := manyActors(mostActors)
	for chosen := 0; chosen < 1<<mostActors; chosen++ {
		part := []impl.Actor{}
		for k := range full {
			if chosen>>k&1 == 1 {
				part = append(part, full[k])
			}
		}
		for at := 0; at <= mostActors; at++ {
			checkNamed(t, part, actorBetween(at).Name)
			checkNamed(t, part, "n"+digits(2*at+1, 4))
		}
		for _, a := range full {
			checkNamed(t, part, a.Feed)
		}
	}
}

// P66: actors that are not valid have no numbers, not even those before what is not valid.
func TestP66OtherActors(t *testing.T) {
	for many := 1; many <= mostActors; many++ {
		for at := 0; at < many; at++ {
			for _, bad := range []impl.Actor{{}, {Name: "zz"}, {Feed: "zz"}, {Name: "zz", Feed: "zz", Sign: -1}, {Name: "zz", Feed: "0"}} {
				list := manyActors(many)
				list[at] = bad
				for _, a := range list {
					if got := impl.ActorNamed(list, a.Name); got != -1 {
						t.Fatalf("ActorNamed(%+v, %q) is %d", list, a.Name, got)
					}
				}
			}
		}
	}
	for _, list := range [][]impl.Actor{manyActors(mostActors + 1), {{Name: "b", Feed: "f"}, {Name: "a", Feed: "g"}}, {{Name: "a", Feed: "f"}, {Name: "b", Feed: "f"}}} {
		for _, a := range list {
			if got := impl.ActorNamed(list, a.Name); got != -1 {
				t.Fatalf("ActorNamed(%+v, %q) is %d", list, a.Name, got)
			}
		}
	}
}

// P66: every byte at every place of a name that somebody has, and every byte after it and before it.
func TestP66EveryByte(t *testing.T) {
	for _, name := range []string{"a", "m5", "abcdefgh"} {
		list := actorsOfWords([]string{"a", "aa", "abcdefg", "abcdefgh", "b", "m5", "m6", "z"})
		for b := 0; b < allBytes; b++ {
			one := string([]byte{byte(b)})
			for at := 0; at <= len(name); at++ {
				checkNamed(t, list, name[:at]+one+name[at:])
				if at < len(name) {
					checkNamed(t, list, withByte(name, at, b))
				}
			}
		}
	}
}

// P67: what the document describes, written out.
func TestP67KnownNames(t *testing.T) {
	list := actorsOf([]string{"a", "abcdefg", "abcdefg2", "abcdefgh", "art", "art2", "art3", "tv2"})
	words := []string{"b", "a", "a2", "art", "art2", "art3", "art4", "tv", "tv2", "abcdef", "abcdefg", "abcdefg2", "abcdefg3", "abcdefgh", "abcdefgi", "abcdefg0"}
	names := []string{"b", "a2", "a2", "art4", "art22", "art32", "art4", "tv", "tv22", "abcdef", "abcdefg3", "abcdefg3", "abcdefg3", "abcdefg3", "abcdefgi", "abcdefg0"}
	for k, word := range words {
		if got := impl.NameFor(list, word); got != names[k] {
			t.Fatalf("NameFor(%+v, %q) is %q", list, word, got)
		}
	}
	if got := impl.NameFor(nil, "art"); got != "art" {
		t.Fatalf("NameFor among no actors is %q", got)
	}
}

// P67: a word that nobody has stays, of whatever length, and although it is a part of a name, or has one as its part.
func TestP67FreeWordsStay(t *testing.T) {
	for _, list := range someActors() {
		for _, word := range append(someWords(), namesAround(list)...) {
			if !isWord(word) || actorPlace(list, word) >= 0 {
				continue
			}
			if got := impl.NameFor(list, word); got != word {
				t.Fatalf("NameFor(%+v, %q) is %q", list, word, got)
			}
		}
	}
}

// P67: a word of every length that somebody has, with each part of the names with digits that others have.
func TestP67EveryDigit(t *testing.T) {
	for many := 1; many <= 8; many++ {
		word := letters(many)
		for chosen := 0; chosen < 1<<8; chosen++ {
			names := []string{word}
			for digit := 2; digit <= 9; digit++ {
				if chosen>>(digit-2)&1 == 1 {
					names = append(names, wordWithDigit(word, digit))
				}
			}
			list := actorsOfWords(names)
			if len(names) > mostActors {
				checkOtherActors(t, list)
				continue
			}
			checkValidActors(t, list)
			checkNameFor(t, list, word)
			if impl.NameFor(list, word) == "" {
				t.Fatalf("there is a name for %q among %+v", word, list)
			}
		}
	}
}

// P67: there is no name if a longest word ends with one of the digits, and all of them are taken; with any of them free it is that one.
func TestP67NoName(t *testing.T) {
	names := []string{}
	for digit := 2; digit <= 9; digit++ {
		names = append(names, "abcdefg"+digits(digit, 1))
	}
	full := actorsOf(names)
	for _, word := range names {
		if got := impl.NameFor(full, word); got != "" {
			t.Fatalf("NameFor(%+v, %q) is %q", full, word, got)
		}
	}
	for k, free := range names {
		list := actorsWithout(full, k)
		for _, word := range names {
			if got := impl.NameFor(list, word); got != free {
				t.Fatalf("NameFor(%+v, %q) is %q", list, word, got)
			}
		}
	}
	for _, word := range []string{"abcdefg", "abcdefg0", "abcdefg1", "abcdefgh", "abcdef"} {
		if got := impl.NameFor(full, word); got != word {
			t.Fatalf("NameFor(%+v, %q) is %q", full, word, got)
		}
	}
}

// P67: 0 and 1 are no digits for names, and neither are letters or two digits.
func TestP67OtherDigits(t *testing.T) {
	for _, names := range [][]string{{"x"}, {"x", "x0", "x1"}, {"x", "x10", "x12"}, {"x", "x22", "x3"}, {"x", "xa", "xb"}} {
		if got := impl.NameFor(actorsOf(names), "x"); got != "x2" {
			t.Fatalf("NameFor(%q, %q) is %q", names, "x", got)
		}
	}
	for _, end := range []string{"0", "1", "5", "9", "a", "z"} {
		word := "abcdefg" + end
		if got := impl.NameFor(actorsOf([]string{word}), word); got != "abcdefg2" {
			t.Fatalf("NameFor among %q is %q", word, got)
		}
		word = "abcdef" + end
		if got := impl.NameFor(actorsOf([]string{word}), word); got != word+"2" {
			t.Fatalf("NameFor among %q is %q", word, got)
		}
	}
}

// P67: by the same word all actors get names, one after the other, and then there is still one.
func TestP67NamesOneByOne(t *testing.T) {
	for _, word := range []string{"a", "x9", "a0b1c2", letters(7), letters(8), "abcdefg0", "abcdefg1", "abcdefg2", "abcdefg5", "abcdefg9"} {
		var list []impl.Actor
		for many := 0; many < mostActors; many++ {
			checkNameFor(t, list, word)
			name := impl.NameFor(list, word)
			longer, ok := impl.AddActor(list, impl.Actor{Name: name, Feed: "f" + digits(many, 2)})
			if !ok {
				t.Fatalf("%q cannot be added to %+v", name, list)
			}
			list = longer
		}
		checkNameFor(t, list, word)
		checkActors(t, list)
	}
}

// P67: all small lists, with all words of them; the names have the digits after each other.
func TestP67AllSmallNames(t *testing.T) {
	words := []string{"x", "x1", "x2", "x22", "x3", "x9", "xx", "y"}
	for chosen := 0; chosen < 1<<len(words); chosen++ {
		names := []string{}
		for k, word := range words {
			if chosen>>k&1 == 1 {
				names = append(names, word)
			}
		}
		list := actorsOf(names)
		checkValidActors(t, list)
		for _, word := range words {
			checkNameFor(t, list, word)
		}
	}
}

// P67: for what is no word there is no name, whoever is there.
func TestP67OtherWords(t *testing.T) {
	for _, bad := range badWords() {
		for _, list := range someActors() {
			if got := impl.NameFor(list, bad); got != "" {
				t.Fatalf("NameFor(%+v, %q) is %q", list, bad, got)
			}
		}
	}
	for many := 1; many <= 9; many++ {
		for at := 0; at < many; at++ {
			for b := 0; b < allBytes; b++ {
				word := withByte(letters(many), at, b)
				checkNameFor(t, nil, word)
				checkNameFor(t, actorsOf([]string{letters(8)}), word)
			}
		}
	}
}

// P67: among actors that are not valid there is no name, although the word is one that nobody has.
func TestP67OtherActors(t *testing.T) {
	for _, list := range [][]impl.Actor{{{}}, {{Name: "a", Feed: "f", Sign: -1}}, {{Name: "a", Feed: ""}}, {{Name: "b", Feed: "f"}, {Name: "a", Feed: "g"}}, {{Name: "a", Feed: "f"}, {Name: "b", Feed: "f"}}, manyActors(mostActors + 1)} {
		for _, word := range []string{"free", "a", "b", "n0001", letters(8)} {
			if got := impl.NameFor(list, word); got != "" {
				t.Fatalf("NameFor(%+v, %q) is %q", list, word, got)
			}
		}
	}
}
