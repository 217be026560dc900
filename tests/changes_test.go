package tests

import (
	"testing"

	"loop.example/feedbridge/impl"
)

// The parts of a feed, told apart by what another feed has in their place.
const (
	isNew = iota
	isChanged
	isAsBefore
)

// partOf searches from the end (placeOfItem), so that it does not share its way of searching with the program.
func partOf(before []impl.Item, i impl.Item) int {
	place := placeOfItem(before, i.Key)
	if place == -1 {
		return isNew
	}
	old := before[place]
	if old.Title == i.Title && old.Body == i.Body && old.Day == i.Day {
		return isAsBefore
	}
	return isChanged
}

func itemsOfPart(before []impl.Item, after []impl.Item, part int) []impl.Item {
	list := []impl.Item{}
	for _, i := range after {
		if partOf(before, i) == part {
			list = append(list, i)
		}
	}
	return list
}

func keysGone(before []impl.Item, after []impl.Item) []string {
	keys := []string{}
	for _, i := range before {
		if placeOfItem(after, i.Key) == -1 {
			keys = append(keys, i.Key)
		}
	}
	return keys
}

// mergedItems puts the items of the second feed into the first one, one by one, so that it does not share its way of merging with MergeFeeds.
func mergedItems(before []impl.Item, after []impl.Item) []impl.Item {
	list := copyOfItems(before)
	for _, i := range after {
		if place := placeOfItem(list, i.Key); place >= 0 {
			list[place] = i
		} else {
			list = append(list, i)
		}
	}
	if len(list) > mostItems {
		return nil
	}
	return list
}

func keysOf(list []impl.Item) []string {
	keys := []string{}
	for _, i := range list {
		keys = append(keys, i.Key)
	}
	return keys
}

func reversedItems(list []impl.Item) []impl.Item {
	reversed := []impl.Item{}
	for k := len(list) - 1; k >= 0; k-- {
		reversed = append(reversed, list[k])
	}
	return reversed
}

// itemsFrom are so many items with keys of the numbers from one on.
func itemsFrom(from int, many int, title string) []impl.Item {
	list := []impl.Item{}
	for k := from; k < from+many; k++ {
		list = append(list, impl.Item{Key: "k" + digits(k, 3), Title: title, Day: 5})
	}
	return list
}

// smallFeeds are all feeds of the keys, in all orders, with every item as one of the kinds, but for its key.
func smallFeeds(keys []string, kinds []impl.Item) [][]impl.Item {
	feeds := [][]impl.Item{{}}
	last := [][]impl.Item{{}}
	for range keys {
		longer := [][]impl.Item{}
		for _, list := range last {
			for _, key := range keys {
				if placeOfItem(list, key) >= 0 {
					continue
				}
				for _, i := range kinds {
					i.Key = key
					longer = append(longer, append(copyOfItems(list), i))
				}
			}
		}
		feeds = append(feeds, longer...)
		last = longer
	}
	return feeds
}

// otherItems have the key of an item, and differ from it in one part each, and in all other parts at once.
func otherItems(i impl.Item) []impl.Item {
	title, body, day := i, i, i
	title.Title += "?"
	if len(title.Title) > longest {
		title.Title = "other title"
	}
	body.Body += "?"
	if len(body.Body) > longest {
		body.Body = "other body"
	}
	day.Day = (i.Day + 1) % (lastDay + 1)
	return []impl.Item{title, body, day, {Key: i.Key, Title: title.Title, Body: body.Body, Day: day.Day}}
}

// checkChanges checks all functions for two valid feeds: what they return, and what is promised of it.
func checkChanges(t *testing.T, before []impl.Item, after []impl.Item) {
	t.Helper()
	checkNew(t, before, after)
	checkChanged(t, before, after)
	checkGone(t, before, after)
	checkMerged(t, before, after)
}

func checkBothWays(t *testing.T, one []impl.Item, two []impl.Item) {
	t.Helper()
	checkChanges(t, one, two)
	checkChanges(t, two, one)
}

func checkNew(t *testing.T, before []impl.Item, after []impl.Item) {
	t.Helper()
	got := impl.NewItems(before, after)
	if !sameItems(got, itemsOfPart(before, after, isNew)) {
		t.Fatalf("NewItems(%+v, %+v) is %+v", before, after, got)
	}
	for _, i := range got {
		if placeOfItem(before, i.Key) >= 0 || placeOfItem(after, i.Key) == -1 {
			t.Fatalf("NewItems(%+v, %+v) has the key %q", before, after, i.Key)
		}
	}
}

func checkChanged(t *testing.T, before []impl.Item, after []impl.Item) {
	t.Helper()
	got := impl.ChangedItems(before, after)
	if !sameItems(got, itemsOfPart(before, after, isChanged)) {
		t.Fatalf("ChangedItems(%+v, %+v) is %+v", before, after, got)
	}
	for _, i := range got {
		place := placeOfItem(before, i.Key)
		if place == -1 || before[place] == i {
			t.Fatalf("ChangedItems(%+v, %+v) has %+v", before, after, i)
		}
	}
	same := itemsOfPart(before, after, isAsBefore)
	if len(impl.NewItems(before, after))+len(got)+len(same) != len(after) {
		t.Fatalf("not all items of %+v are new, changed, or as in %+v", after, before)
	}
}

func checkGone(t *testing.T, before []impl.Item, after []impl.Item) {
	t.Helper()
	got := impl.GoneKeys(before, after)
	if !sameLines(got, keysGone(before, after)) || !sameLines(got, keysOf(impl.NewItems(after, before))) {
		t.Fatalf("GoneKeys(%+v, %+v) are %q", before, after, got)
	}
}

func checkMerged(t *testing.T, before []impl.Item, after []impl.Item) {
	t.Helper()
	got := impl.MergeFeeds(before, after)
	want := mergedItems(before, after)
	if !sameItems(got, want) {
		t.Fatalf("MergeFeeds(%+v, %+v) is %+v, not %+v", before, after, got, want)
	}
	// Too many items are not merged, and then nothing is promised.
	if len(got) == 0 {
		return
	}
	if !impl.FeedValid(got) {
		t.Fatalf("MergeFeeds(%+v, %+v) is %+v, which is no feed", before, after, got)
	}
	if len(impl.NewItems(got, after)) != 0 || len(impl.ChangedItems(got, after)) != 0 {
		t.Fatalf("MergeFeeds(%+v, %+v) is %+v, and something of the second one is new or changed then", before, after, got)
	}
	if len(impl.GoneKeys(before, got)) != 0 {
		t.Fatalf("MergeFeeds(%+v, %+v) is %+v, and a key of the first one is gone", before, after, got)
	}
}

// checkNoChanges is for arguments of which one or both are no feed.
func checkNoChanges(t *testing.T, before []impl.Item, after []impl.Item) {
	t.Helper()
	if got := impl.NewItems(before, after); len(got) != 0 {
		t.Fatalf("NewItems(%+v, %+v) is %+v", before, after, got)
	}
	if got := impl.ChangedItems(before, after); len(got) != 0 {
		t.Fatalf("ChangedItems(%+v, %+v) is %+v", before, after, got)
	}
	if got := impl.GoneKeys(before, after); len(got) != 0 {
		t.Fatalf("GoneKeys(%+v, %+v) are %q", before, after, got)
	}
	if got := impl.MergeFeeds(before, after); len(got) != 0 {
		t.Fatalf("MergeFeeds(%+v, %+v) is %+v", before, after, got)
	}
}

// checkOtherFeed takes items that are no feed, and puts them beside feeds, and beside themselves.
func checkOtherFeed(t *testing.T, bad []impl.Item) {
	t.Helper()
	good := []impl.Item{{Key: "k000", Title: "other", Day: 7}, {Key: "good", Title: "t"}}
	for _, list := range [][]impl.Item{nil, good, good[1:], manyItems(mostItems), bad} {
		checkNoChanges(t, bad, list)
		checkNoChanges(t, list, bad)
	}
}

// P6: what is merged is sorted without a loss, and the order of feeds does not matter for what is new, changed or gone.
func TestP6SortedFeedsHaveNoChanges(t *testing.T) {
	for _, one := range someFeeds() {
		sorted := impl.SortFeed(one)
		if len(impl.NewItems(one, sorted)) != 0 || len(impl.ChangedItems(one, sorted)) != 0 || len(impl.GoneKeys(one, sorted)) != 0 {
			t.Fatalf("SortFeed(%+v) is %+v", one, sorted)
		}
		if got := impl.MergeFeeds(one, sorted); !sameItems(got, one) {
			t.Fatalf("MergeFeeds(%+v, %+v) is %+v", one, sorted, got)
		}
		for _, two := range someFeeds() {
			checkSorted(t, impl.MergeFeeds(one, two))
			if !sameItems(impl.NewItems(sorted, two), impl.NewItems(one, two)) || !sameItems(impl.ChangedItems(sorted, two), impl.ChangedItems(one, two)) {
				t.Fatalf("%+v and %+v do not have the same new and changed items for %+v", one, sorted, two)
			}
			if !sameLines(impl.GoneKeys(two, sorted), impl.GoneKeys(two, one)) {
				t.Fatalf("not the same keys of %+v are gone for %+v and %+v", two, one, sorted)
			}
		}
	}
}

// P8: what the document describes, written out.
func TestP8KnownFeeds(t *testing.T) {
	before := []impl.Item{{Key: "a", Title: "1", Day: 5}, {Key: "b", Title: "2", Day: 9}, {Key: "c", Title: "3", Day: 7}}
	after := []impl.Item{{Key: "e", Title: "6", Day: 1}, {Key: "c", Title: "3", Body: "x", Day: 7}, {Key: "d", Title: "5", Day: 99}, {Key: "a", Title: "1", Day: 5}}
	want := []impl.Item{{Key: "a", Title: "1", Day: 5}, {Key: "b", Title: "2", Day: 9}, {Key: "c", Title: "3", Body: "x", Day: 7}, {Key: "e", Title: "6", Day: 1}, {Key: "d", Title: "5", Day: 99}}
	if got := impl.MergeFeeds(before, after); !sameItems(got, want) {
		t.Fatalf("MergeFeeds(%+v, %+v) is %+v", before, after, got)
	}
	// The other way round other items stay, in another order.
	want = []impl.Item{{Key: "e", Title: "6", Day: 1}, {Key: "c", Title: "3", Day: 7}, {Key: "d", Title: "5", Day: 99}, {Key: "a", Title: "1", Day: 5}, {Key: "b", Title: "2", Day: 9}}
	if got := impl.MergeFeeds(after, before); !sameItems(got, want) {
		t.Fatalf("MergeFeeds(%+v, %+v) is %+v", after, before, got)
	}
	checkBothWays(t, before, after)
}

// P8, P59, P60 and P61: all pairs of small feeds; the kinds have parts in common, and one of the keys begins another one.
func TestP8AllSmallFeeds(t *testing.T) {
	kinds := []impl.Item{{Title: "t", Body: "t", Day: 5}, {Title: "u", Body: "t", Day: 5}, {Title: "t", Body: "u", Day: 6}}
	feeds := smallFeeds([]string{"b", "a", "aa"}, kinds)
	for _, before := range feeds {
		for _, after := range feeds {
			checkChanges(t, before, after)
		}
	}
}

// P8, P59, P60 and P61: all pairs of some feeds, and of their parts with some other items.
func TestP8SomeFeeds(t *testing.T) {
	for _, one := range someFeeds() {
		for _, two := range someFeeds() {
			checkChanges(t, one, two)
			checkChanges(t, one, reversedItems(two))
		}
		for k := range one {
			rest := append(copyOfItems(one[:k]), one[k+1:]...)
			checkBothWays(t, one, rest)
			checkBothWays(t, one, append([]impl.Item{one[k]}, rest...))
			checkBothWays(t, reversedItems(one), rest)
			checkBothWays(t, one[:k], one[k:])
			for _, other := range otherItems(one[k]) {
				checkBothWays(t, one, append(copyOfItems(rest), other))
			}
		}
	}
}

// P8: with itself a feed is merged to itself, in its order; with no items it stays.
func TestP8SameFeed(t *testing.T) {
	for _, list := range someFeeds() {
		for _, other := range [][]impl.Item{list, reversedItems(list), nil, {}} {
			if got := impl.MergeFeeds(list, other); !sameItems(got, list) {
				t.Fatalf("MergeFeeds(%+v, %+v) is %+v", list, other, got)
			}
		}
		if got := impl.MergeFeeds(nil, list); !sameItems(got, list) {
			t.Fatalf("MergeFeeds of no items and %+v is %+v", list, got)
		}
		checkBothWays(t, list, nil)
	}
}

// P8: feeds of all lengths with all numbers of keys in common; MaxItems is the most.
func TestP8Lengths(t *testing.T) {
	for one := 0; one <= mostItems; one++ {
		for two := 0; two <= mostItems; two++ {
			for common := 0; common <= one && common <= two; common++ {
				before := itemsFrom(0, one, "t")
				after := itemsFrom(one-common, two, "u")
				all := one + two - common
				want := all
				if all > mostItems {
					want = 0
				}
				for _, later := range [][]impl.Item{after, reversedItems(after)} {
					if got := impl.MergeFeeds(before, later); len(got) != want {
						t.Fatalf("MergeFeeds(%+v, %+v) is %+v", before, later, got)
					}
					checkBothWays(t, before, later)
				}
			}
		}
	}
}

// P8: a full feed has room for other items of its keys, but not for one key more, wherever that is.
func TestP8FullFeeds(t *testing.T) {
	full := manyItems(mostItems)
	other := itemsFrom(0, mostItems, "other")
	if got := impl.MergeFeeds(full, other); !sameItems(got, other) {
		t.Fatalf("MergeFeeds(%+v, %+v) is %+v", full, other, got)
	}
	more := impl.Item{Key: "more", Title: "t"}
	for many := 0; many < mostItems; many++ {
		for place := 0; place <= many; place++ {
			after := append(append(copyOfItems(other[:place]), more), other[place:many]...)
			if got := impl.MergeFeeds(full, after); len(got) != 0 {
				t.Fatalf("MergeFeeds(%+v, %+v) is %+v", full, after, got)
			}
			if got := impl.MergeFeeds(after, full); len(got) != 0 {
				t.Fatalf("MergeFeeds(%+v, %+v) is %+v", after, full, got)
			}
			checkBothWays(t, full, after)
		}
	}
}

// P8 and P59: an item that was gone comes back, at every place, as it was and as another one.
func TestP8ItemsThatComeBack(t *testing.T) {
	for _, first := range someFeeds() {
		for k, i := range first {
			second := append(copyOfItems(first[:k]), first[k+1:]...)
			merged := impl.MergeFeeds(first, second)
			if !sameItems(merged, first) {
				t.Fatalf("MergeFeeds(%+v, %+v) is %+v", first, second, merged)
			}
			for place := 0; place <= len(second); place++ {
				checkComesBack(t, merged, second, i, place)
				for _, other := range otherItems(i) {
					checkComesBack(t, merged, second, other, place)
				}
			}
		}
	}
}

// checkComesBack lets an item come back at a place of a feed, which had it earlier, and still has it where it is merged.
func checkComesBack(t *testing.T, merged []impl.Item, second []impl.Item, i impl.Item, place int) {
	t.Helper()
	third := append(append(copyOfItems(second[:place]), i), second[place:]...)
	if got := impl.NewItems(second, third); !sameItems(got, []impl.Item{i}) {
		t.Fatalf("NewItems(%+v, %+v) is %+v", second, third, got)
	}
	if got := impl.ChangedItems(second, third); len(got) != 0 {
		t.Fatalf("ChangedItems(%+v, %+v) is %+v", second, third, got)
	}
	if got := impl.NewItems(merged, third); len(got) != 0 {
		t.Fatalf("NewItems(%+v, %+v) is %+v", merged, third, got)
	}
	want := []impl.Item{i}
	at := placeOfItem(merged, i.Key)
	if merged[at] == i {
		want = nil
	}
	if got := impl.ChangedItems(merged, third); !sameItems(got, want) {
		t.Fatalf("ChangedItems(%+v, %+v) is %+v", merged, third, got)
	}
	// It stays where it was, although it was away, and comes back elsewhere.
	back := copyOfItems(merged)
	back[at] = i
	if got := impl.MergeFeeds(merged, third); !sameItems(got, back) {
		t.Fatalf("MergeFeeds(%+v, %+v) is %+v", merged, third, got)
	}
	checkBothWays(t, second, third)
	checkBothWays(t, merged, third)
}

// P8, P59, P60 and P61: arguments stay as they are, also what is behind their ends.
func TestP8ArgumentsStay(t *testing.T) {
	one := append(itemsFrom(0, 4, "t"), manyItems(mostItems)...)
	two := append(itemsFrom(2, 4, "u"), manyItems(mostItems)...)
	oneBefore := copyOfItems(one)
	twoBefore := copyOfItems(two)
	for k := 0; k <= 4; k++ {
		for m := 0; m <= 4; m++ {
			impl.NewItems(one[:k], two[:m])
			impl.ChangedItems(one[:k], two[:m])
			impl.GoneKeys(one[:k], two[:m])
			impl.MergeFeeds(one[:k], two[:m])
			if !sameItems(one, oneBefore) || !sameItems(two, twoBefore) {
				t.Fatalf("%+v and %+v are changed to %+v and %+v", oneBefore, twoBefore, one, two)
			}
		}
	}
}

// P8, P59, P60 and P61: answers are new, also where they are the same as an argument, or as one of its ends.
func TestP8AnswersAreNew(t *testing.T) {
	list := manyItems(mostItems)
	other := itemsFrom(0, mostItems, "other")
	before := copyOfItems(list)
	otherBefore := copyOfItems(other)
	for k := 0; k <= mostItems; k++ {
		answers := [][]impl.Item{
			impl.NewItems(nil, list[:k]),
			impl.NewItems(list[:k], list),
			impl.ChangedItems(other, list[:k]),
			impl.ChangedItems(other[:k], list),
			impl.MergeFeeds(list[:k], nil),
			impl.MergeFeeds(nil, list[:k]),
			impl.MergeFeeds(list[:k], list),
			impl.MergeFeeds(other, list[:k]),
			impl.MergeFeeds(list[:k], list[k:]),
		}
		for _, answer := range answers {
			answer = append(answer, otherBefore...)
			for m := range answer {
				answer[m].Key = "changed"
			}
			if !sameItems(list, before) || !sameItems(other, otherBefore) {
				t.Fatalf("%+v and %+v are changed to %+v and %+v", before, otherBefore, list, other)
			}
		}
		keys := append(impl.GoneKeys(list, list[:k]), "more")
		keys[0] = "changed"
		if got := impl.GoneKeys(list, list[:k]); !sameLines(got, keysOf(before[k:])) {
			t.Fatalf("GoneKeys(%+v, %+v) are %q", list, list[:k], got)
		}
	}
}

// P8, P59, P60 and P61: nothing is kept from one call to the next.
func TestP8CallsAreAlike(t *testing.T) {
	before := itemsFrom(0, 5, "t")
	after := itemsFrom(3, 5, "u")
	for k := 0; k < 3; k++ {
		checkBothWays(t, before, after)
		checkNoChanges(t, before, []impl.Item{{}})
	}
}

// P59: what the document describes, written out; the order is that of the second feed.
func TestP59KnownItems(t *testing.T) {
	before := []impl.Item{{Key: "b", Title: "t", Day: 5}, {Key: "d", Title: "t", Day: 5}}
	after := []impl.Item{{Key: "e", Title: "1", Day: 1}, {Key: "d", Title: "t", Day: 5}, {Key: "a", Title: "2", Day: 9}, {Key: "b", Title: "u"}, {Key: "c", Title: "3", Body: "x"}}
	want := []impl.Item{{Key: "e", Title: "1", Day: 1}, {Key: "a", Title: "2", Day: 9}, {Key: "c", Title: "3", Body: "x"}}
	if got := impl.NewItems(before, after); !sameItems(got, want) {
		t.Fatalf("NewItems(%+v, %+v) is %+v", before, after, got)
	}
	if got := impl.NewItems(nil, after); !sameItems(got, after) {
		t.Fatalf("NewItems of no items and %+v is %+v", after, got)
	}
	checkBothWays(t, before, after)
}

// P59, P60 and P61: in a feed and itself nothing is new, changed or gone, whatever the order.
func TestP59NothingIsNew(t *testing.T) {
	for _, list := range append(someFeeds(), nil) {
		for _, other := range [][]impl.Item{list, copyOfItems(list), reversedItems(list)} {
			if got := impl.NewItems(list, other); len(got) != 0 {
				t.Fatalf("NewItems(%+v, %+v) is %+v", list, other, got)
			}
			if got := impl.ChangedItems(list, other); len(got) != 0 {
				t.Fatalf("ChangedItems(%+v, %+v) is %+v", list, other, got)
			}
			if got := impl.GoneKeys(list, other); len(got) != 0 {
				t.Fatalf("GoneKeys(%+v, %+v) are %q", list, other, got)
			}
			checkBothWays(t, list, other)
		}
	}
}

// P59: keys alone decide, to the last byte.
func TestP59PairsOfKeys(t *testing.T) {
	words := []string{"a", "b", "ab", "ba", "a0", "a1", "a01", "a10", letters(7), letters(8), letters(7) + "b", "b" + letters(7)}
	for _, one := range words {
		for _, two := range words {
			before := []impl.Item{{Key: one, Title: "t", Day: 5}}
			after := []impl.Item{{Key: two, Title: "t", Day: 5}}
			want := 1
			if one == two {
				want = 0
			}
			if got := impl.NewItems(before, after); len(got) != want {
				t.Fatalf("NewItems(%+v, %+v) is %+v", before, after, got)
			}
			checkChanges(t, before, after)
			after[0].Title = two
			checkChanges(t, before, after)
		}
	}
}

// P60: what the document describes, written out; the items are those of the second feed, in its order.
func TestP60KnownItems(t *testing.T) {
	before := []impl.Item{{Key: "a", Title: "t", Day: 5}, {Key: "b", Title: "t", Day: 5}, {Key: "c", Title: "t", Day: 5}, {Key: "d", Title: "t", Day: 5}}
	after := []impl.Item{{Key: "e", Title: "t", Day: 5}, {Key: "d", Title: "u", Day: 5}, {Key: "b", Title: "t", Day: 5}, {Key: "c", Title: "t", Body: "x", Day: 5}, {Key: "a", Title: "t", Day: 4}}
	want := []impl.Item{after[1], after[3], after[4]}
	if got := impl.ChangedItems(before, after); !sameItems(got, want) {
		t.Fatalf("ChangedItems(%+v, %+v) is %+v", before, after, got)
	}
	want = []impl.Item{before[0], before[2], before[3]}
	if got := impl.ChangedItems(after, before); !sameItems(got, want) {
		t.Fatalf("ChangedItems(%+v, %+v) is %+v", after, before, got)
	}
	checkBothWays(t, before, after)
}

// P60: an item is another one by its title, its body or its day alone, at every place.
func TestP60EveryPart(t *testing.T) {
	for _, list := range someFeeds() {
		for k, i := range list {
			for _, other := range otherItems(i) {
				after := copyOfItems(list)
				after[k] = other
				if got := impl.ChangedItems(list, after); !sameItems(got, []impl.Item{other}) {
					t.Fatalf("ChangedItems(%+v, %+v) is %+v", list, after, got)
				}
				if got := impl.ChangedItems(after, list); !sameItems(got, []impl.Item{i}) {
					t.Fatalf("ChangedItems(%+v, %+v) is %+v", after, list, got)
				}
				checkBothWays(t, list, after)
				checkBothWays(t, list, reversedItems(after))
			}
		}
	}
}

// P60: one byte of a title or a body makes another item, and so do exchanged ones.
func TestP60EveryByte(t *testing.T) {
	for b := firstByte; b <= lastByte; b++ {
		for other := firstByte; other <= lastByte; other++ {
			one := impl.Item{Key: "a", Title: string([]byte{byte(b)}), Body: string([]byte{byte(other)}), Day: 5}
			two := impl.Item{Key: "a", Title: one.Body, Body: one.Title, Day: 5}
			three := impl.Item{Key: "a", Title: one.Title, Body: one.Title, Day: 5}
			checkBothWays(t, []impl.Item{one}, []impl.Item{two})
			checkBothWays(t, []impl.Item{one}, []impl.Item{three})
		}
	}
}

// P60: the last byte of the longest texts, and days far from each other.
func TestP60LongTexts(t *testing.T) {
	text := letters(longest)
	one := impl.Item{Key: letters(8), Title: text, Body: text, Day: lastDay}
	for _, two := range []impl.Item{
		{Key: letters(8), Title: text[:longest-1] + "?", Body: text, Day: lastDay},
		{Key: letters(8), Title: text, Body: text[:longest-1] + "?", Day: lastDay},
		{Key: letters(8), Title: text[:longest-1], Body: text, Day: lastDay},
		{Key: letters(8), Title: text, Body: text[:longest-1], Day: lastDay},
		{Key: letters(8), Title: text, Day: lastDay},
		{Key: letters(8), Title: text, Body: text},
	} {
		if got := impl.ChangedItems([]impl.Item{one}, []impl.Item{two}); !sameItems(got, []impl.Item{two}) {
			t.Fatalf("ChangedItems of %+v and %+v is %+v", one, two, got)
		}
		checkBothWays(t, []impl.Item{one}, []impl.Item{two})
	}
}

// P60: a title and a body that are split elsewhere, although one after the other they are the same text.
func TestP60SplitTexts(t *testing.T) {
	text := "abc key day"
	for one := 1; one <= len(text); one++ {
		for two := 1; two <= len(text); two++ {
			before := []impl.Item{{Key: "a", Title: text[:one], Body: text[one:], Day: 5}}
			after := []impl.Item{{Key: "a", Title: text[:two], Body: text[two:], Day: 5}}
			want := 1
			if one == two {
				want = 0
			}
			if got := impl.ChangedItems(before, after); len(got) != want {
				t.Fatalf("ChangedItems(%+v, %+v) is %+v", before, after, got)
			}
			checkChanges(t, before, after)
		}
	}
}

// P61: what the document describes, written out; the order is that of the first feed.
func TestP61KnownKeys(t *testing.T) {
	before := []impl.Item{{Key: "e", Title: "t"}, {Key: "a", Title: "t"}, {Key: "d", Title: "t"}, {Key: "b", Title: "t"}}
	after := []impl.Item{{Key: "c", Title: "t"}, {Key: "a", Title: "u"}}
	if got := impl.GoneKeys(before, after); !sameLines(got, []string{"e", "d", "b"}) {
		t.Fatalf("GoneKeys(%+v, %+v) are %q", before, after, got)
	}
	if got := impl.GoneKeys(after, before); !sameLines(got, []string{"c"}) {
		t.Fatalf("GoneKeys(%+v, %+v) are %q", after, before, got)
	}
	if got := impl.GoneKeys(before, nil); !sameLines(got, []string{"e", "a", "d", "b"}) {
		t.Fatalf("GoneKeys(%+v, nil) are %q", before, got)
	}
	if got := impl.GoneKeys(nil, before); len(got) != 0 {
		t.Fatalf("GoneKeys(nil, %+v) are %q", before, got)
	}
}

// P61: all parts of a full feed, with other items in its place.
func TestP61PartsOfFeeds(t *testing.T) {
	full := manyItems(mostItems)
	for chosen := 0; chosen < 1<<mostItems; chosen++ {
		part := []impl.Item{}
		for k := range full {
			if chosen>>k&1 == 1 {
				part = append(part, impl.Item{Key: full[k].Key, Title: "u", Day: k})
			}
		}
		if got := impl.GoneKeys(full, part); len(got)+len(part) != mostItems {
			t.Fatalf("GoneKeys(%+v, %+v) are %q", full, part, got)
		}
		checkBothWays(t, full, part)
		checkBothWays(t, full, reversedItems(part))
	}
}

// P8, P59, P60 and P61: one item that is not valid, at every place of the first feed, of the second one, and of both.
func TestP61InvalidItems(t *testing.T) {
	for _, bad := range badItems() {
		for many := 1; many <= mostItems; many++ {
			for at := 0; at < many; at++ {
				list := itemsFrom(1, many, "t")
				list[at] = bad
				checkOtherFeed(t, list)
			}
		}
	}
}

// P8, P59, P60 and P61: a key that comes twice, as the same item and as another one.
func TestP61KeysThatComeTwice(t *testing.T) {
	for many := 2; many <= mostItems; many++ {
		for one := 0; one < many; one++ {
			for two := one + 1; two < many; two++ {
				list := manyItems(many)
				list[two].Key = list[one].Key
				checkOtherFeed(t, list)
				list[two].Title = "u"
				checkOtherFeed(t, list)
			}
		}
	}
}

// P8, P59, P60 and P61: more than MaxItems items, also if there would be few to return.
func TestP61ManyItems(t *testing.T) {
	for many := mostItems + 1; many <= 40; many++ {
		checkOtherFeed(t, manyItems(many))
	}
	checkOtherFeed(t, manyItems(1000))
}
