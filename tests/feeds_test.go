package tests

import (
	"testing"

	"loop.example/feedbridge/impl"
)

const mostItems = 8

func sameItems(a []impl.Item, b []impl.Item) bool {
	if len(a) != len(b) {
		return false
	}
	for k := range a {
		if a[k] != b[k] {
			return false
		}
	}
	return true
}

func copyOfItems(list []impl.Item) []impl.Item {
	return append([]impl.Item{}, list...)
}

// itemsOfKeys are valid if the keys are different words.
func itemsOfKeys(keys []string, day int) []impl.Item {
	list := []impl.Item{}
	for _, key := range keys {
		list = append(list, impl.Item{Key: key, Title: "t", Day: day})
	}
	return list
}

// manyItems are so many items of different keys, all else the same.
func manyItems(many int) []impl.Item {
	list := []impl.Item{}
	for k := 0; k < many; k++ {
		list = append(list, impl.Item{Key: "k" + digits(k, 3), Title: "t", Day: 5})
	}
	return list
}

// keyBefore compares byte by byte, so that it does not share its way of comparing with SortFeed.
func keyBefore(a string, b string) bool {
	for k := 0; k < len(a) && k < len(b); k++ {
		if a[k] != b[k] {
			return a[k] < b[k]
		}
	}
	return len(a) < len(b)
}

func itemBefore(a impl.Item, b impl.Item) bool {
	return a.Day > b.Day || a.Day == b.Day && keyBefore(a.Key, b.Key)
}

// sortedItems puts every item where as many stand before it as are before it, so that it does not share its way of sorting with SortFeed.
func sortedItems(list []impl.Item) []impl.Item {
	sorted := make([]impl.Item, len(list))
	for _, i := range list {
		place := 0
		for _, other := range list {
			if itemBefore(other, i) {
				place++
			}
		}
		sorted[place] = i
	}
	return sorted
}

// feedIn reads all lines before it looks at keys, so that it does not share its way of reading with ReadFeed.
func feedIn(lines []string) ([]impl.Item, int) {
	all := []impl.Item{}
	for _, line := range lines {
		if i, ok := itemIn(line); ok {
			all = append(all, i)
		}
	}
	list := []impl.Item{}
	for k := range all {
		if placeOfItem(all, all[k].Key) == k {
			list = append(list, all[k])
		}
	}
	if len(list) > mostItems {
		return nil, -1
	}
	return list, len(lines) - len(all)
}

// placeOfItem is that of the first item with a key; it searches from the end.
func placeOfItem(list []impl.Item, key string) int {
	place := -1
	for k := len(list) - 1; k >= 0; k-- {
		if list[k].Key == key {
			place = k
		}
	}
	return place
}

// someFeeds are valid ones; some of their keys begin others, and some of their items differ in one part alone.
func someFeeds() [][]impl.Item {
	return [][]impl.Item{
		{},
		{{Key: "a", Title: "t"}},
		{{Key: "key", Title: "key", Body: "</key>", Day: lastDay}},
		{{Key: "b", Title: "t", Day: 5}, {Key: "c", Title: "t", Day: 9}, {Key: "a", Title: "t", Day: 5}},
		{{Key: "a", Title: "t"}, {Key: "b", Title: "t"}},
		{{Key: "b", Title: "t", Day: 730178}, {Key: "a", Title: "t", Day: 730178}},
		{{Key: "a", Title: "1", Body: "x", Day: 0}, {Key: "b", Title: "1", Body: "x", Day: lastDay}, {Key: "c", Title: "1", Body: "x", Day: 1}},
		{{Key: "z", Title: "a", Body: "a", Day: 7}, {Key: "y", Title: "b", Body: "b", Day: 7}, {Key: "x", Title: "c", Body: "c", Day: 7}, {Key: "w", Title: "d", Body: "d", Day: 8}},
		itemsOfKeys([]string{"ab", "a", "a10", "b", "a1", "aa", "a2", letters(8)}, 719162),
		itemsOfKeys([]string{"day", "body", "title", "key", "link"}, 0),
		{{Key: "d", Title: "t", Day: 1}, {Key: "c", Title: "t", Day: 2}, {Key: "b", Title: "t", Day: 3}, {Key: "a", Title: "t", Day: 4}},
		{{Key: letters(8), Title: repeated("\"", longest), Body: repeated("&", longest), Day: lastDay}, {Key: letters(7), Title: letters(longest), Body: letters(longest)}, {Key: letters(6), Title: " ", Body: " "}},
		manyItems(mostItems),
	}
}

// badItems are not valid for one reason each, but for the zero value; all of them with a key have the key k000.
func badItems() []impl.Item {
	return []impl.Item{
		{},
		{Title: "t", Day: 5},
		{Key: "K000", Title: "t", Day: 5},
		{Key: "0k", Title: "t", Day: 5},
		{Key: "k 0", Title: "t", Day: 5},
		{Key: letters(9), Title: "t", Day: 5},
		{Key: "k000", Day: 5},
		{Key: "k000", Title: "\n", Day: 5},
		{Key: "k000", Title: letters(longest + 1), Day: 5},
		{Key: "k000", Title: "t", Body: "\x7f", Day: 5},
		{Key: "k000", Title: "t", Body: letters(longest + 1), Day: 5},
		{Key: "k000", Title: "t", Day: -1},
		{Key: "k000", Title: "t", Day: lastDay + 1},
	}
}

func linesOf(list []impl.Item) []string {
	lines := []string{}
	for _, i := range list {
		lines = append(lines, impl.ItemText(i))
	}
	return lines
}

func sameLines(a []string, b []string) bool {
	if len(a) != len(b) {
		return false
	}
	for k := range a {
		if a[k] != b[k] {
			return false
		}
	}
	return true
}

// checkFeed checks all functions for a valid feed.
func checkFeed(t *testing.T, list []impl.Item) {
	t.Helper()
	if !impl.FeedValid(list) {
		t.Fatalf("%+v are a feed", list)
	}
	checkSorted(t, list)
	checkLines(t, list)
	for _, i := range list {
		checkWith(t, list, i.Key)
		checkWith(t, list, i.Key+"0")
	}
	checkWith(t, list, "")
}

func checkSorted(t *testing.T, list []impl.Item) {
	t.Helper()
	want := sortedItems(list)
	if got := impl.SortFeed(list); !sameItems(got, want) {
		t.Fatalf("SortFeed(%+v) is %+v", list, got)
	}
	if got := impl.SortFeed(want); !sameItems(got, want) {
		t.Fatalf("SortFeed(%+v) is %+v, but these are sorted", want, got)
	}
}

func checkLines(t *testing.T, list []impl.Item) {
	t.Helper()
	lines := impl.FeedLines(list)
	if !sameLines(lines, linesOf(list)) {
		t.Fatalf("FeedLines(%+v) are %q", list, lines)
	}
	if got, none := impl.ReadFeed(lines); none != 0 || !sameItems(got, list) {
		t.Fatalf("ReadFeed(%q) is %+v, %d", lines, got, none)
	}
}

func checkWith(t *testing.T, list []impl.Item, key string) {
	t.Helper()
	want := impl.Item{}
	place := placeOfItem(list, key)
	if place >= 0 {
		want = list[place]
	}
	if got, ok := impl.ItemWith(list, key); ok != (place >= 0) || got != want {
		t.Fatalf("ItemWith(%+v, %q) is %+v, %t", list, key, got, ok)
	}
}

// checkOther checks all functions for items that are no feed.
func checkOther(t *testing.T, list []impl.Item) {
	t.Helper()
	if impl.FeedValid(list) {
		t.Fatalf("%+v are no feed", list)
	}
	if got := impl.SortFeed(list); len(got) != 0 {
		t.Fatalf("SortFeed(%+v) is %+v", list, got)
	}
	if got := impl.FeedLines(list); len(got) != 0 {
		t.Fatalf("FeedLines(%+v) are %q", list, got)
	}
	for _, i := range list {
		for _, key := range []string{i.Key, i.Key + "0", ""} {
			if got, ok := impl.ItemWith(list, key); ok || got != (impl.Item{}) {
				t.Fatalf("ItemWith(%+v, %q) is %+v, %t", list, key, got, ok)
			}
		}
	}
}

// checkReadFeed compares with the other way of reading, also for the lines twice.
func checkReadFeed(t *testing.T, lines []string) {
	t.Helper()
	want, wantNone := feedIn(lines)
	got, none := impl.ReadFeed(lines)
	if none != wantNone || !sameItems(got, want) {
		t.Fatalf("ReadFeed(%q) is %+v, %d, not %+v, %d", lines, got, none, want, wantNone)
	}
	if !impl.FeedValid(got) {
		t.Fatalf("ReadFeed(%q) is %+v, which is no feed", lines, got)
	}
	if none > 0 {
		wantNone = 2 * none
	}
	twice := append(append([]string{}, lines...), lines...)
	if got, none := impl.ReadFeed(twice); none != wantNone || !sameItems(got, want) {
		t.Fatalf("ReadFeed(%q) is %+v, %d, not %+v, %d", twice, got, none, want, wantNone)
	}
}

// itemsInOrder are items in an order of the digits of their places.
func itemsInOrder(list []impl.Item, order []string) []impl.Item {
	ordered := []impl.Item{}
	for _, place := range order {
		ordered = append(ordered, list[place[0]-'0'])
	}
	return ordered
}

func TestMaxItems(t *testing.T) {
	if impl.MaxItems != mostItems {
		t.Fatal(impl.MaxItems)
	}
}

// P6: orders that the document describes, one by one.
func TestP6KnownOrders(t *testing.T) {
	list := []impl.Item{{Key: "b", Title: "1", Day: 5}, {Key: "c", Title: "2", Day: 9}, {Key: "a", Title: "3", Day: 5}, {Key: "a1", Title: "4", Day: 5}, {Key: "d", Title: "5"}, {Key: "aa", Title: "6", Day: 5}, {Key: "a0", Title: "7", Day: lastDay}}
	want := []string{"a0", "c", "a", "a1", "aa", "b", "d"}
	got := impl.SortFeed(list)
	if len(got) != len(want) {
		t.Fatalf("SortFeed(%+v) is %+v", list, got)
	}
	for k := range want {
		if got[k].Key != want[k] {
			t.Fatalf("SortFeed(%+v) is %+v", list, got)
		}
	}
	if got := impl.SortFeed(nil); len(got) != 0 {
		t.Fatalf("SortFeed of no items is %+v", got)
	}
}

// P6: all orders of seven items, of which some have the same day.
func TestP6AllOrders(t *testing.T) {
	list := []impl.Item{{Key: "a", Title: "1", Day: 5}, {Key: "a1", Title: "2", Day: 5}, {Key: "aa", Title: "3", Day: 5}, {Key: "b", Title: "4", Day: 5}, {Key: "c", Title: "5", Day: 6}, {Key: "d", Title: "6", Day: 4}, {Key: "e", Title: "7", Day: 6}}
	for _, order := range ordersOf([]string{"0", "1", "2", "3", "4", "5", "6"}) {
		checkSorted(t, itemsInOrder(list, order))
	}
}

// P6: four items in all orders, with all days out of three each.
func TestP6SameDays(t *testing.T) {
	for _, order := range ordersOf([]string{"0", "1", "2", "3"}) {
		for _, days := range textsOf("012", 4) {
			list := itemsInOrder(itemsOfKeys([]string{"a", "a0", "aa", "b"}, 0), order)
			for k := range list {
				list[k].Day = int(days[k] - '0')
			}
			checkSorted(t, list)
		}
	}
}

// P6: two items of the same day, and of others, with all pairs of short words; titles and bodies do not matter.
func TestP6PairsOfKeys(t *testing.T) {
	words := []string{}
	for many := 1; many <= 3; many++ {
		for _, s := range textsOf("abz09", many) {
			if isWord(s) {
				words = append(words, s)
			}
		}
	}
	for _, one := range words {
		for _, two := range words {
			if one == two {
				continue
			}
			for _, day := range []int{4, 5, 6} {
				checkSorted(t, []impl.Item{{Key: one, Title: "b", Body: "a", Day: 5}, {Key: two, Title: "a", Body: "b", Day: day}})
			}
		}
	}
}

// P6 and P7: all parts of feeds.
func TestP6AndP7PartsOfFeeds(t *testing.T) {
	for _, list := range someFeeds() {
		for chosen := 0; chosen < 1<<len(list); chosen++ {
			part := []impl.Item{}
			for k := range list {
				if chosen>>k&1 == 1 {
					part = append(part, list[k])
				}
			}
			checkFeed(t, part)
		}
	}
}

// P7: the lines that the document describes, one by one; they are not sorted.
func TestP7KnownLines(t *testing.T) {
	list := []impl.Item{{Key: "b", Title: "A & B", Body: "<b>x</b>", Day: 0}, {Key: "a", Title: "t", Day: 730178}}
	lines := []string{
		"<key>b</key><title>A &amp; B</title><body>&lt;b&gt;x&lt;/b&gt;</body><day>0001.01.01</day>",
		"<key>a</key><title>t</title><body></body><day>2000.02.29</day>",
	}
	if got := impl.FeedLines(list); !sameLines(got, lines) {
		t.Fatalf("FeedLines(%+v) are %q", list, got)
	}
	if got, none := impl.ReadFeed(lines); none != 0 || !sameItems(got, list) {
		t.Fatalf("ReadFeed(%q) is %+v, %d", lines, got, none)
	}
}

// P7: no items have no lines, and no lines are no items.
func TestP7NoItems(t *testing.T) {
	if !impl.FeedValid(nil) || len(impl.FeedLines(nil)) != 0 {
		t.Fatal("no items are a feed without lines")
	}
	if got, none := impl.ReadFeed(nil); none != 0 || len(got) != 0 {
		t.Fatalf("ReadFeed of no lines is %+v, %d", got, none)
	}
}

// P7: all orders of five items come back as they are.
func TestP7AllOrders(t *testing.T) {
	list := []impl.Item{{Key: "a", Title: "1", Day: 5}, {Key: "b", Title: "2", Day: 5}, {Key: "c", Title: "3", Body: "x", Day: 5}, {Key: "d", Title: "4", Day: lastDay}, {Key: "e", Title: "5"}}
	for _, order := range ordersOf([]string{"0", "1", "2", "3", "4"}) {
		checkFeed(t, itemsInOrder(list, order))
	}
}

// P7: every byte of titles and texts, and every length.
func TestP7EveryByte(t *testing.T) {
	for b := firstByte; b <= lastByte; b++ {
		for many := 1; many <= longest; many++ {
			text := repeated(string([]byte{byte(b)}), many)
			checkLines(t, []impl.Item{{Key: "b", Title: text, Day: 5}, {Key: "a", Title: "t", Body: text, Day: 6}})
		}
	}
}

// P6, P7 and P58: arguments stay as they are, also what is behind their ends, and answers are new.
func TestP7ArgumentsStay(t *testing.T) {
	list := itemsOfKeys([]string{"c", "b", "a", "d"}, 5)
	before := copyOfItems(list)
	impl.FeedValid(list[:3])
	impl.ItemWith(list[:3], "a")
	lines := impl.FeedLines(list[:3])
	sorted := impl.SortFeed(list[:3])
	if !sameItems(list, before) {
		t.Fatalf("%+v are changed to %+v", before, list)
	}
	sorted = append(sorted, before...)
	for k := range sorted {
		sorted[k].Key = "changed"
	}
	if !sameItems(list, before) {
		t.Fatalf("%+v are changed to %+v", before, list)
	}
	texts := append([]string{}, lines...)
	one, _ := impl.ReadFeed(lines)
	two, _ := impl.ReadFeed(lines)
	one[0].Key = "changed"
	one = append(one[:1], manyItems(mostItems)...)
	if !sameItems(two, before[:3]) || !sameLines(lines, texts) || sameItems(one[:3], two) {
		t.Fatalf("%+v are changed to %+v", before[:3], two)
	}
}

// P6: sorted items are not those that were sorted, also if these were in order before, and nothing of what is behind their ends.
func TestP6AnswersAreNew(t *testing.T) {
	for _, list := range someFeeds() {
		ordered := impl.SortFeed(list)
		before := copyOfItems(ordered)
		for many := 0; many <= len(ordered); many++ {
			again := append(impl.SortFeed(ordered[:many]), before...)
			for k := range again {
				again[k].Key = "changed"
			}
			if !sameItems(ordered, before) {
				t.Fatalf("%+v are changed to %+v", before, ordered)
			}
		}
	}
}

// P56: with any item a second time, at every place, as it is and with another title, text and day.
func TestP56KeysComeOnce(t *testing.T) {
	for _, list := range someFeeds() {
		for _, i := range list {
			other := impl.Item{Key: i.Key, Title: "other", Body: "other", Day: 100}
			for place := 0; place <= len(list); place++ {
				for _, second := range []impl.Item{i, other} {
					twice := append(append(copyOfItems(list[:place]), second), list[place:]...)
					checkOther(t, twice)
					checkOther(t, append(twice, second))
				}
			}
		}
	}
}

// P56: a valid feed without its first item, and without any other one.
func TestP56FeedsWithoutOne(t *testing.T) {
	for _, list := range someFeeds() {
		for k := range list {
			checkFeed(t, append(copyOfItems(list[:k]), list[k+1:]...))
		}
	}
}

// P56: items that have all but the key in common are different, and those with the key in common are not.
func TestP56KeysAlone(t *testing.T) {
	keys := []string{"a", "b", "aa", "ab", "a1", "a2", "a10", "a01", letters(7), letters(8), letters(7) + "b", "b" + letters(7)}
	for _, one := range keys {
		for _, two := range keys {
			list := []impl.Item{{Key: one, Title: "t", Day: 5}, {Key: two, Title: "t", Day: 5}}
			if one != two {
				checkFeed(t, list)
			} else {
				checkOther(t, list)
			}
		}
	}
}

// P56: the same key at every two places of feeds of every length.
func TestP56EveryTwoPlaces(t *testing.T) {
	for many := 2; many <= mostItems; many++ {
		for one := 0; one < many; one++ {
			for two := one + 1; two < many; two++ {
				list := manyItems(many)
				checkFeed(t, list)
				list[two].Key = list[one].Key
				checkOther(t, list)
				list[two].Day = 6
				checkOther(t, list)
			}
		}
	}
}

// P56: at most MaxItems, whatever they are.
func TestP56ManyItems(t *testing.T) {
	for many := 0; many <= 100; many++ {
		if many <= mostItems {
			checkFeed(t, manyItems(many))
		} else {
			checkOther(t, manyItems(many))
		}
	}
}

// P56: one that is not valid, at every place of feeds of every length.
func TestP56InvalidItems(t *testing.T) {
	for _, bad := range badItems() {
		for many := 1; many <= mostItems; many++ {
			for at := 0; at < many; at++ {
				list := manyItems(many)
				if at != 0 {
					list[0].Key = "other"
				}
				checkFeed(t, list)
				list[at] = bad
				checkOther(t, list)
			}
		}
	}
}

// P57: all lists of up to five lines, of which some have the same key, and some are none.
func TestP57AllLines(t *testing.T) {
	pieces := []string{
		"<key>a</key><title>1</title><day>2000.02.29</day>",
		"<title>2</title><day>2000.02.28</day><body>x</body><key>a</key>",
		"<key>b</key><title>1</title><body></body><day>2000.02.29</day>",
		"<key>a</key><title></title><day>2000.02.29</day>",
		"<key>b</key><title>1</title>",
		"",
	}
	lists := [][]string{{}}
	for many := 0; many <= 5; many++ {
		longer := [][]string{}
		for _, lines := range lists {
			checkReadFeed(t, lines)
			for _, piece := range pieces {
				longer = append(longer, append(append([]string{}, lines...), piece))
			}
		}
		lists = longer
	}
}

// P57: feeds with a line that is none at every place, and with their own lines again.
func TestP57LinesThatAreNone(t *testing.T) {
	for _, list := range someFeeds() {
		lines := linesOf(list)
		for _, none := range []string{"", " ", "bad", "\n", "<key>k</key>", "<key>k</key><title></title><day>2000.02.29</day>", letters(1000)} {
			for place := 0; place <= len(lines); place++ {
				more := append(append(append([]string{}, lines[:place]...), none), lines[place:]...)
				if got, many := impl.ReadFeed(more); many != 1 || !sameItems(got, list) {
					t.Fatalf("ReadFeed(%q) is %+v, %d", more, got, many)
				}
				checkReadFeed(t, more)
				checkReadFeed(t, append(more, none, none))
			}
		}
		for _, line := range lines {
			checkReadFeed(t, append(append([]string{}, lines...), line))
			checkReadFeed(t, append([]string{line}, lines...))
			checkReadFeed(t, append([]string{line + "<a></a>", line + "x"}, lines...))
		}
	}
}

// P57: of several lines with the same key the first item counts, wherever the others are.
func TestP57FirstLinesCount(t *testing.T) {
	first := impl.Item{Key: "k000", Title: "first", Body: "x", Day: 7}
	for place := 0; place <= mostItems; place++ {
		lines := linesOf(manyItems(mostItems))
		more := append(append(append([]string{}, lines[:place]...), impl.ItemText(first)), lines[place:]...)
		want := manyItems(mostItems)
		if place == 0 {
			want[0] = first
		}
		if got, none := impl.ReadFeed(more); none != 0 || !sameItems(got, want) {
			t.Fatalf("ReadFeed(%q) is %+v, %d", more, got, none)
		}
		checkReadFeed(t, more)
	}
}

// P57: a line that is none does not take its key.
func TestP57LinesThatAreNoneHaveNoKeys(t *testing.T) {
	for _, bad := range badItems() {
		want := []impl.Item{{Key: "k000", Title: "t", Day: 5}}
		// Days without a date have none to be written with; all other ones are bad with every date.
		date := someDate
		if bad.Day < 0 || bad.Day > lastDay {
			date = "4001.01.01"
		}
		lines := append([]string{itemWritten(bad, date), itemWritten(bad, "")}, linesOf(want)...)
		if got, none := impl.ReadFeed(lines); none != 2 || !sameItems(got, want) {
			t.Fatalf("ReadFeed(%q) is %+v, %d", lines, got, none)
		}
		checkReadFeed(t, lines)
	}
}

// P57: items are counted by different keys, and not by lines.
func TestP57ManyLines(t *testing.T) {
	for many := 0; many <= 40; many++ {
		list := manyItems(many)
		lines := linesOf(list)
		double := append(append([]string{}, lines...), lines...)
		for _, some := range [][]string{lines, double, append(double, "bad"), append([]string{"bad", "bad"}, lines...)} {
			checkReadFeed(t, some)
			got, none := impl.ReadFeed(some)
			if many > mostItems && (none != -1 || len(got) != 0) {
				t.Fatalf("ReadFeed of %d items is %+v, %d", many, got, none)
			}
			if many <= mostItems && !sameItems(got, list) {
				t.Fatalf("ReadFeed of %d items is %+v, %d", many, got, none)
			}
		}
	}
}

// P57: one item too many, at every place among lines that add nothing.
func TestP57OneTooMany(t *testing.T) {
	lines := linesOf(manyItems(mostItems))
	rest := append(append(append([]string{}, lines...), "bad"), lines...)
	for _, day := range []int{0, 5, lastDay} {
		more := impl.ItemText(impl.Item{Key: "more", Title: "t", Day: day})
		for place := 0; place <= len(rest); place++ {
			all := append(append(append([]string{}, rest[:place]...), more), rest[place:]...)
			if got, none := impl.ReadFeed(all); none != -1 || len(got) != 0 {
				t.Fatalf("ReadFeed(%q) is %+v, %d", all, got, none)
			}
			checkReadFeed(t, all)
		}
	}
}

// P57: very many lines, of which few or none are items.
func TestP57VeryManyLines(t *testing.T) {
	line := "<key>a</key><title>t</title><day>2000.02.29</day>"
	lines := []string{}
	for k := 0; k < 20000; k++ {
		lines = append(lines, line, "bad", "")
	}
	want := itemsOfKeys([]string{"a"}, 730178)
	if got, none := impl.ReadFeed(lines); none != 40000 || !sameItems(got, want) {
		t.Fatalf("ReadFeed is %+v, %d", got, none)
	}
	if got, none := impl.ReadFeed([]string{repeated(line, 20000), repeated("<", 100000), line}); none != 2 || !sameItems(got, want) {
		t.Fatalf("ReadFeed is %+v, %d", got, none)
	}
}

// P58: every key of feeds of every length, and keys that they do not have.
func TestP58ItemsHaveKeys(t *testing.T) {
	for _, list := range someFeeds() {
		for k, i := range list {
			if got, ok := impl.ItemWith(list, i.Key); !ok || got != list[k] || got.Key != i.Key {
				t.Fatalf("ItemWith(%+v, %q) is %+v, %t", list, i.Key, got, ok)
			}
			for many := 0; many <= len(i.Key); many++ {
				checkWith(t, list, i.Key[:many])
				checkWith(t, list, i.Key[many:])
			}
			for _, key := range []string{i.Key + "0", i.Key + " ", " " + i.Key, "A" + i.Key[1:], i.Key + i.Key, i.Title, i.Body, impl.ItemText(i)} {
				checkWith(t, list, key)
			}
		}
		for _, key := range []string{"", " ", "a", "none", "A", "1", "k", "k00", "k0000", "k008", "\n", "\xff", letters(9), letters(100000)} {
			checkWith(t, list, key)
		}
	}
}

func TestP58EveryByteOfKeys(t *testing.T) {
	for _, list := range [][]impl.Item{itemsOfKeys([]string{"a", "b1", "ab1"}, 5), itemsOfKeys([]string{"zz", "z", "m"}, 5)} {
		for _, i := range list {
			for at := range i.Key {
				for b := 0; b < allBytes; b++ {
					checkWith(t, list, withByte(i.Key, at, b))
				}
			}
		}
	}
}

// P58: in what is no feed nothing is found, neither before nor after what is wrong.
func TestP58OtherFeeds(t *testing.T) {
	good := impl.Item{Key: "a", Title: "t", Day: 5}
	for _, bad := range badItems() {
		checkOther(t, []impl.Item{bad})
		checkOther(t, []impl.Item{bad, good})
		checkOther(t, []impl.Item{good, bad})
	}
	checkOther(t, []impl.Item{good, good})
	checkOther(t, []impl.Item{good, {Key: "b", Title: "t"}, {Key: "b", Title: "t"}})
	checkOther(t, []impl.Item{{Key: "b", Title: "t"}, {Key: "b", Title: "t"}, good})
	checkOther(t, manyItems(mostItems+1))
}
