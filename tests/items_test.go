package tests

import (
	"testing"

	"loop.example/feedbridge/impl"
)

const someDate = "2000.02.29"

// itemWritten writes an item by the document's list alone; whoever calls it knows the date of its day.
func itemWritten(i impl.Item, date string) string {
	return "<key>" + written(i.Key) + "</key><title>" + written(i.Title) + "</title><body>" + written(i.Body) + "</body><day>" + date + "</day>"
}

// itemIn takes one element after the other, so that it does not share its way of reading with ReadItem; days are tested by themselves.
func itemIn(s string) (impl.Item, bool) {
	list, ok := elementsIn(s)
	if !ok {
		return impl.Item{}, false
	}
	i := impl.Item{Day: -1}
	had := ""
	for _, e := range list {
		switch e.Name {
		case "key":
			i.Key = e.Text
			had += "k"
		case "title":
			i.Title = e.Text
			had += "t"
		case "body":
			i.Body = e.Text
			had += "b"
		case "day":
			i.Day = impl.ReadDate(e.Text)
			had += "d"
		}
	}
	if !isWhole(had) || !isWord(i.Key) || i.Title == "" || i.Day == -1 {
		return impl.Item{}, false
	}
	return i, true
}

// isWhole reports whether k, t and d come once each, and b at most once.
func isWhole(had string) bool {
	return timesIn(had, 'k') == 1 && timesIn(had, 't') == 1 && timesIn(had, 'd') == 1 && timesIn(had, 'b') <= 1
}

func timesIn(s string, b byte) int {
	times := 0
	for k := 0; k < len(s); k++ {
		if s[k] == b {
			times++
		}
	}
	return times
}

func someItem() impl.Item {
	return impl.Item{Key: "k1", Title: "A & B", Body: "<b>x</b>", Day: 730178}
}

func itemPieces() []string {
	return []string{"<key>k1</key>", "<title>A &amp; B</title>", "<body>&lt;b&gt;x&lt;/b&gt;</body>", "<day>2000.02.29</day>"}
}

// ordersOf are all orders of pieces.
func ordersOf(pieces []string) [][]string {
	if len(pieces) == 0 {
		return [][]string{{}}
	}
	orders := [][]string{}
	for k := range pieces {
		rest := append(append([]string{}, pieces[:k]...), pieces[k+1:]...)
		for _, order := range ordersOf(rest) {
			orders = append(orders, append([]string{pieces[k]}, order...))
		}
	}
	return orders
}

func joined(pieces []string) string {
	text := ""
	for _, piece := range pieces {
		text += piece
	}
	return text
}

func checkItem(t *testing.T, i impl.Item, date string) {
	t.Helper()
	if !impl.ItemValid(i) {
		t.Fatalf("%+v is valid", i)
	}
	s := impl.ItemText(i)
	if s != itemWritten(i, date) {
		t.Fatalf("ItemText(%+v) is %q", i, s)
	}
	checkReadsAs(t, s, i)
	checkReadsAs(t, "<other>key</other>"+s, i)
}

func checkReadsAs(t *testing.T, s string, want impl.Item) {
	t.Helper()
	if got, ok := impl.ReadItem(s); !ok || got != want {
		t.Fatalf("ReadItem(%q) is %+v, %t", s, got, ok)
	}
}

func refuseItem(t *testing.T, s string) {
	t.Helper()
	if got, ok := impl.ReadItem(s); ok || got != (impl.Item{}) {
		t.Fatalf("ReadItem(%q) is %+v, %t", s, got, ok)
	}
}

// checkInvalidItem takes the date that the item's text would have.
func checkInvalidItem(t *testing.T, i impl.Item, date string) {
	t.Helper()
	if impl.ItemValid(i) {
		t.Fatalf("%+v is not valid", i)
	}
	if got := impl.ItemText(i); got != "" {
		t.Fatalf("ItemText(%+v) is %q", i, got)
	}
	refuseItem(t, itemWritten(i, date))
}

// checkAccepted compares with the other way of reading, and reports whether a text is accepted.
func checkAccepted(t *testing.T, s string) bool {
	t.Helper()
	want, accepted := itemIn(s)
	got, ok := impl.ReadItem(s)
	if ok != accepted || got != want {
		t.Fatalf("ReadItem(%q) is %+v, %t", s, got, ok)
	}
	if !ok {
		return false
	}
	if !impl.ItemValid(got) {
		t.Fatalf("%q is accepted as %+v, which is not valid", s, got)
	}
	checkReadsAs(t, impl.ItemText(got), got)
	checkSeconds(t, s, got)
	return true
}

// checkSeconds adds what an accepted text has already, as it is and otherwise.
func checkSeconds(t *testing.T, s string, i impl.Item) {
	t.Helper()
	for _, second := range []string{"<key>" + i.Key + "</key>", "<key>other</key>", "<key></key>", "<title>" + written(i.Title) + "</title>", "<title></title>", "<day>" + someDate + "</day>", "<day></day>"} {
		refuseItem(t, s+second)
		refuseItem(t, second+s)
	}
}

// P5: the texts that the document describes, one by one.
func TestP5WrittenItems(t *testing.T) {
	items := []impl.Item{
		{Key: "a", Title: "b"},
		{Key: "k1", Title: "A & B", Body: "<b>x</b>", Day: 730178},
		{Key: "key", Title: "</title>", Body: "<day>2000.02.29</day>", Day: lastDay},
		{Key: "abcdefg8", Title: " ", Body: "\"", Day: 719162},
	}
	texts := []string{
		"<key>a</key><title>b</title><body></body><day>0001.01.01</day>",
		"<key>k1</key><title>A &amp; B</title><body>&lt;b&gt;x&lt;/b&gt;</body><day>2000.02.29</day>",
		"<key>key</key><title>&lt;/title&gt;</title><body>&lt;day&gt;2000.02.29&lt;/day&gt;</body><day>4000.12.31</day>",
		"<key>abcdefg8</key><title> </title><body>&quot;</body><day>1970.01.01</day>",
	}
	for k := range items {
		if got := impl.ItemText(items[k]); got != texts[k] {
			t.Fatalf("ItemText(%+v) is %q", items[k], got)
		}
		checkReadsAs(t, texts[k], items[k])
	}
}

func TestP5ItemsCanBeRead(t *testing.T) {
	days := []int{0, 1, 364, 365, 719162, 730178, lastDay - 1, lastDay}
	dates := []string{"0001.01.01", "0001.01.02", "0001.12.31", "0002.01.01", "1970.01.01", someDate, "4000.12.30", "4000.12.31"}
	for _, key := range []string{"a", "z9", "key", "title", "body", "day", letters(8)} {
		for _, title := range []string{"a", " ", "<", "&", "key", "&lt;", "</title>", letters(longest), repeated("\"", longest)} {
			for _, body := range []string{"", "a", " ", ">", "body", "<key>k</key>", letters(longest), repeated("&", longest)} {
				for k := range days {
					checkItem(t, impl.Item{Key: key, Title: title, Body: body, Day: days[k]}, dates[k])
				}
			}
		}
	}
}

// P5: every byte of titles and texts, alone and at every place of the longest one, and every length.
func TestP5EveryByteOfTexts(t *testing.T) {
	for b := firstByte; b <= lastByte; b++ {
		for many := 1; many <= longest; many++ {
			text := repeated(string([]byte{byte(b)}), many)
			checkItem(t, impl.Item{Key: "a", Title: text, Day: 730178}, someDate)
			checkItem(t, impl.Item{Key: "a", Title: "t", Body: text, Day: 730178}, someDate)
		}
		for at := 0; at < longest; at++ {
			text := withByte(letters(longest), at, b)
			checkItem(t, impl.Item{Key: "a", Title: text, Body: text, Day: 730178}, someDate)
		}
	}
}

// P5: days of the whole calendar, and the first and the last one of every year.
func TestP5Days(t *testing.T) {
	for c := firstDay(); c.year <= lastYear; c = nextDay(c) {
		if c.number%97 == 0 || (c.month == 1 && c.day == 1) || (c.month == 12 && c.day == 31) {
			checkItem(t, impl.Item{Key: "a", Title: "t", Day: c.number}, dateOf(c.year, c.month, c.day))
		}
	}
}

// P5: key, title, body and day in every order, with a body and without one.
func TestP5AnyOrder(t *testing.T) {
	for _, order := range ordersOf(itemPieces()) {
		checkReadsAs(t, joined(order), someItem())
	}
	bare := someItem()
	bare.Body = ""
	pieces := itemPieces()
	for _, order := range ordersOf([]string{pieces[0], pieces[1], pieces[3]}) {
		checkReadsAs(t, joined(order), bare)
	}
	for _, order := range ordersOf([]string{pieces[0], pieces[1], "<body></body>", pieces[3]}) {
		checkReadsAs(t, joined(order), bare)
	}
}

// P5: other elements at every place, also several, and with names and texts that are like those of items.
func TestP5OtherElements(t *testing.T) {
	for _, other := range []string{"<other>x</other>", "<a></a>", "<k>k</k>", "<ke>k</ke>", "<keys>k</keys>", "<titles></titles>", "<titl>t</titl>", "<bodyx>b</bodyx>", "<bod>b</bod>", "<days>2000.02.28</days>", "<da></da>", "<date>2000.02.29</date>", "<link>&lt;key&gt;k&lt;/key&gt;</link>", "<text>body</text>"} {
		pieces := itemPieces()
		for at := 0; at <= len(pieces); at++ {
			checkReadsAs(t, joined(pieces[:at])+other+joined(pieces[at:]), someItem())
			for till := at; till <= len(pieces); till++ {
				s := joined(pieces[:at]) + other + joined(pieces[at:till]) + other + other + joined(pieces[till:])
				checkReadsAs(t, s, someItem())
				checkReadsAs(t, other+s, someItem())
				refuseItem(t, other+s+other)
			}
		}
	}
}

// P5: no more elements than there may be, whichever they are.
func TestP5ManyElements(t *testing.T) {
	pieces := itemPieces()
	for many := 0; many <= 100; many++ {
		others := repeated("<a>x</a>", many)
		for _, whole := range []string{others + joined(pieces), joined(pieces) + others} {
			if checkAccepted(t, whole) != (many+4 <= mostElements) {
				t.Fatalf("with %d others", many)
			}
		}
		if checkAccepted(t, pieces[0]+others+pieces[1]+pieces[3]) != (many+3 <= mostElements) {
			t.Fatalf("without a body and with %d others", many)
		}
	}
}

// P54: without a title no item is valid, whatever else it has.
func TestP54ItemsHaveTitles(t *testing.T) {
	for _, key := range []string{"a", "key", "title", letters(8)} {
		for _, body := range []string{"", "a", "title", "<title>a</title>", letters(longest)} {
			checkInvalidItem(t, impl.Item{Key: key, Body: body, Day: 0}, "0001.01.01")
			checkInvalidItem(t, impl.Item{Key: key, Body: body, Day: 730178}, someDate)
			refuseItem(t, "<key>"+key+"</key><body>"+written(body)+"</body><day>"+someDate+"</day>")
			refuseItem(t, "<key>"+key+"</key><titles>t</titles><body>"+written(body)+"</body><day>"+someDate+"</day>")
		}
	}
}

// P54: without a text a valid item is valid, and reads the same, whether its text has an empty body or none.
func TestP54ItemsWithoutTexts(t *testing.T) {
	for _, body := range []string{"a", " ", "<", letters(longest)} {
		i := someItem()
		i.Body = body
		checkItem(t, i, someDate)
		i.Body = ""
		checkItem(t, i, someDate)
		checkReadsAs(t, "<key>k1</key><title>A &amp; B</title><day>2000.02.29</day>", i)
		checkReadsAs(t, "<key>k1</key><title>A &amp; B</title><body></body><day>2000.02.29</day>", i)
	}
}

// P54: the zero value, and items of which only one part is there.
func TestP54NothingIsNoItem(t *testing.T) {
	checkInvalidItem(t, impl.Item{}, "0001.01.01")
	checkInvalidItem(t, impl.Item{Key: "a"}, "0001.01.01")
	checkInvalidItem(t, impl.Item{Title: "t"}, "0001.01.01")
	checkInvalidItem(t, impl.Item{Body: "b"}, "0001.01.01")
	checkInvalidItem(t, impl.Item{Day: 730178}, someDate)
}

func TestP54EveryByteOfKeys(t *testing.T) {
	for many := 0; many <= 9; many++ {
		for b := 0; b < allBytes; b++ {
			for at := 0; at < many; at++ {
				key := withByte(letters(many), at, b)
				if isWord(key) {
					checkItem(t, impl.Item{Key: key, Title: "t", Day: 730178}, someDate)
				} else {
					checkInvalidItem(t, impl.Item{Key: key, Title: "t", Day: 730178}, someDate)
				}
			}
		}
	}
	for _, key := range []string{"", " ", "a b", "K", "1", "<", "&", "a ", letters(9), letters(80), letters(1000)} {
		checkInvalidItem(t, impl.Item{Key: key, Title: "t", Body: "b", Day: 730178}, someDate)
	}
}

// checkInvalidText puts a text that is not valid into the title and into the body.
func checkInvalidText(t *testing.T, text string) {
	t.Helper()
	checkInvalidItem(t, impl.Item{Key: "a", Title: text, Day: 730178}, someDate)
	checkInvalidItem(t, impl.Item{Key: "a", Title: text, Body: "b", Day: 730178}, someDate)
	checkInvalidItem(t, impl.Item{Key: "a", Title: "t", Body: text, Day: 730178}, someDate)
}

func TestP54TextsThatAreNotValid(t *testing.T) {
	for b := 0; b < allBytes; b++ {
		if isTextByte(b) {
			continue
		}
		for many := 1; many <= longest; many++ {
			for _, at := range []int{0, many / 2, many - 1} {
				checkInvalidText(t, withByte(letters(many), at, b))
			}
		}
	}
	for _, many := range []int{81, 82, 160, 480, 481, 1000} {
		checkInvalidText(t, letters(many))
		checkInvalidText(t, repeated(" ", many))
	}
}

// P54: items without a date.
func TestP54DaysWithoutDate(t *testing.T) {
	days := []int{-1, -2, -365, -lastDay, -greatestInt, -greatestInt - 1, lastDay + 1, lastDay + 2, lastDay + 366, greatest, 1 << 31, 1 << 32, 1<<32 + 1, greatestInt - 1, greatestInt}
	for _, day := range days {
		for _, body := range []string{"", "b"} {
			checkInvalidItem(t, impl.Item{Key: "a", Title: "t", Body: body, Day: day}, "")
		}
	}
}

// P55: without a key, a title or a day, or with one of them a second time, nothing is accepted.
func TestP55OnceEach(t *testing.T) {
	pieces := itemPieces()
	for at := range pieces {
		without := joined(pieces[:at]) + joined(pieces[at+1:])
		if checkAccepted(t, without) != (at == 2) {
			t.Fatalf("ReadItem(%q)", without)
		}
		for place := 0; place <= len(pieces); place++ {
			refuseItem(t, joined(pieces[:place])+pieces[at]+joined(pieces[place:]))
			refuseItem(t, "<a></a>"+joined(pieces[:place])+pieces[at]+joined(pieces[place:]))
		}
	}
	for _, second := range []string{"<key>k2</key>", "<key></key>", "<key>K</key>", "<title>t</title>", "<title></title>", "<body>b</body>", "<body></body>", "<day>2000.02.28</day>", "<day></day>", "<day>x</day>"} {
		for place := 0; place <= len(pieces); place++ {
			refuseItem(t, joined(pieces[:place])+second+joined(pieces[place:]))
		}
	}
	refuseItem(t, pieces[0]+pieces[1]+pieces[3]+"<body></body><body></body>")
}

// P55: all texts of up to six elements.
func TestP55TextsOfElements(t *testing.T) {
	pieces := append(itemPieces(), "<a>x</a>")
	accepted := 0
	texts := []string{""}
	for many := 1; many <= 6; many++ {
		longer := make([]string, 0, len(texts)*len(pieces))
		for _, text := range texts {
			for _, piece := range pieces {
				if checkAccepted(t, text+piece) {
					accepted++
				}
				longer = append(longer, text+piece)
			}
		}
		texts = longer
	}
	// Without a body there are 3! orders among up to three others; with one there are 4! among up to two.
	if accepted != 6*(1+4+10+20)+24*(1+5+15) {
		t.Fatalf("%d texts are accepted", accepted)
	}
}

// P55: keys, titles, bodies and days in every combination, some of them not valid.
func TestP55Combinations(t *testing.T) {
	for _, key := range []string{"", "a", "k1", "K", "1", " a", "a ", "&lt;", letters(8), letters(9)} {
		for _, title := range []string{"", "t", " ", "&amp;", "&", ">", "\n", letters(longest), letters(longest + 1), repeated("&lt;", longest)} {
			for _, body := range []string{"", "<body></body>", "<body>b</body>", "<body>\"</body>", "<body>" + letters(longest+1) + "</body>", "<body/>"} {
				for _, date := range []string{"", someDate, "0001.01.01", "4000.12.31", "4001.01.01", "0000.12.31", "2001.02.29", "2000.2.29", "730178", someDate + " ", someDate + "0", "2000-02-29"} {
					checkAccepted(t, "<key>"+key+"</key><title>"+title+"</title>"+body+"<day>"+date+"</day>")
				}
			}
		}
	}
}

// P55: every byte at every place, in its place and before it, and every part.
func TestP55EveryByte(t *testing.T) {
	for _, s := range []string{"<key>k</key><title>t</title><day>2000.02.29</day>", "<day>2023.12.10</day><a>x</a><body>&lt;</body><title>&amp;</title><key>k1</key>"} {
		if !checkAccepted(t, s) {
			t.Fatalf("ReadItem(%q) is refused", s)
		}
		for at := 0; at <= len(s); at++ {
			for b := 0; b < allBytes; b++ {
				checkAccepted(t, s[:at]+string([]byte{byte(b)})+s[at:])
				if at < len(s) {
					checkAccepted(t, withByte(s, at, b))
				}
			}
			for till := at; till <= len(s); till++ {
				checkAccepted(t, s[at:till])
				checkAccepted(t, s[:at]+s[till:])
			}
		}
	}
}

// P55: texts that are no elements, and elements that are no item.
func TestP55InvalidItems(t *testing.T) {
	for _, s := range []string{"", " ", "a", "<", ">", "<key>", "</key>", "key", "\n", "\x00", "\xff", "<a></a>", "<key>k</key>", "<title>t</title>", "<body>b</body>", "<day>2000.02.29</day>",
		"<key>k</key><title>t</title>", "<key>k</key><title>t</title><body>b</body>", "<key>k</key><title>t</title><date>2000.02.29</date>", "<Key>k</Key><title>t</title><day>2000.02.29</day>",
		"<item><key>k</key><title>t</title><day>2000.02.29</day></item>", "<key>k<title>t</title></key><day>2000.02.29</day>", "<key>k</key> <title>t</title> <day>2000.02.29</day>",
		"<key>k</key>\n<title>t</title>\n<day>2000.02.29</day>", "<key>k</key><title>t</title><day>2000.02.29</day", "key=k title=t day=2000.02.29", "<key>k</key><title>t</title><day>2000.02.29</day></a>"} {
		refuseItem(t, s)
		refuseItem(t, s+s)
		refuseItem(t, "<b>x</b>"+s)
	}
	for _, piece := range append(itemPieces(), joined(itemPieces()), "<", "<key>", "&lt;", "a", "<a></a>") {
		refuseItem(t, repeated(piece, 100000))
		refuseItem(t, joined(itemPieces())+repeated(piece, 100000))
	}
}
