package tests

import (
	"testing"

	"loop.example/feedbridge/impl"
)

const (
	mostFields = 6
	// longestFields has six longest words with the mark of Great, six equals signs and five semicolons.
	longestFields = 6*(8+longestMark) + 6 + 5
)

func sameFields(a []impl.Field, b []impl.Field) bool {
	if len(a) != len(b) {
		return false
	}
	for k := range a {
		if a[k] != b[k] {
			return false
		}
	}
	return true
}

func copyOfFields(list []impl.Field) []impl.Field {
	return append([]impl.Field{}, list...)
}

func fieldsWithout(list []impl.Field, at int) []impl.Field {
	return append(copyOfFields(list[:at]), list[at+1:]...)
}

func insertedField(list []impl.Field, at int, f impl.Field) []impl.Field {
	return append(append(copyOfFields(list[:at]), f), list[at:]...)
}

func reversedFields(list []impl.Field) []impl.Field {
	reversed := []impl.Field{}
	for k := len(list) - 1; k >= 0; k-- {
		reversed = append(reversed, list[k])
	}
	return reversed
}

// areFields looks at the fields after each one, so that it does not share its way with FieldsValid.
func areFields(list []impl.Field) bool {
	if len(list) > mostFields {
		return false
	}
	for k, f := range list {
		if !isWord(f.Name) || f.Value < 0 || f.Value > greatest {
			return false
		}
		for _, later := range list[k+1:] {
			if later.Name == f.Name {
				return false
			}
		}
	}
	return true
}

// sortedFields takes the least one out, again and again, so that it does not share its way of sorting with SortFields.
func sortedFields(list []impl.Field) []impl.Field {
	if len(list) == 0 {
		return []impl.Field{}
	}
	least := 0
	for k := range list {
		if keyBefore(list[k].Name, list[least].Name) {
			least = k
		}
	}
	return append([]impl.Field{list[least]}, sortedFields(fieldsWithout(list, least))...)
}

// pairsOf are the fields as they are written, whether they are valid or not.
func pairsOf(list []impl.Field) []string {
	pairs := []string{}
	for _, f := range list {
		pairs = append(pairs, f.Name+"="+markWritten(f.Value))
	}
	return pairs
}

// fieldsWritten are in the order that they have.
func fieldsWritten(list []impl.Field) string {
	return joinedBy(pairsOf(list), ";")
}

// fieldsIn looks at what is wrong before anything is written, so that it does not share its way of reading with ReadFields.
func fieldsIn(s string) ([]impl.Field, bool) {
	list := []impl.Field{}
	if s == "" {
		return list, true
	}
	if len(s) > longestFields {
		return nil, false
	}
	for _, pair := range partsIn(s, ';') {
		at := lastPlaceOf(pair, '=')
		if at < 0 {
			return nil, false
		}
		list = append(list, impl.Field{Name: pair[:at], Value: markIn(pair[at+1:])})
	}
	if !areFields(list) || !sameFields(list, sortedFields(list)) {
		return nil, false
	}
	return list, true
}

// fieldsOf are valid if the names are different words, at most six.
func fieldsOf(names []string) []impl.Field {
	list := []impl.Field{}
	for k, name := range names {
		list = append(list, impl.Field{Name: name, Value: 36 - k})
	}
	return list
}

// manyFields are so many with ascending names, which are different.
func manyFields(many int) []impl.Field {
	list := []impl.Field{}
	for k := 0; k < many; k++ {
		list = append(list, impl.Field{Name: "f" + digits(k, 6), Value: k})
	}
	return list
}

// sixFields are sorted; some of their names begin others.
func sixFields() []impl.Field {
	return []impl.Field{{Name: "a", Value: 36}, {Name: "a0", Value: 0}, {Name: "a1", Value: greatest}, {Name: "aa", Value: 36}, {Name: "b", Value: 1295}, {Name: "ba", Value: 7}}
}

// someFields are valid, and in different orders.
func someFields() [][]impl.Field {
	return [][]impl.Field{
		{},
		{{Name: "a"}},
		{{Name: "z", Value: greatest}},
		{{Name: "b", Value: 36}, {Name: "a", Value: 7}},
		{{Name: "a", Value: 1}, {Name: "b", Value: 1}},
		{{Name: "b", Value: 1}, {Name: "a", Value: 1}, {Name: "c", Value: 1}},
		{{Name: "modulus", Value: 143}, {Name: "exponent", Value: 7}, {Name: "digest", Value: 999982}},
		{{Name: "b9", Value: 9}, {Name: "b8", Value: 10}, {Name: "b10", Value: 35}, {Name: "b", Value: 36}},
		fieldsOf([]string{"ab", "a", "a10", "b", "a1"}),
		fieldsOf([]string{letters(8), letters(1), letters(7), letters(2), letters(6), letters(3)}),
		sixFields(),
		reversedFields(sixFields()),
		manyFields(mostFields),
	}
}

// badFields are not valid for one reason each, but for the zero value.
func badFields() []impl.Field {
	list := []impl.Field{{}, {Value: 7}}
	for _, value := range outsideSigns() {
		list = append(list, impl.Field{Name: "bad", Value: value})
	}
	for _, name := range append(badWords(), "a=1", "a;b", ";", "=", "a=", "=a", "a;", ";a") {
		list = append(list, impl.Field{Name: name, Value: 7})
	}
	return list
}

// fieldsInOrder are fields in an order of the digits of their places.
func fieldsInOrder(list []impl.Field, order string) []impl.Field {
	ordered := []impl.Field{}
	for k := range order {
		ordered = append(ordered, list[order[k]-'0'])
	}
	return ordered
}

// checkFields checks all functions, and reports whether the fields are valid.
func checkFields(t *testing.T, list []impl.Field) bool {
	t.Helper()
	if !areFields(list) {
		checkOtherFields(t, list)
		return false
	}
	checkValidFields(t, list)
	return true
}

func checkValidFields(t *testing.T, list []impl.Field) {
	t.Helper()
	want := sortedFields(list)
	s := fieldsWritten(want)
	for _, order := range [][]impl.Field{list, reversedFields(list), want, reversedFields(want)} {
		if !impl.FieldsValid(order) {
			t.Fatalf("%+v are valid", order)
		}
		if got := impl.SortFields(order); !sameFields(got, want) {
			t.Fatalf("SortFields(%+v) are %+v", order, got)
		}
		if got := impl.FieldsText(order); got != s {
			t.Fatalf("FieldsText(%+v) is %q", order, got)
		}
	}
	if got, ok := impl.ReadFields(s); !ok || !sameFields(got, want) {
		t.Fatalf("ReadFields(%q) are %+v, %t", s, got, ok)
	}
	refuseFields(t, s+";")
}

func checkOtherFields(t *testing.T, list []impl.Field) {
	t.Helper()
	for _, order := range [][]impl.Field{list, reversedFields(list)} {
		if impl.FieldsValid(order) {
			t.Fatalf("%+v are not valid", order)
		}
		if got := impl.SortFields(order); len(got) != 0 {
			t.Fatalf("SortFields(%+v) are %+v", order, got)
		}
		if got := impl.FieldsText(order); got != "" {
			t.Fatalf("FieldsText(%+v) is %q", order, got)
		}
		// Signs in names can make a text that is one of other fields.
		checkReadFields(t, fieldsWritten(order))
	}
}

func refuseFields(t *testing.T, s string) {
	t.Helper()
	if got, ok := impl.ReadFields(s); ok || len(got) != 0 {
		t.Fatalf("ReadFields(%q) are %+v, %t", s, got, ok)
	}
}

// checkReadFields compares with the other way of reading, and reports whether a text is accepted.
func checkReadFields(t *testing.T, s string) bool {
	t.Helper()
	want, accepted := fieldsIn(s)
	got, ok := impl.ReadFields(s)
	if ok != accepted || !sameFields(got, want) {
		t.Fatalf("ReadFields(%q) are %+v, %t", s, got, ok)
	}
	if !ok {
		return false
	}
	if !impl.FieldsValid(got) || !sameFields(impl.SortFields(got), got) || impl.FieldsText(got) != s {
		t.Fatalf("%q is accepted as %+v, but FieldsText of them is %q", s, got, impl.FieldsText(got))
	}
	refuseFields(t, s+";")
	return true
}

func TestMaxFields(t *testing.T) {
	if impl.MaxFields != mostFields {
		t.Fatal(impl.MaxFields)
	}
}

// P12: the order that the document describes, written out; values stay with their names, and do not matter for it.
func TestP12KnownOrders(t *testing.T) {
	list := []impl.Field{{Name: "b", Value: 1}, {Name: "a1", Value: 2}, {Name: "z", Value: 0}, {Name: "aa", Value: 3}, {Name: "a", Value: 9}, {Name: "a0", Value: 2}}
	want := []impl.Field{{Name: "a", Value: 9}, {Name: "a0", Value: 2}, {Name: "a1", Value: 2}, {Name: "aa", Value: 3}, {Name: "b", Value: 1}, {Name: "z", Value: 0}}
	for _, order := range [][]impl.Field{list, reversedFields(list), want, reversedFields(want)} {
		if got := impl.SortFields(order); !sameFields(got, want) {
			t.Fatalf("SortFields(%+v) are %+v", order, got)
		}
		if got := impl.FieldsText(order); got != "a=9;a0=2;a1=2;aa=3;b=1;z=0" {
			t.Fatalf("FieldsText(%+v) is %q", order, got)
		}
	}
	if got := impl.SortFields(nil); len(got) != 0 {
		t.Fatalf("SortFields of no fields are %+v", got)
	}
}

// P12: all orders of six fields, and of those that are left without the last ones.
func TestP12EveryOrder(t *testing.T) {
	for many := 0; many <= mostFields; many++ {
		want := sixFields()[:many]
		for _, order := range ordersOf(partsOfText("012345"[:many])) {
			list := fieldsInOrder(want, joined(order))
			if got := impl.SortFields(list); !sameFields(got, want) {
				t.Fatalf("SortFields(%+v) are %+v", list, got)
			}
			checkValidFields(t, list)
		}
	}
}

// partsOfText are its bytes.
func partsOfText(s string) []string {
	parts := []string{}
	for k := range s {
		parts = append(parts, s[k:k+1])
	}
	return parts
}

// P12: names ascend, whatever the values are.
func TestP12SortedNamesAscend(t *testing.T) {
	for _, order := range ordersOf(partsOfText("0123")) {
		for _, values := range textsOf("012", 4) {
			list := fieldsInOrder(sixFields(), joined(order))
			for k := range list {
				list[k].Value = int(values[k] - '0')
			}
			got := impl.SortFields(list)
			if len(got) != len(list) {
				t.Fatalf("SortFields(%+v) are %+v", list, got)
			}
			for k := 1; k < len(got); k++ {
				if !keyBefore(got[k-1].Name, got[k].Name) {
					t.Fatalf("SortFields(%+v) are %+v", list, got)
				}
			}
			checkValidFields(t, list)
		}
	}
}

// P12 and P71: every two words, to the last byte; a word that begins another one is the lesser one, and a different one.
func TestP12EveryTwoNames(t *testing.T) {
	names := append(someWords(), textsOf("ab0", 2)...)
	for many := 1; many <= 8; many++ {
		for _, end := range partsOfText("09amz") {
			names = append(names, letters(many-1)+end)
		}
	}
	for _, one := range names {
		for _, two := range names {
			list := fieldsOf([]string{one, two})
			valid := one != two && isWord(one) && isWord(two)
			if checkFields(t, list) != valid {
				t.Fatalf("%+v", list)
			}
			if valid && keyBefore(impl.SortFields(list)[1].Name, impl.SortFields(list)[0].Name) {
				t.Fatalf("SortFields(%+v) are %+v", list, impl.SortFields(list))
			}
		}
	}
}

// P12, P13 and P71: arguments are not written to, not even behind their ends.
func TestP12ArgumentsStay(t *testing.T) {
	list := append(reversedFields(sixFields()), impl.Field{Name: "c"}, impl.Field{Name: "a"})
	before := copyOfFields(list)
	for from := 0; from <= len(list); from++ {
		for till := from; till <= len(list); till++ {
			impl.FieldsValid(list[from:till])
			impl.FieldsText(list[from:till])
			got := append(impl.SortFields(list[from:till]), list[0])
			for k := range got {
				got[k] = impl.Field{Name: "changed", Value: -5}
			}
			if !sameFields(list, before) {
				t.Fatalf("%+v are changed to %+v", before, list)
			}
		}
	}
}

// P12 and P13: two answers share nothing with each other.
func TestP12AnswersAreNew(t *testing.T) {
	for _, list := range someFields() {
		s := fieldsWritten(sortedFields(list))
		answers := [][]impl.Field{impl.SortFields(list), impl.SortFields(list)}
		for k := 0; k < 2; k++ {
			read, _ := impl.ReadFields(s)
			answers = append(answers, read, impl.SortFields(read))
		}
		for at, answer := range answers {
			longer := append(answer, impl.Field{Name: "changed", Value: at})
			for k := range longer {
				longer[k] = impl.Field{Name: "changed", Value: at}
			}
			for _, other := range answers[at+1:] {
				if !sameFields(other, sortedFields(list)) {
					t.Fatalf("an answer for %+v is changed to %+v", list, other)
				}
			}
		}
	}
}

// P12, P13, P71 and P72: nothing is kept from one call to the next.
func TestP12CallsAreAlike(t *testing.T) {
	for k := 0; k < 3; k++ {
		for _, list := range someFields() {
			checkValidFields(t, list)
			checkOtherFields(t, append(copyOfFields(list), impl.Field{}))
			checkReadFields(t, fieldsWritten(list))
		}
	}
}

// P13: the texts that the document describes, written out.
func TestP13KnownTexts(t *testing.T) {
	texts := []string{"", "a=0", "a=7;b=10", "a=z;aa=10;b=zz", "digest=lfdx;exponent=7;modulus=3z", "a=gjdgxs;b1234567=1;c=a"}
	lists := [][]impl.Field{
		{},
		{{Name: "a", Value: 0}},
		{{Name: "a", Value: 7}, {Name: "b", Value: 36}},
		{{Name: "a", Value: 35}, {Name: "aa", Value: 36}, {Name: "b", Value: 1295}},
		{{Name: "digest", Value: 999717}, {Name: "exponent", Value: 7}, {Name: "modulus", Value: 143}},
		{{Name: "a", Value: greatest}, {Name: "b1234567", Value: 1}, {Name: "c", Value: 10}},
	}
	for k, s := range texts {
		for _, order := range [][]impl.Field{lists[k], reversedFields(lists[k])} {
			if got := impl.FieldsText(order); got != s {
				t.Fatalf("FieldsText(%+v) is %q", order, got)
			}
		}
		if got, ok := impl.ReadFields(s); !ok || !sameFields(got, lists[k]) {
			t.Fatalf("ReadFields(%q) are %+v, %t", s, got, ok)
		}
	}
}

func TestP13SomeFields(t *testing.T) {
	for _, list := range someFields() {
		checkValidFields(t, list)
	}
}

// P13: all parts of six fields.
func TestP13PartsOfFields(t *testing.T) {
	for chosen := 0; chosen < 1<<mostFields; chosen++ {
		list := []impl.Field{}
		for k, f := range sixFields() {
			if chosen>>k&1 == 1 {
				list = append(list, f)
			}
		}
		checkValidFields(t, list)
	}
}

// P13 and P71: values of every length at every place, and from end to end, in steps that are prime to the base.
func TestP13EveryValue(t *testing.T) {
	for _, value := range someNumbers() {
		for n := value - 40; n <= value+40; n++ {
			for at := 0; at < mostFields; at++ {
				list := sixFields()
				list[at].Value = n
				if checkFields(t, list) != (n >= 0 && n <= greatest) {
					t.Fatalf("the value %d", n)
				}
			}
		}
	}
	for n := 0; n <= greatest; n += 99991 {
		checkValidFields(t, []impl.Field{{Name: "b", Value: n}, {Name: "a", Value: greatest - n}})
	}
}

// P13: every word as a name, alone and between others.
func TestP13EveryName(t *testing.T) {
	for _, name := range append(someWords(), kindWords()...) {
		checkValidFields(t, []impl.Field{{Name: name, Value: 36}})
		checkValidFields(t, []impl.Field{{Name: "ac", Value: 1}, {Name: name, Value: 36}, {Name: "zz", Value: 2}})
	}
}

// P13: the longest text is longer than a valid one, and can be read nevertheless.
func TestP13LongestText(t *testing.T) {
	list := []impl.Field{}
	for k := 0; k < mostFields; k++ {
		list = append(list, impl.Field{Name: "name" + digits(k, 4), Value: greatest - k})
	}
	checkValidFields(t, list)
	if got := impl.FieldsText(list); len(got) != longestFields || impl.TextValid(got) {
		t.Fatalf("%q has %d bytes", got, len(got))
	}
}

// P71: with the first field twice, at every place, and with whatever value, fields are not valid; without it they are.
func TestP71FirstFieldTwice(t *testing.T) {
	for _, list := range someFields() {
		for at := 0; at <= len(list) && len(list) > 0; at++ {
			checkValidFields(t, list[1:])
			for _, value := range append(someNumbers(), list[0].Value, -1) {
				twice := insertedField(list, at, impl.Field{Name: list[0].Name, Value: value})
				checkOtherFields(t, twice)
				refuseFields(t, fieldsWritten(twice))
				refuseFields(t, fieldsWritten(sortedFields(twice)))
			}
		}
	}
}

// P71: with any name twice, and with all names the same; without one of both they are valid.
func TestP71AnyFieldTwice(t *testing.T) {
	for one := 0; one < mostFields; one++ {
		for two := 0; two < mostFields; two++ {
			list := sixFields()
			list[two].Name = list[one].Name
			if checkFields(t, list) != (one == two) {
				t.Fatalf("%+v", list)
			}
			checkValidFields(t, fieldsWithout(list, one))
			checkValidFields(t, fieldsWithout(list, two))
		}
	}
	for many := 0; many <= 10; many++ {
		for _, value := range []int{0, 7, greatest} {
			list := []impl.Field{}
			for k := 0; k < many; k++ {
				list = append(list, impl.Field{Name: "a", Value: value})
			}
			if checkFields(t, list) != (many <= 1) {
				t.Fatalf("%+v", list)
			}
		}
	}
}

// P71: all lists of up to six of four fields, of which two have the same name, and one is not valid.
func TestP71AllSmallLists(t *testing.T) {
	some := []impl.Field{{Name: "b", Value: 1}, {Name: "b", Value: 2}, {Name: "a", Value: 1}, {Name: "c", Value: -1}}
	valid := 0
	for many := 0; many <= mostFields; many++ {
		for _, order := range textsOf("0123", many) {
			if checkFields(t, fieldsInOrder(some, order)) {
				valid++
			}
		}
	}
	// None, three alone, and each b with the a, in both orders.
	if valid != 1+3+2*2 {
		t.Fatalf("%d lists are valid", valid)
	}
}

// P71: one that is not valid, at every place of fields of every length.
func TestP71InvalidFields(t *testing.T) {
	for _, bad := range badFields() {
		for many := 0; many < mostFields; many++ {
			for at := 0; at <= many; at++ {
				checkOtherFields(t, insertedField(sixFields()[:many], at, bad))
			}
		}
	}
}

// P71: every byte at every place of names of every length.
func TestP71EveryByteOfNames(t *testing.T) {
	for many := 1; many <= 9; many++ {
		for at := 0; at < many; at++ {
			for b := 0; b < allBytes; b++ {
				name := withByte(letters(many), at, b)
				checkFields(t, []impl.Field{{Name: name, Value: 36}})
				checkFields(t, []impl.Field{{Name: "ab", Value: 7}, {Name: name, Value: 36}, {Name: letters(8), Value: 8}})
			}
		}
	}
}

// P71: none and up to MaxFields are valid, more are not, however many, and wherever they are taken from.
func TestP71Lengths(t *testing.T) {
	for many := 0; many <= 40; many++ {
		if checkFields(t, manyFields(many)) != (many <= mostFields) {
			t.Fatalf("%d fields", many)
		}
	}
	all := manyFields(40)
	for from := 0; from+mostFields < len(all); from++ {
		checkValidFields(t, all[from:from+mostFields])
		checkOtherFields(t, all[from:from+mostFields+1])
	}
	great := manyFields(100000)
	if impl.FieldsValid(great) || len(impl.SortFields(great)) != 0 || impl.FieldsText(great) != "" {
		t.Fatalf("%d fields are valid", len(great))
	}
}

// P72: all texts of up to eight bytes of what fields are written with.
func TestP72AllSmallTexts(t *testing.T) {
	for many := 0; many <= 8; many++ {
		accepted := 0
		for _, s := range textsOf("ab1=;", many) {
			if checkReadFields(t, s) {
				accepted++
			}
		}
		if (accepted > 0) != (many == 0 || many > 2) {
			t.Fatalf("%d texts of %d bytes are accepted", accepted, many)
		}
	}
}

// P72: all lines of up to six pairs of some, of which some have the same names, and one is empty.
func TestP72AllSmallLines(t *testing.T) {
	accepted := 0
	for _, line := range smallLines([]string{"a=1", "a=2", "b=1", "b=0", "c=gjdgxs", ""}, 6) {
		if checkReadFields(t, joinedBy(line, ";")) {
			accepted++
		}
	}
	// Each of both a, or none, with each of both b, or none, with c, or without; and the empty text once more, as the line of the empty pair.
	if accepted != 3*3*2+1 {
		t.Fatalf("%d lines are accepted", accepted)
	}
}

// P72: of all orders of six fields in a text one is accepted.
func TestP72EveryOrder(t *testing.T) {
	accepted := 0
	for _, order := range ordersOf(pairsOf(sixFields())) {
		if checkReadFields(t, joinedBy(order, ";")) {
			accepted++
		}
	}
	if accepted != 1 {
		t.Fatalf("%d orders are accepted", accepted)
	}
}

// P72: texts in which a field comes twice, with the same value, and with another one, wherever.
func TestP72FieldsTwice(t *testing.T) {
	for _, list := range someFields() {
		sorted := sortedFields(list)
		for _, f := range sorted {
			for at := 0; at <= len(sorted); at++ {
				for _, value := range []int{f.Value, 0, 1, 36, greatest} {
					refuseFields(t, fieldsWritten(insertedField(sorted, at, impl.Field{Name: f.Name, Value: value})))
				}
			}
		}
		if s := fieldsWritten(sorted); s != "" {
			for many := 1; many <= 10; many++ {
				refuseFields(t, s+repeated(";"+s, many))
				refuseFields(t, s+repeated(s, many))
			}
		}
	}
}

// P72: texts of more than MaxFields fields, the names of which ascend.
func TestP72TooManyFields(t *testing.T) {
	for many := 0; many <= 40; many++ {
		if checkReadFields(t, fieldsWritten(manyFields(many))) != (many <= mostFields) {
			t.Fatalf("%d fields", many)
		}
	}
	names := []string{"a", "b", "c", "d", "e", "f", "g"}
	if checkReadFields(t, fieldsWritten(fieldsOf(names))) || !checkReadFields(t, fieldsWritten(fieldsOf(names[1:]))) {
		t.Fatalf("%q", names)
	}
}

// P72: semicolons more at any place, and semicolons and equals signs that are missing.
func TestP72MoreSigns(t *testing.T) {
	for _, list := range someFields() {
		s := fieldsWritten(sortedFields(list))
		for at := 0; at <= len(s); at++ {
			for many := 1; many <= 8; many++ {
				refuseFields(t, s[:at]+repeated(";", many)+s[at:])
				refuseFields(t, s[:at]+repeated("=", many)+s[at:])
			}
			if at < len(s) && (s[at] == '=' || s[at] == ';') {
				refuseFields(t, s[:at]+s[at+1:])
			}
		}
	}
}

// P72: every byte at every place, in its place and before it, and every part.
func TestP72EveryByte(t *testing.T) {
	for _, s := range []string{"", "a=0", "a=7;b=10", "aa=gjdgxs;ab=1;b=zz", "a=1;b=2;c=3;d=4;e=5;f=6", "abcdefgh=gjdgxs;z=1"} {
		if !checkReadFields(t, s) {
			t.Fatalf("ReadFields(%q) is refused", s)
		}
		for at := 0; at <= len(s); at++ {
			for b := 0; b < allBytes; b++ {
				checkReadFields(t, s[:at]+string([]byte{byte(b)})+s[at:])
				if at < len(s) {
					checkReadFields(t, withByte(s, at, b))
				}
			}
			for till := at; till <= len(s); till++ {
				checkReadFields(t, s[at:till])
				checkReadFields(t, s[:at]+s[till:])
			}
		}
	}
}

// P72: what is no mark is no value, at every place, and every mark is read as its number.
func TestP72OtherValues(t *testing.T) {
	for _, mark := range []string{"", "00", "01", "010", "-1", "-0", "+1", "1.0", "0x1", "A", "1A", "_", " 1", "1 ", "1=1", "=1", "gjdgxt", "gjdgy0", "zzzzzz", "1000000", "gjdgxs0", "0gjdgxs", "1000000000", "1z141z4", "3w5e11264sgsg", "1y2p0ij32e8e8", letters(100000), repeated("9", 100000), "\xff", "\u0661"} {
		refuseFields(t, "b="+mark)
		refuseFields(t, "a=1;b="+mark)
		refuseFields(t, "b="+mark+";c=1")
		refuseFields(t, "a=1;b="+mark+";c=1")
	}
	mark := "0"
	for n := 0; n < 5000; n++ {
		got, ok := impl.ReadFields("a=" + mark + ";b=1")
		if !ok || !sameFields(got, []impl.Field{{Name: "a", Value: n}, {Name: "b", Value: 1}}) {
			t.Fatalf("with %q they are %+v, %t", mark, got, ok)
		}
		refuseFields(t, "a=0"+mark+";b=1")
		mark = nextMark(mark)
	}
}

// P72: what is no word is no name, at every place.
func TestP72OtherNames(t *testing.T) {
	for _, name := range badWords() {
		refuseFields(t, name+"=1")
		refuseFields(t, "a=1;"+name+"=1")
		refuseFields(t, name+"=1;z=1")
		refuseFields(t, "a=1;"+name+"=1;z=1")
	}
}

// P72: other signs between names and values, and between fields.
func TestP72OtherSigns(t *testing.T) {
	for _, sign := range []string{"", " ", "; ", " ;", ";;", ",", ":", "&", "|", ".", "\n", ";\n", "\x00", "\xff", "%3b", "\u037e", "\uff1b"} {
		refuseFields(t, "a=1"+sign+"b=2")
		refuseFields(t, "a=1;b=2"+sign+"c=3")
	}
	for _, sign := range []string{"", " ", " =", "= ", "==", ":", ":=", "-", "\t", "\x00", "\xff", "%3d", "\uff1d"} {
		refuseFields(t, "a"+sign+"1")
		refuseFields(t, "a=1;b"+sign+"2")
	}
	for _, end := range []string{";", "=", " ", "\n", "\r\n", "\x00", ";;", "; "} {
		refuseFields(t, end)
		refuseFields(t, "a=1;b=2"+end)
		refuseFields(t, end+"a=1;b=2")
	}
}

// P72: all pairs of bytes, as names, as values, and at the end.
func TestP72AllShortTexts(t *testing.T) {
	accepted := 0
	for a := 0; a < allBytes; a++ {
		for b := 0; b < allBytes; b++ {
			two := string([]byte{byte(a), byte(b)})
			refuseFields(t, two)
			refuseFields(t, two[:1])
			checkReadFields(t, two+"=1")
			checkReadFields(t, two[:1]+"="+two[1:])
			checkReadFields(t, "a=1"+two)
			checkReadFields(t, "a=1"+two+"=1")
			checkReadFields(t, "a=1;"+two[:1]+"="+two[1:])
			if checkReadFields(t, "a="+two) {
				accepted++
			}
		}
	}
	if accepted != 35*36 {
		t.Fatalf("%d values of two bytes are accepted", accepted)
	}
}

// P72: texts that are much too long are refused, and soon.
func TestP72GreatTexts(t *testing.T) {
	for _, piece := range []string{";", "=", "a", "0", "a=1;", ";a=1", "a=1", "=;", "\x00", "\xff"} {
		s := repeated(piece, 300000)
		for _, before := range []string{"", "a", "a=", "a=1", "a=1;", "a=1;b=2", "a=1;b=2;c=3;d=4;e=5;f=6", "a=1;b=2;c=3;d=4;e=5;f=6;"} {
			refuseFields(t, before+s)
			refuseFields(t, s+before)
		}
		checkOtherFields(t, []impl.Field{{Name: s, Value: 1}})
		checkOtherFields(t, []impl.Field{{Name: "a", Value: 1}, {Name: s, Value: 1}})
	}
}

// P72: texts of up to seven pairs in no order, many of which ascend.
func TestP72WhateverPairs(t *testing.T) {
	names := []string{"a", "a1", "aa", "b", "c", "d", "e", "z9", "abcdefgh", "abcdefghi", "A", ""}
	marks := []string{"0", "1", "10", "zz", "gjdgxs", "a1b2c3", "5", "7", "gjdgxt", "01", "", "1=1"}
	data := uint32(4)
	accepted := 0
	for k := 0; k < 100000; k++ {
		pairs := []string{}
		for many := k % 8; many > 0; many-- {
			data = nextData(data)
			name := chosenOf(data, len(names))
			data = nextData(data)
			pairs = append(pairs, names[name]+"="+marks[chosenOf(data, len(marks))])
		}
		if checkReadFields(t, joinedBy(pairs, ";")) {
			accepted++
		}
	}
	// An eighth is empty, which is accepted.
	if accepted < 20000 || accepted > 90000 {
		t.Fatalf("%d texts are accepted", accepted)
	}
}

// P72: texts of fields with up to four bytes changed, taken away, or added, in no order.
func TestP72WhateverChanges(t *testing.T) {
	alphabet := "=;0az9gA \n\x00\xff"
	data := uint32(5)
	accepted := 0
	for k := 0; k < 2000; k++ {
		for _, list := range someFields() {
			s := fieldsWritten(sortedFields(list))
			for changes := 0; changes < 4 && s != ""; changes++ {
				data = nextData(data)
				at := chosenOf(data, len(s))
				data = nextData(data)
				b := chosenOf(data, len(alphabet))
				data = nextData(data)
				s = changedAt(s, at, alphabet[b:b+1], chosenOf(data, 3))
				if checkReadFields(t, s) {
					accepted++
				}
			}
		}
	}
	if accepted == 0 {
		t.Fatal("no text is accepted")
	}
}
