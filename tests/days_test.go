package tests

import (
	"testing"

	"loop.example/feedbridge/impl"
)

const (
	lastYear = 4000
	lastDay  = 1460969
)

const greatestInt = int(^uint(0) >> 1)

// calendar steps through the days one by one, so that it does not share its arithmetic with the program.
type calendar struct {
	number int
	year   int
	month  int
	day    int
}

func firstDay() calendar {
	return calendar{number: 0, year: 1, month: 1, day: 1}
}

func nextDay(c calendar) calendar {
	c.number++
	if c.day < monthLength(c.year, c.month) {
		c.day++
		return c
	}
	c.day = 1
	if c.month < 12 {
		c.month++
		return c
	}
	c.month = 1
	c.year++
	return c
}

func monthLength(year int, month int) int {
	if month == 2 && isLong(year) {
		return 29
	}
	return []int{31, 28, 31, 30, 31, 30, 31, 31, 30, 31, 30, 31}[month-1]
}

func isLong(year int) bool {
	if year%400 == 0 {
		return true
	}
	if year%100 == 0 {
		return false
	}
	return year%4 == 0
}

func dateOf(year int, month int, day int) string {
	return digits(year, 4) + "." + digits(month, 2) + "." + digits(day, 2)
}

func digits(n int, many int) string {
	text := ""
	for k := 0; k < many; k++ {
		text = string([]byte{byte('0' + n%10)}) + text
		n = n / 10
	}
	return text
}

// outside are numbers that are no year, no month and no day of one.
func outside() []int {
	return []int{0, -1, -4, -12, -400, -greatestInt, -greatestInt - 1, greatestInt, greatestInt - 3, 1 << 31, 1 << 32, 1<<32 + 1, 1<<32 + 4}
}

func TestMaxYear(t *testing.T) {
	if impl.MaxYear != lastYear {
		t.Fatal(impl.MaxYear)
	}
}

// P2: all days, one after the other, and each date greater than the one before.
func TestP2DatesCanBeRead(t *testing.T) {
	before := ""
	c := firstDay()
	for c.year <= lastYear {
		date := impl.DateText(c.number)
		if date != dateOf(c.year, c.month, c.day) {
			t.Fatalf("DateText(%d) is %q, not %q", c.number, date, dateOf(c.year, c.month, c.day))
		}
		if got := impl.ReadDate(date); got != c.number {
			t.Fatalf("ReadDate(%q) is %d, not %d", date, got, c.number)
		}
		if date <= before {
			t.Fatalf("%q is not greater than %q", date, before)
		}
		before = date
		c = nextDay(c)
	}
	if c.number != lastDay+1 {
		t.Fatalf("there are %d days", c.number)
	}
}

// P2: dates whose days are known from elsewhere.
func TestP2KnownDates(t *testing.T) {
	days := []int{0, 30, 31, 58, 59, 364, 365, 1460, 1461, 693595, 719162, 730178, 730179, 730484, 730485, lastDay}
	dates := []string{"0001.01.01", "0001.01.31", "0001.02.01", "0001.02.28", "0001.03.01", "0001.12.31", "0002.01.01", "0004.12.31", "0005.01.01",
		"1900.01.01", "1970.01.01", "2000.02.29", "2000.03.01", "2000.12.31", "2001.01.01", "4000.12.31"}
	for k := range days {
		if got := impl.DateText(days[k]); got != dates[k] {
			t.Fatalf("DateText(%d) is %q, not %q", days[k], got, dates[k])
		}
		if got := impl.ReadDate(dates[k]); got != days[k] {
			t.Fatalf("ReadDate(%q) is %d, not %d", dates[k], got, days[k])
		}
	}
}

// P2: other days have no date.
func TestP2OtherDaysHaveNoDate(t *testing.T) {
	for _, day := range []int{-1, -2, -365, -366, -lastDay, -greatestInt, -greatestInt - 1, lastDay + 1, lastDay + 2, lastDay + 366, 1 << 31, 1 << 32, greatestInt - 1, greatestInt} {
		if got := impl.DateText(day); got != "" {
			t.Fatalf("DateText(%d) is %q", day, got)
		}
	}
}

// P45: every year, its February, and the year after it.
func TestP45LeapYears(t *testing.T) {
	many := 0
	for year := 1; year <= lastYear; year++ {
		leap := impl.LeapYear(year)
		if leap != isLong(year) {
			t.Fatalf("LeapYear(%d) is %t", year, leap)
		}
		if leap != (impl.MonthDays(year, 2) == 29) {
			t.Fatalf("February of %d has %d days", year, impl.MonthDays(year, 2))
		}
		if leap != (impl.DayNumber(year, 2, 29) != -1) {
			t.Fatalf("DayNumber(%d, 2, 29) is %d", year, impl.DayNumber(year, 2, 29))
		}
		if leap && impl.LeapYear(year+1) {
			t.Fatalf("%d follows a leap year", year+1)
		}
		if leap {
			many++
		}
	}
	if many != 970 {
		t.Fatalf("there are %d leap years", many)
	}
}

func TestP45KnownYears(t *testing.T) {
	for _, year := range []int{4, 8, 96, 104, 400, 1600, 1996, 2000, 2024, 2400, 3996, 4000} {
		if !impl.LeapYear(year) {
			t.Fatalf("%d is a leap year", year)
		}
	}
	for _, year := range []int{1, 2, 3, 5, 100, 200, 300, 1700, 1800, 1900, 2001, 2022, 2023, 2100, 3900, 3999} {
		if impl.LeapYear(year) {
			t.Fatalf("%d is no leap year", year)
		}
	}
}

// P45: years outside 1..MaxYear are none, also those that 4 or 400 divides.
func TestP45OtherYears(t *testing.T) {
	for _, year := range append(outside(), 4001, 4004, 4400, 8000) {
		if impl.LeapYear(year) {
			t.Fatalf("%d is no year", year)
		}
	}
}

// P46: every month of every year, and their sum.
func TestP46Months(t *testing.T) {
	for year := 1; year <= lastYear; year++ {
		sum := 0
		for month := 1; month <= 12; month++ {
			many := impl.MonthDays(year, month)
			if many != monthLength(year, month) {
				t.Fatalf("MonthDays(%d, %d) is %d", year, month, many)
			}
			sum += many
		}
		if !(sum == 366 && impl.LeapYear(year)) && !(sum == 365 && !impl.LeapYear(year)) {
			t.Fatalf("%d has %d days", year, sum)
		}
	}
}

func TestP46OtherMonths(t *testing.T) {
	for _, month := range append(outside(), 13, 14, 24, 100) {
		for _, year := range []int{1, 4, 1900, 2000, 2023, lastYear} {
			if got := impl.MonthDays(year, month); got != -1 {
				t.Fatalf("MonthDays(%d, %d) is %d", year, month, got)
			}
		}
	}
	for _, year := range append(outside(), 4001, 4004, 4400) {
		for month := -1; month <= 14; month++ {
			if got := impl.MonthDays(year, month); got != -1 {
				t.Fatalf("MonthDays(%d, %d) is %d", year, month, got)
			}
		}
	}
}

// P47: from the first day to the last one, each has the number after the one before.
func TestP47DaysFollowEachOther(t *testing.T) {
	number := -1
	for year := 1; year <= lastYear; year++ {
		for month := 1; month <= 12; month++ {
			for day := 1; day <= impl.MonthDays(year, month); day++ {
				got := impl.DayNumber(year, month, day)
				if got != number+1 {
					t.Fatalf("DayNumber(%d, %d, %d) is %d, not %d", year, month, day, got, number+1)
				}
				number = got
			}
		}
	}
	if number != lastDay {
		t.Fatalf("the last day is %d", number)
	}
}

// P47: the last day of February, and the first one of March after it.
func TestP47LastDaysOfFebruary(t *testing.T) {
	for _, year := range []int{1, 4, 100, 400, 1900, 2000, 2023, 2024, 2100, 3999, 4000} {
		last := 28
		if isLong(year) {
			last = 29
		}
		number := impl.DayNumber(year, 2, last)
		if number == -1 || impl.DayNumber(year, 2, last+1) != -1 {
			t.Fatalf("the last day of February %d is not %d", year, last)
		}
		if impl.DayNumber(year, 3, 1) != number+1 {
			t.Fatalf("the first of March %d is %d", year, impl.DayNumber(year, 3, 1))
		}
	}
}

// P47: days that a month does not have have no number.
func TestP47OtherDays(t *testing.T) {
	for _, year := range []int{1, 4, 1900, 2000, 2023, 2024, lastYear} {
		for month := 1; month <= 12; month++ {
			last := monthLength(year, month)
			for _, day := range append(outside(), last+1, last+2, last+31, 100) {
				if got := impl.DayNumber(year, month, day); got != -1 {
					t.Fatalf("DayNumber(%d, %d, %d) is %d", year, month, day, got)
				}
			}
		}
		for _, month := range append(outside(), 13, 14, 100) {
			for day := -1; day <= 32; day++ {
				if got := impl.DayNumber(year, month, day); got != -1 {
					t.Fatalf("DayNumber(%d, %d, %d) is %d", year, month, day, got)
				}
			}
		}
	}
}

func TestP47OtherYears(t *testing.T) {
	for _, year := range append(outside(), 4001, 4004, 4400) {
		for month := -1; month <= 13; month++ {
			for day := -1; day <= 32; day++ {
				if got := impl.DayNumber(year, month, day); got != -1 {
					t.Fatalf("DayNumber(%d, %d, %d) is %d", year, month, day, got)
				}
			}
		}
	}
}

func checkDate(t *testing.T, s string) bool {
	t.Helper()
	day := impl.ReadDate(s)
	if day == -1 {
		return false
	}
	if got := impl.DateText(day); got != s {
		t.Fatalf("%q is accepted, but DateText of it is %q", s, got)
	}
	if got := impl.ReadDate(s + "0"); got != -1 {
		t.Fatalf("%q with a zero after it is read as %d", s, got)
	}
	return true
}

// P48: of all months and days of two digits, only those of the calendar are accepted.
func TestP48AllMonthsAndDays(t *testing.T) {
	for _, year := range []int{0, 1, 4, 100, 1900, 2000, 2023, 2024, 3999, 4000, 4001, 4004, 9999} {
		for month := 0; month < 100; month++ {
			for day := 0; day < 100; day++ {
				isYear := year >= 1 && year <= lastYear
				isDate := isYear && month >= 1 && month <= 12 && day >= 1 && day <= monthLength(year, month)
				if s := dateOf(year, month, day); checkDate(t, s) != isDate {
					t.Fatalf("ReadDate(%q) is %d", s, impl.ReadDate(s))
				}
			}
		}
	}
}

// P48: of all years of four digits, only those up to MaxYear are accepted.
func TestP48AllYears(t *testing.T) {
	for year := 0; year < 10000; year++ {
		isYear := year >= 1 && year <= lastYear
		for _, end := range []string{".01.01", ".02.28", ".12.31"} {
			if s := digits(year, 4) + end; checkDate(t, s) != isYear {
				t.Fatalf("ReadDate(%q) is %d", s, impl.ReadDate(s))
			}
		}
		if s := digits(year, 4) + ".02.29"; checkDate(t, s) != (isYear && isLong(year)) {
			t.Fatalf("ReadDate(%q) is %d", s, impl.ReadDate(s))
		}
		if s := digits(year, 4) + ".02.30"; checkDate(t, s) {
			t.Fatalf("ReadDate(%q) is %d", s, impl.ReadDate(s))
		}
	}
}

// P48: every byte at every place of a date, in its place and before it, and every place without its byte.
func TestP48EveryByteOfDates(t *testing.T) {
	for _, date := range []string{"0001.01.01", "1111.11.11", "2000.02.29", "4000.12.31"} {
		if !checkDate(t, date) {
			t.Fatalf("%q is a date", date)
		}
		for at := 0; at < len(date); at++ {
			isPoint := at == 4 || at == 7
			for b := 0; b < allBytes; b++ {
				s := withByte(date, at, b)
				isKind := isPoint && b == '.' || !isPoint && b >= '0' && b <= '9'
				if checkDate(t, s) && !isKind {
					t.Fatalf("ReadDate(%q) is %d", s, impl.ReadDate(s))
				}
			}
			refuse(t, date[:at]+date[at+1:])
		}
		for at := 0; at <= len(date); at++ {
			for b := 0; b < allBytes; b++ {
				refuse(t, date[:at]+string([]byte{byte(b)})+date[at:])
			}
		}
	}
}

func refuse(t *testing.T, s string) {
	t.Helper()
	if got := impl.ReadDate(s); got != -1 {
		t.Fatalf("ReadDate(%q) is %d", s, got)
	}
}

// P48: parts of dates, and dates that are written otherwise.
func TestP48InvalidDates(t *testing.T) {
	date := "2000.02.29"
	for at := 0; at < len(date); at++ {
		refuse(t, date[:at])
		refuse(t, date[at+1:])
	}
	for _, s := range []string{"2000.2.29", "2000.02.9", "2000.2.9", "200.002.29", "20000.2.29", "2000.022.9", "2000-02-29", "2000/02/29", "20000229", "2000.02.29.", ".2000.02.29",
		"2000.02.29 ", " 2000.02.29", "2000.02.29\n", "2000.02.2a", "2000.02..9", "2000.02.-1", "2000.-1.01", "-001.01.01", "+001.01.01", "2000.+2.01", "2000. 2.01", "2000.02. 1",
		"2001.02.29", "1900.02.29", "2000.02.30", "2000.04.31", "2000.00.10", "2000.01.00", "2000.13.01", "2000.01.32", "0000.01.01", "0000.12.31", "4001.01.01",
		"..........", "          ", "yyyy.mm.dd", "29.02.2000", "2000.02.29\x00", "\x00\x00\x00\x00.\x00\x00.\x00\x00", "2000.02.2\u0669"} {
		refuse(t, s)
	}
	for many := 0; many <= 100; many++ {
		if many != len(date) {
			refuse(t, digits(1, many))
		}
		refuse(t, letters(many))
	}
	refuse(t, letters(100000))
	refuse(t, date+digits(0, 1000))
}
