package impl

// The limits of marks and texts; Great is the greatest number.
const (
	MaxWord = 8
	MaxText = 80
	Great   = 1000000000
)

const (
	markBase   = 36
	markDigits = "0123456789abcdefghijklmnopqrstuvwxyz"
)

// WordValid reports whether a text has 1..MaxWord bytes, each a small letter or a digit, the first one no digit.
func WordValid(s string) bool {
	if len(s) < 1 || len(s) > MaxWord || isDigit(s[0]) {
		return false
	}
	for k := 0; k < len(s); k++ {
		if !isDigit(s[k]) && !isSmallLetter(s[k]) {
			return false
		}
	}
	return true
}

// TextValid reports whether a text has at most MaxText bytes, each in 32..126.
func TextValid(s string) bool {
	if len(s) > MaxText {
		return false
	}
	for k := 0; k < len(s); k++ {
		if !isTextByte(int(s[k])) {
			return false
		}
	}
	return true
}

// MarkText returns the digits of a number in 0..Great in the base 36, with a to z for 10 to 35; "" for other numbers.
func MarkText(n int) string {
	if !isNumber(n) {
		return ""
	}
	text := markDigit(n % markBase)
	for rest := n / markBase; rest > 0; rest = rest / markBase {
		text = markDigit(rest%markBase) + text
	}
	return text
}

// ReadMark returns the number whose MarkText a text is; -1 if there is none.
func ReadMark(s string) int {
	if len(s) == 0 || (len(s) > 1 && s[0] == '0') {
		return -1
	}
	n := 0
	for k := 0; k < len(s); k++ {
		digit := markDigitValue(s[k])
		// The bound is checked before the step, as the step could overflow.
		if digit < 0 || n > (Great-digit)/markBase {
			return -1
		}
		n = n*markBase + digit
	}
	return n
}

func isNumber(n int) bool {
	return n >= 0 && n <= Great
}

// isTextByte takes any number, as not only bytes are asked about.
func isTextByte(b int) bool {
	return b >= 32 && b <= 126
}

func isDigit(b byte) bool {
	return b >= '0' && b <= '9'
}

func isSmallLetter(b byte) bool {
	return b >= 'a' && b <= 'z'
}

// markDigit expects a value in 0..markBase-1.
func markDigit(value int) string {
	return markDigits[value : value+1]
}

// markDigitValue returns -1 for a byte that is no digit of a mark.
func markDigitValue(b byte) int {
	if isDigit(b) {
		return int(b - '0')
	}
	if isSmallLetter(b) {
		return int(b-'a') + 10
	}
	return -1
}
