package impl

import "strings"

// The limits of words and texts; MaxPrint is the greatest print.
const (
	MaxWord  = 8
	MaxText  = 60
	MaxPrint = 16777212
)

const hexDigits = "0123456789abcdef"

// WordValid reports whether a text has 1..MaxWord bytes, each a small letter or a digit, the first one no digit.
func WordValid(s string) bool {
	if len(s) < 1 || len(s) > MaxWord || !isSmallLetter(s[0]) {
		return false
	}
	for i := 1; i < len(s); i++ {
		if !isSmallLetter(s[i]) && !isDigit(s[i]) {
			return false
		}
	}
	return true
}

// TextValid reports whether a text has at most MaxText bytes, each in 32..126.
func TextValid(s string) bool {
	if len(s) > MaxText {
		return false
	}
	for i := 0; i < len(s); i++ {
		if s[i] < 32 || s[i] > 126 {
			return false
		}
	}
	return true
}

// HexText returns the digits of a number in 0..MaxPrint in the base 16, with a to f for 10 to 15; "" for other numbers.
func HexText(n int) string {
	if n < 0 || n > MaxPrint {
		return ""
	}
	text := hexDigits[n%16 : n%16+1]
	for n >= 16 {
		n /= 16
		text = hexDigits[n%16:n%16+1] + text
	}
	return text
}

// ReadHex returns the number whose HexText a text is; -1 if there is none.
func ReadHex(s string) int {
	n := 0
	for i := 0; i < len(s); i++ {
		digit := strings.IndexByte(hexDigits, s[i])
		if digit < 0 {
			return -1
		}
		n = 16*n + digit
		// Leaving at once keeps the arithmetic exact, however long the text is.
		if n > MaxPrint {
			return -1
		}
	}
	// The empty text and zeros before a number pass the loop, but no number is written like that.
	if HexText(n) != s {
		return -1
	}
	return n
}

func isSmallLetter(b byte) bool {
	return b >= 'a' && b <= 'z'
}

func isDigit(b byte) bool {
	return b >= '0' && b <= '9'
}
