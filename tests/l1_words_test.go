package tests

import (
	"strconv"
	"strings"
	"testing"

	"loop.example/proofarchive/impl"
)

func TestLimitsOfWords(t *testing.T) {
	if impl.MaxWord != 8 || impl.MaxText != 60 || impl.MaxPrint != 16777212 {
		t.Fatal("a constant has another value than in the table of the document")
	}
}

// someNumbers returns numbers in 0..MaxPrint: all small ones, those around every power of 16, the greatest ones, and some between.
func someNumbers() []int {
	var list []int
	for n := 0; n < 5000; n++ {
		list = append(list, n)
	}
	for power := 16; power <= impl.MaxPrint+4; power *= 16 {
		for n := power - 3; n <= power+3 && n <= impl.MaxPrint; n++ {
			list = append(list, n)
		}
	}
	for n := 5000; n < impl.MaxPrint; n += 997 {
		list = append(list, n)
	}
	for n := impl.MaxPrint - 300; n <= impl.MaxPrint; n++ {
		list = append(list, n)
	}
	return list
}

// numbersOutside are numbers that are none of 0..MaxPrint.
var numbersOutside = []int{-1, -2, -16, -impl.MaxPrint, -1 << 63, impl.MaxPrint + 1, impl.MaxPrint + 2, impl.MaxPrint + 4, 1 << 32, 1<<63 - 1}

// numberTexts returns all texts of at most three of the given signs, and longer ones near the bounds.
func numberTexts() []string {
	signs := "0129afgAFG/:`@ -+_x.\x00\n\xff"
	list := []string{""}
	for begin, long := 0, 0; long < 3; long++ {
		end := len(list)
		for ; begin < end; begin++ {
			for i := 0; i < len(signs); i++ {
				list = append(list, list[begin]+signs[i:i+1])
			}
		}
	}
	for n := impl.MaxPrint - 20; n <= impl.MaxPrint+20; n++ {
		list = append(list, strconv.FormatInt(int64(n), 16))
	}
	return append(list, "123456", "abcdef", "100000", "fffff", "00000f")
}

// P1
func TestHexNumbersCanBeRead(t *testing.T) {
	for _, n := range someNumbers() {
		if got := impl.ReadHex(impl.HexText(n)); got != n {
			t.Fatalf("ReadHex of the text %q of %d is %d", impl.HexText(n), n, got)
		}
	}
}

func TestHexTextHasTheDigits(t *testing.T) {
	known := map[int]string{0: "0", 1: "1", 9: "9", 10: "a", 15: "f", 16: "10", 171: "ab", 4096: "1000", 11259375: "abcdef", impl.MaxPrint: "fffffc"}
	for n, text := range known {
		if got := impl.HexText(n); got != text {
			t.Fatalf("HexText(%d) is %q, not %q", n, got, text)
		}
	}
	for _, n := range someNumbers() {
		if got, want := impl.HexText(n), strconv.FormatInt(int64(n), 16); got != want {
			t.Fatalf("HexText(%d) is %q, not %q", n, got, want)
		}
	}
	for _, n := range numbersOutside {
		if got := impl.HexText(n); got != "" {
			t.Fatalf("HexText(%d) is %q, not empty", n, got)
		}
	}
}

// P45
func TestWordsHaveNoSpaces(t *testing.T) {
	for _, word := range []string{"a", "z", "az", "z9", "a0", "ab12", "a1b2c3", "abcdefg", "zyxwvuts", "a0123456"} {
		if !impl.WordValid(word) {
			t.Fatalf("%q is a word", word)
		}
		if !impl.WordValid(word[:1]) {
			t.Fatalf("%q is a word", word[:1])
		}
		for i := 0; i <= len(word); i++ {
			if with := word[:i] + " " + word[i:]; impl.WordValid(with) {
				t.Fatalf("%q is no word", with)
			}
		}
		for i := range word {
			if with := word[:i] + " " + word[i+1:]; impl.WordValid(with) {
				t.Fatalf("%q is no word", with)
			}
		}
	}
}

func TestWordsHaveTheirLength(t *testing.T) {
	for long := 0; long <= 3*impl.MaxWord; long++ {
		word := strings.Repeat("a", long)
		if impl.WordValid(word) != (long >= 1 && long <= impl.MaxWord) {
			t.Fatalf("a word of %d bytes", long)
		}
	}
	if impl.WordValid(strings.Repeat("a", 256)) || impl.WordValid(strings.Repeat("a", 257)) {
		t.Fatal("a long text is no word")
	}
}

func TestWordsHaveLettersAndDigits(t *testing.T) {
	letters, digits := "abcdefghijklmnopqrstuvwxyz", "0123456789"
	for b := 0; b < 256; b++ {
		text := string([]byte{byte(b)})
		letter := strings.Contains(letters, text)
		if impl.WordValid(text) != letter || impl.WordValid(text+"bc") != letter {
			t.Fatalf("byte %d as the first one of a word", b)
		}
		later := letter || strings.Contains(digits, text)
		for _, word := range []string{"a" + text, "a" + text + "b", "a9" + text, "abcdefg" + text} {
			if impl.WordValid(word) != later {
				t.Fatalf("byte %d in the word %q", b, word)
			}
		}
	}
	for _, text := range []string{"1a", "9", "A", "aB", "a-b", "a_b", "\u00e4", "a\u00e4", "a\n"} {
		if impl.WordValid(text) {
			t.Fatalf("%q is no word", text)
		}
	}
}

// P46
func TestTextsHaveNoLineEnds(t *testing.T) {
	for _, text := range []string{"", " ", "a", "~", " A~", "two words", "0=;/%", strings.Repeat(" ", impl.MaxText), strings.Repeat("~", impl.MaxText)} {
		for i := 0; i <= len(text); i++ {
			if !impl.TextValid(text[:i]) {
				t.Fatalf("%q is valid", text[:i])
			}
			for _, end := range []string{"\n", "\r", "\r\n"} {
				if impl.TextValid(text[:i]+end+text[i:]) || impl.TextValid(text[:i]+end) {
					t.Fatalf("%q with a line end at %d is not valid", text, i)
				}
			}
		}
		for i := range text {
			if with := text[:i] + "\n" + text[i+1:]; impl.TextValid(with) {
				t.Fatalf("%q is not valid", with)
			}
		}
	}
}

func TestTextsHaveTheirLength(t *testing.T) {
	for long := 0; long <= 3*impl.MaxText; long++ {
		if impl.TextValid(strings.Repeat("x", long)) != (long <= impl.MaxText) {
			t.Fatalf("a text of %d bytes", long)
		}
	}
	if impl.TextValid(strings.Repeat("x", 256)) || impl.TextValid(strings.Repeat("x", 300)) {
		t.Fatal("a long text is not valid")
	}
}

func TestTextsHavePrintedBytes(t *testing.T) {
	rest := strings.Repeat("x", impl.MaxText-1)
	for b := 0; b < 256; b++ {
		sign := string([]byte{byte(b)})
		for _, text := range []string{sign, sign + rest, rest + sign, "a" + sign + "b"} {
			if impl.TextValid(text) != (b >= 32 && b <= 126) {
				t.Fatalf("byte %d in the text %q", b, text)
			}
		}
	}
	if impl.TextValid("\u00e4") || impl.TextValid("\x1f") || impl.TextValid("\x7f") || !impl.TextValid(" ") || !impl.TextValid("~") {
		t.Fatal("bytes 31, 32, 126 and 127")
	}
}

// P47
func TestAcceptedNumbersAreCanonical(t *testing.T) {
	texts := numberTexts()
	for _, n := range someNumbers() {
		texts = append(texts, strconv.FormatInt(int64(n), 16))
	}
	accepted := 0
	for _, text := range texts {
		n := impl.ReadHex(text)
		if n == -1 {
			continue
		}
		accepted++
		if impl.HexText(n) != text {
			t.Fatalf("ReadHex(%q) is %d, and its text is %q", text, n, impl.HexText(n))
		}
		for _, zeros := range []string{"0", "00", "00000"} {
			if got := impl.ReadHex(zeros + text); got != -1 {
				t.Fatalf("ReadHex(%q) is %d, not -1", zeros+text, got)
			}
		}
	}
	if accepted < len(someNumbers()) {
		t.Fatalf("only %d texts are accepted", accepted)
	}
}

func TestReadHexReadsWhatIsWritten(t *testing.T) {
	for _, text := range numberTexts() {
		want := -1
		if n, err := strconv.ParseInt(text, 16, 64); err == nil && n >= 0 && n <= impl.MaxPrint && strconv.FormatInt(n, 16) == text {
			want = int(n)
		}
		if got := impl.ReadHex(text); got != want {
			t.Fatalf("ReadHex(%q) is %d, not %d", text, got, want)
		}
	}
}

func TestReadHexRefusesOtherTexts(t *testing.T) {
	refused := []string{
		"", "00", "000000", "0000001", "01", "0fffffc", "A", "F", "aB", "FFFFFC", "0x1", "0X1", "x1", "g", "1g",
		"-1", "-0", "+1", "-fffffc", " 1", "1 ", "1\n", "1_0", "1.0", "\u0661", "\xff",
		"fffffd", "fffffe", "ffffff", "1000000", "fffffc0",
		// These would be 0, 1 and 255 if the number wrapped around.
		"100000000", "100000001", "10000000000000000", "10000000000000001", "100000000000000ff",
		strings.Repeat("f", 16), strings.Repeat("f", 1000), "1" + strings.Repeat("0", 1000), strings.Repeat("0", 1000),
	}
	for _, text := range refused {
		if got := impl.ReadHex(text); got != -1 {
			t.Fatalf("ReadHex(%q) is %d, not -1", text, got)
		}
	}
	for _, n := range numbersOutside {
		text := strconv.FormatInt(int64(n), 16)
		if got := impl.ReadHex(text); got != -1 {
			t.Fatalf("ReadHex(%q) is %d, not -1", text, got)
		}
	}
}
