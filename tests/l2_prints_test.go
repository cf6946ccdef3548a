package tests

import (
	"math/big"
	"slices"
	"strings"
	"testing"

	"loop.example/proofarchive/impl"
)

// bigPrint returns first*a + second*b + more modulo MaxPrint+1, in numbers that cannot wrap around.
func bigPrint(first, a, second, b, more int64) int {
	sum := new(big.Int).Mul(big.NewInt(first), big.NewInt(a))
	sum.Add(sum, new(big.Int).Mul(big.NewInt(second), big.NewInt(b)))
	sum.Add(sum, big.NewInt(more))
	return int(sum.Mod(sum, big.NewInt(impl.MaxPrint+1)).Int64())
}

func wantedPrint(text string) int {
	print := int64(1)
	for i := 0; i < len(text); i++ {
		print = int64(bigPrint(257, print, 0, 0, int64(text[i])))
	}
	return int(print)
}

func wantedPair(a, b int) int {
	return bigPrint(7919, int64(a), 104729, int64(b), 3)
}

func wantedList(list []int) int {
	print := 5
	for _, next := range list {
		print = wantedPair(print, next)
	}
	return print
}

// printTexts returns valid texts of every length: many begin alike, and many differ in one byte alone.
func printTexts() []string {
	base := "The quick brown fox; jumps = over 13 lazy dogs / and ~ sleeps"[:impl.MaxText]
	list := []string{"", " ", "~", "aa", "ba", "bb", "abd", "abce", "aagjuw", "aagjux"}
	for long := 0; long <= impl.MaxText; long++ {
		list = append(list, base[:long], strings.Repeat("a", long), strings.Repeat(" ", long), strings.Repeat("~", long))
	}
	for b := 32; b <= 126; b++ {
		sign := string([]byte{byte(b)})
		list = append(list, sign, "ab"+sign, sign+base[1:], base[:impl.MaxText/2]+sign+base[impl.MaxText/2+1:])
	}
	slices.Sort(list)
	return slices.Compact(list)
}

// somePrints returns prints in 0..MaxPrint: both ends, both sides of powers of two, and some between.
func somePrints() []int {
	list := []int{0, 1, 2, 3, 5, 7, 17, 7919, 104729, 12497636, 16048159, 5478706, 15805141}
	for power := 16; power <= impl.MaxPrint; power *= 4 {
		list = append(list, power-1, power, power+1)
	}
	for n := 100; n < impl.MaxPrint; n += 1234567 {
		list = append(list, n)
	}
	list = append(list, impl.MaxPrint-2, impl.MaxPrint-1, impl.MaxPrint)
	slices.Sort(list)
	return slices.Compact(list)
}

// printLists returns lists of 0..20 prints.
func printLists() [][]int {
	prints := somePrints()
	var list [][]int
	for long := 0; long <= 20; long++ {
		list = append(list, slices.Repeat([]int{0}, long), slices.Repeat([]int{impl.MaxPrint}, long))
		for begin := 0; begin+long <= len(prints); begin += 3 {
			list = append(list, slices.Clone(prints[begin:begin+long]))
		}
	}
	return list
}

func TestPrintsOfKnownTexts(t *testing.T) {
	known := map[string]int{
		"": 1, "a": 354, "b": 355, " ": 289, "~": 383, "aa": 91075, "ab": 91076, "ba": 91332,
		"abc": 6629418, "abd": 6629419, "abcd": 9262013, "hello world": 15312107,
		// The least print and the greatest one.
		"aagjux": 0, "aagjuw": impl.MaxPrint,
		strings.Repeat(" ", 60): 6107809, strings.Repeat("~", 60): 13693734,
		strings.Repeat("x", 59): 14414604, strings.Repeat("x", 60): 13566488,
	}
	for text, print := range known {
		if got := impl.PrintOf(text); got != print {
			t.Fatalf("PrintOf(%q) is %d, not %d", text, got, print)
		}
	}
}

func TestPrintsOfTexts(t *testing.T) {
	for _, text := range printTexts() {
		if got, want := impl.PrintOf(text), wantedPrint(text); got != want {
			t.Fatalf("PrintOf(%q) is %d, not %d", text, got, want)
		}
	}
}

func TestTextsThatAreNotValidHaveNoPrint(t *testing.T) {
	base := strings.Repeat("x", impl.MaxText)
	for _, text := range []string{base + "x", base + " ", base + base, strings.Repeat("x", 256), strings.Repeat("x", 316), "\u00e4", "a\n"} {
		if got := impl.PrintOf(text); got != -1 {
			t.Fatalf("PrintOf(%q) is %d, not -1", text, got)
		}
	}
	for b := 0; b < 256; b++ {
		if b >= 32 && b <= 126 {
			continue
		}
		sign := string([]byte{byte(b)})
		for _, text := range []string{sign, "a" + sign, sign + "a", "a" + sign + "a", base[1:] + sign} {
			if got := impl.PrintOf(text); got != -1 {
				t.Fatalf("PrintOf(%q) is %d, not -1", text, got)
			}
		}
	}
}

// P48
func TestPrintsNoticeTheLastByte(t *testing.T) {
	for _, begin := range printTexts() {
		texts := map[int]string{}
		for b := 32; b <= 126; b++ {
			text := begin + string([]byte{byte(b)})
			print := impl.PrintOf(text)
			if len(begin) == impl.MaxText {
				if print != -1 {
					t.Fatalf("there is no room for a byte in %q, but its print is %d", text, print)
				}
				continue
			}
			if print < 0 || print > impl.MaxPrint {
				t.Fatalf("PrintOf(%q) is %d", text, print)
			}
			if other, twice := texts[print]; twice {
				t.Fatalf("%q and %q have the same print", other, text)
			}
			texts[print] = text
		}
	}
}

func TestTextsThatBeginAlike(t *testing.T) {
	texts := map[int]string{}
	for _, text := range printTexts() {
		print := impl.PrintOf(text)
		if other, twice := texts[print]; twice {
			t.Fatalf("%q and %q have the same print %d", other, text, print)
		}
		texts[print] = text
		for i := range text {
			begin := text[:i]
			if impl.PrintOf(begin+" ") == impl.PrintOf(begin) || impl.PrintOf(begin) != wantedPrint(begin) {
				t.Fatalf("%q has the print %d", begin, impl.PrintOf(begin))
			}
		}
	}
}

func TestPrintsOfKnownPairs(t *testing.T) {
	known := [][3]int{
		{0, 0, 3}, {1, 0, 7922}, {0, 1, 104732}, {1, 1, 112651}, {2, 1, 120570}, {1, 2, 217380},
		{impl.MaxPrint, 0, 16769297}, {0, impl.MaxPrint, 16672487}, {impl.MaxPrint, impl.MaxPrint, 16664568}, {impl.MaxPrint, 1, 96813},
		{1000000, 2000000, 11428375}, {16000000, 16000001, 8889355},
		// The least print and the greatest one.
		{12497636, 0, 0}, {0, 16048159, 0}, {5478706, 0, impl.MaxPrint}, {0, 15805141, impl.MaxPrint},
	}
	for _, k := range known {
		if got := impl.PrintPair(k[0], k[1]); got != k[2] {
			t.Fatalf("PrintPair(%d, %d) is %d, not %d", k[0], k[1], got, k[2])
		}
	}
}

func TestPrintsOfPairs(t *testing.T) {
	for _, a := range somePrints() {
		for _, b := range somePrints() {
			if got, want := impl.PrintPair(a, b), wantedPair(a, b); got != want {
				t.Fatalf("PrintPair(%d, %d) is %d, not %d", a, b, got, want)
			}
		}
	}
}

func TestOtherNumbersHaveNoPair(t *testing.T) {
	for _, n := range numbersOutside {
		for _, print := range append(somePrints(), numbersOutside...) {
			if impl.PrintPair(n, print) != -1 || impl.PrintPair(print, n) != -1 {
				t.Fatalf("%d is no print, but it has one with %d: %d and %d", n, print, impl.PrintPair(n, print), impl.PrintPair(print, n))
			}
		}
	}
}

// P49
func TestPrintsOfPairsNoticeBoth(t *testing.T) {
	for _, same := range somePrints() {
		first, second := map[int]int{}, map[int]int{}
		for _, other := range somePrints() {
			print := impl.PrintPair(other, same)
			if before, twice := first[print]; twice {
				t.Fatalf("PrintPair(%d, %d) and PrintPair(%d, %d) are the same", before, same, other, same)
			}
			first[print] = other
			print = impl.PrintPair(same, other)
			if before, twice := second[print]; twice {
				t.Fatalf("PrintPair(%d, %d) and PrintPair(%d, %d) are the same", same, before, same, other)
			}
			second[print] = other
		}
	}
	if impl.PrintPair(1, 2) == impl.PrintPair(2, 1) {
		t.Fatal("the order of a pair")
	}
}

func TestPrintsOfKnownLists(t *testing.T) {
	known := []struct {
		list  []int
		print int
	}{
		{nil, 5}, {[]int{}, 5}, {[]int{0}, 39598}, {[]int{7}, 772701}, {[]int{impl.MaxPrint}, 16712082},
		{[]int{1, 2}, 2284490}, {[]int{2, 1}, 9445275}, {[]int{1, 2, 3}, 5354886},
		{slices.Repeat([]int{5}, 19), 14665916}, {slices.Repeat([]int{0}, 20), 4144531}, {slices.Repeat([]int{impl.MaxPrint}, 20), 3364624},
		{[]int{0, 1, 2, 3, 4, 5, 6, 7, 8, 9, 10, 11, 12, 13, 14, 15, 16, 17, 18, 19}, 15295978},
	}
	for _, k := range known {
		if got := impl.PrintList(k.list); got != k.print {
			t.Fatalf("PrintList(%v) is %d, not %d", k.list, got, k.print)
		}
	}
}

func TestPrintsOfLists(t *testing.T) {
	for _, list := range printLists() {
		before := slices.Clone(list)
		if got, want := impl.PrintList(list), wantedList(list); got != want {
			t.Fatalf("PrintList(%v) is %d, not %d", list, got, want)
		}
		if !slices.Equal(list, before) {
			t.Fatalf("PrintList writes to %v", before)
		}
	}
}

func TestOtherListsHaveNoPrint(t *testing.T) {
	for _, n := range numbersOutside {
		for _, list := range printLists() {
			for i := range list {
				with := slices.Clone(list)
				with[i] = n
				if got := impl.PrintList(with); got != -1 {
					t.Fatalf("PrintList(%v) is %d, not -1", with, got)
				}
			}
		}
	}
	for _, long := range []int{21, 22, 40, 256, 276, 1000} {
		for _, print := range []int{0, 1, impl.MaxPrint, -1} {
			if got := impl.PrintList(slices.Repeat([]int{print}, long)); got != -1 {
				t.Fatalf("PrintList of %d times %d is %d, not -1", long, print, got)
			}
		}
	}
}

// P50
func TestPrintsOfListsGoOn(t *testing.T) {
	for _, list := range printLists() {
		for _, print := range somePrints() {
			want := -1
			if len(list) < 20 {
				want = impl.PrintPair(impl.PrintList(list), print)
				if want < 0 {
					t.Fatalf("PrintPair of PrintList(%v) and %d is %d", list, print, want)
				}
			}
			if got := impl.PrintList(append(slices.Clone(list), print)); got != want {
				t.Fatalf("PrintList(%v) with %d more is %d, not %d", list, print, got, want)
			}
		}
	}
}
