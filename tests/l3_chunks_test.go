package tests

import (
	"regexp"
	"slices"
	"strings"
	"testing"

	"loop.example/proofarchive/impl"
)

// endBytes are the bytes of valid texts that can be divided by 4.
const endBytes = " $(,048<@DHLPTX\\`dhlptx|"

// aChunk tells chunks in another way than the program does: a byte of any kind, and then others up to one of endBytes, or five more, or up to the end of the text.
var aChunk = func() *regexp.Regexp {
	set := regexp.QuoteMeta(endBytes)
	stops, others := "["+set+"]", "[^"+set+"]"
	return regexp.MustCompile("(?s).(?:" + others + "{0,3}" + stops + "|" + others + "{4}.|" + others + "{0,4}$)")
}()

func wantedChunks(text string) []string {
	return aChunk.FindAllString(text, -1)
}

func wantedEnds(text string) []int {
	var ends []int
	for _, place := range aChunk.FindAllStringIndex(text, -1) {
		ends = append(ends, place[1])
	}
	return ends
}

// chunkTexts returns valid texts: all of at most 12 bytes of which each ends chunks or does not, all of two bytes, those of chapter 2, and many of every length.
func chunkTexts() []string {
	list := append(printTexts(), mixedTexts()...)
	for long := 0; long <= 12; long++ {
		for which := range 1 << long {
			text := make([]byte, long)
			for i := range text {
				text[i] = "ad"[which>>i&1]
			}
			list = append(list, string(text))
		}
	}
	for a := 32; a <= 126; a++ {
		for b := 32; b <= 126; b++ {
			list = append(list, string([]byte{byte(a), byte(b)}))
		}
	}
	return list
}

// mixedTexts returns texts of every length in which bytes that end chunks are rarer or more frequent.
func mixedTexts() []string {
	var list []string
	state := uint32(1)
	for long := 0; long <= impl.MaxText; long++ {
		for share := uint32(0); share < 10; share++ {
			text := make([]byte, long)
			for i := range text {
				state = state*1664525 + 1013904223
				text[i] = byte(32 + state>>8%95)
				if state>>20%10 >= share && text[i]%4 == 0 {
					text[i]++
				}
			}
			list = append(list, string(text))
		}
	}
	return list
}

// otherTexts returns texts that are not valid: with bytes outside 32..126 at any place, or with too many bytes.
func otherTexts() []string {
	base := strings.Repeat("abcd ~", 10)
	list := []string{base + "x", base + " ", "d" + base, base + base, strings.Repeat("a", 61), strings.Repeat("d", 61), strings.Repeat("d", 256), strings.Repeat("a", 316), base + "\n", "\u00e4", "ab\u20acd"}
	for b := 0; b < 256; b++ {
		if b >= 32 && b <= 126 {
			continue
		}
		sign := string([]byte{byte(b)})
		for _, i := range []int{0, 1, 2, 5, 6, 30, 58, 59} {
			list = append(list, base[:i]+sign, base[:i]+sign+base[i+1:])
		}
	}
	return list
}

// divisions returns all ways to divide a text into parts that are not empty.
func divisions(text string) [][]string {
	if text == "" {
		return [][]string{nil}
	}
	var list [][]string
	for long := 1; long <= len(text); long++ {
		for _, rest := range divisions(text[long:]) {
			list = append(list, append([]string{text[:long]}, rest...))
		}
	}
	return list
}

// partLists returns lists whose texts are a valid text, one after the other: its chunks, and others.
func partLists() [][]string {
	list := [][]string{nil, {}, {""}, {"", ""}, slices.Repeat([]string{""}, 1000), {"", "ab", "", "d", ""}}
	for _, text := range []string{"a", "ddd", "aadaaaa", "aaaaaaaaa", "dadadadada", "hello worl"} {
		list = append(list, divisions(text)...)
	}
	for _, text := range append(printTexts(), mixedTexts()...) {
		half := len(text) / 2
		list = append(list, []string{text}, []string{text, ""}, []string{"", text}, strings.Split(text, ""), []string{text[:half], text[half:]}, wantedChunks(text))
		list = append(list, append(slices.Repeat([]string{""}, 100), text[:half], "", text[half:]))
		if chunks := wantedChunks(text); len(chunks) > 1 {
			// The bounds are one byte away from those of the chunks.
			list = append(list, wantedChunks(text[1:]), append([]string{text[:1]}, wantedChunks(text[1:])...))
			slices.Reverse(chunks)
			list = append(list, chunks)
		}
	}
	return list
}

func TestLimitsOfChunks(t *testing.T) {
	if impl.ChunkLeast != 2 || impl.ChunkMost != 6 {
		t.Fatal("a constant has another value than in the table of the document")
	}
}

func TestKnownChunks(t *testing.T) {
	known := []struct {
		text   string
		chunks []string
		ends   []int
	}{
		{"", nil, nil},
		{"a", []string{"a"}, []int{1}}, {"d", []string{"d"}, []int{1}}, {" ", []string{" "}, []int{1}},
		{"aa", []string{"aa"}, []int{2}}, {"ad", []string{"ad"}, []int{2}}, {"da", []string{"da"}, []int{2}}, {"dd", []string{"dd"}, []int{2}},
		{"ada", []string{"ad", "a"}, []int{2, 3}}, {"ddd", []string{"dd", "d"}, []int{2, 3}}, {"daa", []string{"daa"}, []int{3}}, {"adda", []string{"ad", "da"}, []int{2, 4}},
		{"aaaaa", []string{"aaaaa"}, []int{5}}, {"aaaaaa", []string{"aaaaaa"}, []int{6}}, {"aaaaaaa", []string{"aaaaaa", "a"}, []int{6, 7}},
		{"aaaada", []string{"aaaad", "a"}, []int{5, 6}}, {"aaaaad", []string{"aaaaad"}, []int{6}}, {"aaaaadd", []string{"aaaaad", "d"}, []int{6, 7}},
		{"daaaaa", []string{"daaaaa"}, []int{6}}, {"daaaaadd", []string{"daaaaa", "dd"}, []int{6, 8}}, {"dadddd", []string{"dad", "dd", "d"}, []int{3, 5, 6}},
		{"hello world", []string{"hel", "lo ", "worl", "d"}, []int{3, 6, 10, 11}},
		{"~~~~~~~~~", []string{"~~~~~~", "~~~"}, []int{6, 9}}, {"     ", []string{"  ", "  ", " "}, []int{2, 4, 5}},
	}
	for _, k := range known {
		if got := impl.ChunkEnds(k.text); !slices.Equal(got, k.ends) {
			t.Fatalf("ChunkEnds(%q) is %v, not %v", k.text, got, k.ends)
		}
		if got := impl.ChunksOf(k.text); !slices.Equal(got, k.chunks) {
			t.Fatalf("ChunksOf(%q) is %q, not %q", k.text, got, k.chunks)
		}
	}
}

func TestChunksOfTheLongestTexts(t *testing.T) {
	for _, k := range []struct {
		sign string
		long int
	}{{"a", impl.ChunkMost}, {"d", impl.ChunkLeast}} {
		text := strings.Repeat(k.sign, 60)
		chunks := slices.Repeat([]string{strings.Repeat(k.sign, k.long)}, 60/k.long)
		if got := impl.ChunksOf(text); !slices.Equal(got, chunks) {
			t.Fatalf("ChunksOf(%q) is %q", text, got)
		}
		if got := impl.ChunkEnds(text); len(got) != 60/k.long || got[len(got)-1] != 60 {
			t.Fatalf("ChunkEnds(%q) is %v", text, got)
		}
		if got := impl.ChunksOf(text[:59]); len(got) != 60/k.long || len(got[len(got)-1]) != k.long-1 {
			t.Fatalf("ChunksOf(%q) is %q", text[:59], got)
		}
		if got := impl.ChunksOf(text + k.sign); len(got) != 0 {
			t.Fatalf("61 bytes have the chunks %q", got)
		}
	}
}

func TestChunksOfTexts(t *testing.T) {
	for _, text := range chunkTexts() {
		if got, want := impl.ChunkEnds(text), wantedEnds(text); !slices.Equal(got, want) {
			t.Fatalf("ChunkEnds(%q) is %v, not %v", text, got, want)
		}
		if got, want := impl.ChunksOf(text), wantedChunks(text); !slices.Equal(got, want) {
			t.Fatalf("ChunksOf(%q) is %q, not %q", text, got, want)
		}
	}
}

func TestBytesThatEndChunks(t *testing.T) {
	for b := 32; b <= 126; b++ {
		sign := string([]byte{byte(b)})
		want := 1
		if strings.Contains(endBytes, sign) {
			want = 2
		}
		for _, text := range []string{"a" + sign + "a", "aa" + sign + "a", "aaa" + sign + "a", "aaaa" + sign + "a"} {
			if got := impl.ChunksOf(text); len(got) != want {
				t.Fatalf("ChunksOf(%q) is %q", text, got)
			}
		}
		if got := impl.ChunksOf(sign + "aaaaa"); len(got) != 1 {
			t.Fatalf("byte %d ends a chunk of one byte: %q", b, got)
		}
	}
}

func TestTextsThatAreNotValidHaveNoChunks(t *testing.T) {
	for _, text := range otherTexts() {
		ends, chunks, prints := impl.ChunkEnds(text), impl.ChunksOf(text), impl.ChunkPrints(text)
		if len(ends) != 0 || len(chunks) != 0 || len(prints) != 0 {
			t.Fatalf("%q has the ends %v, the chunks %q and the prints %v", text, ends, chunks, prints)
		}
	}
}

// P2
func TestChunksAreTheText(t *testing.T) {
	for _, text := range chunkTexts() {
		if got, ok := impl.JoinChunks(impl.ChunksOf(text)); !ok || got != text {
			t.Fatalf("the chunks of %q are joined to %q, %v", text, got, ok)
		}
	}
}

// P2
func TestChunksStayWithMoreAfterTheText(t *testing.T) {
	for _, text := range append(mixedTexts(), "", "a", "d", "aa", "ad", "aaaaa", "aaaaad", "ddd", "aaaaaaa") {
		chunks := impl.ChunksOf(text)
		for _, more := range []string{"a", "d", " ", "~", "ad", "da", "aaaaaa", "dddddd", "hello world"} {
			if len(text)+len(more) > impl.MaxText {
				continue
			}
			longer := impl.ChunksOf(text + more)
			if len(longer) < len(chunks) {
				t.Fatalf("ChunksOf(%q) is %q, and with %q after it %q", text, chunks, more, longer)
			}
			for i := 0; i < len(chunks)-1; i++ {
				if longer[i] != chunks[i] {
					t.Fatalf("ChunksOf(%q) is %q, and with %q after it %q", text, chunks, more, longer)
				}
			}
		}
	}
}

// P51
func TestChunksAreShort(t *testing.T) {
	for _, text := range chunkTexts() {
		ends := impl.ChunkEnds(text)
		before := 0
		for i, end := range ends {
			long := end - before
			if long < 1 || long > impl.ChunkMost || i < len(ends)-1 && long < impl.ChunkLeast {
				t.Fatalf("ChunkEnds(%q) is %v", text, ends)
			}
			before = end
		}
		if before != len(text) {
			t.Fatalf("ChunkEnds(%q) is %v, and %d bytes are left", text, ends, len(text)-before)
		}
	}
}

func TestAnyTextsAreJoined(t *testing.T) {
	for _, list := range partLists() {
		before := slices.Clone(list)
		want := strings.Join(list, "")
		if got, ok := impl.JoinChunks(list); !ok || got != want {
			t.Fatalf("JoinChunks(%q) is %q, %v", list, got, ok)
		}
		if !slices.Equal(list, before) {
			t.Fatalf("JoinChunks writes to %q", before)
		}
	}
}

func TestTextsThatAreNoValidTextAreNotJoined(t *testing.T) {
	long := strings.Repeat("x", impl.MaxText)
	lists := [][]string{
		{"a", "\n"}, {"\n", "a"}, {"", "\x1f", ""}, {"\x7f"}, {"\xc3", "\xa4"}, {"\u00e4"}, {"ab", "\x00", "cd"},
		{long, "x"}, {"x", long}, {long, "", "x"}, {long + "x"}, {long[1:], "xx"}, {long, long}, {long[:30], long[:31]},
		slices.Repeat([]string{"x"}, 61), slices.Repeat([]string{"x"}, 256), slices.Repeat([]string{"abcd"}, 79), slices.Repeat([]string{long}, 1000),
	}
	for _, text := range otherTexts() {
		half := len(text) / 2
		lists = append(lists, []string{text}, []string{"", text}, []string{text, "a"}, strings.Split(text, ""), []string{text[:half], text[half:]})
	}
	for _, list := range lists {
		before := slices.Clone(list)
		if got, ok := impl.JoinChunks(list); ok || got != "" {
			t.Fatalf("JoinChunks(%q) is %q, %v", list, got, ok)
		}
		if !slices.Equal(list, before) {
			t.Fatalf("JoinChunks writes to %q", before)
		}
	}
	if got, ok := impl.JoinChunks(slices.Repeat([]string{"x"}, 60)); !ok || got != long {
		t.Fatalf("60 bytes are joined to %q, %v", got, ok)
	}
}

// P52
func TestTextsOfChunksHaveChunks(t *testing.T) {
	for _, list := range partLists() {
		text, ok := impl.JoinChunks(list)
		if !ok {
			t.Fatalf("JoinChunks(%q) is none", list)
		}
		chunks := impl.ChunksOf(text)
		if again, ok := impl.JoinChunks(chunks); !ok || again != text || text != "" && len(chunks) == 0 {
			t.Fatalf("the chunks %q of %q are joined to %q, %v", chunks, text, again, ok)
		}
	}
}

// P53
func TestChunksHavePrints(t *testing.T) {
	for _, text := range chunkTexts() {
		chunks, prints := impl.ChunksOf(text), impl.ChunkPrints(text)
		if len(prints) != len(chunks) {
			t.Fatalf("%q has the chunks %q and the prints %v", text, chunks, prints)
		}
		for i, chunk := range chunks {
			if prints[i] != wantedPrint(chunk) || prints[i] != impl.PrintOf(chunk) {
				t.Fatalf("the chunk %q of %q has the print %d, not %d", chunk, text, prints[i], wantedPrint(chunk))
			}
		}
	}
}

func TestKnownPrintsOfChunks(t *testing.T) {
	known := map[string][]int{"": nil, "a": {354}, "ab": {91076}, "abcdab": {9262013, 91076}, "abcda": {9262013, 354}, "    ": {74305, 74305}}
	for text, prints := range known {
		if got := impl.ChunkPrints(text); !slices.Equal(got, prints) {
			t.Fatalf("ChunkPrints(%q) is %v, not %v", text, got, prints)
		}
	}
}

func TestResultsOfChunksAreNew(t *testing.T) {
	text := "hello world"
	ends, chunks, prints := impl.ChunkEnds(text), impl.ChunksOf(text), impl.ChunkPrints(text)
	clear(ends[:cap(ends)])
	clear(chunks[:cap(chunks)])
	clear(prints[:cap(prints)])
	if !slices.Equal(impl.ChunkEnds(text), wantedEnds(text)) || !slices.Equal(impl.ChunksOf(text), wantedChunks(text)) || impl.ChunkPrints(text)[3] != impl.PrintOf("d") {
		t.Fatal("a result keeps what was written to an earlier one")
	}
}
