package tests

import (
	"maps"
	"math"
	"regexp"
	"slices"
	"strconv"
	"strings"
	"testing"

	"loop.example/proofarchive/impl"
)

// folderNames are words that ascend; some are the beginning of the next one.
var folderNames = []string{"a", "a0", "a1234567", "a9", "aa", "ab", "abcdefgh", "b", "d", "f", "z", "zzzzzzzz"}

// otherNames are no words.
var otherNames = []string{
	"", " ", "A", "aB", "1", "1a", "9", "a b", " a", "a ", "a=", "=", "a;", ";", "a-b", "a_b", "a.b", "a/b", "/", "~", "abcdefghi", strings.Repeat("a", 9), strings.Repeat("z", 264),
	"\u00e4", "a\u00e4", "\n", "a\n", "a\x00", "\x00", "\xff", "a\xff", "{", "`", "a{", "a`", "a:", "a@",
}

// otherPrints are no prints; some would be prints if they wrapped around.
var otherPrints = append([]int{math.MinInt + 1, -7, impl.MaxPrint + 8, 1<<32 + 1, 1<<32 + 7, math.MaxInt - 1}, numbersOutside...)

var (
	wordPattern   = regexp.MustCompile(`\A[a-z][a-z0-9]{0,7}\z`)
	folderPattern = regexp.MustCompile(`\Ad(?:[a-z][a-z0-9]{0,7}=(?:0|[1-9a-f][0-9a-f]{0,5});){0,3}\z`)
)

// someFolders returns valid entries: none, and each choice of at most three of folderNames with different prints.
func someFolders() [][]impl.Entry {
	list := [][]impl.Entry{nil, {}}
	prints := somePrints()
	print := func(n int) int { return prints[n*(n+len(list))%len(prints)] }
	for i, first := range folderNames {
		list = append(list, []impl.Entry{{Name: first, Print: 0}}, []impl.Entry{{Name: first, Print: 16777212}}, []impl.Entry{{Name: first, Print: print(i)}})
		for j, second := range folderNames[i+1:] {
			list = append(list, []impl.Entry{{Name: first, Print: print(i)}, {Name: second, Print: print(j)}})
			for k, third := range folderNames[i+1:][j+1:] {
				list = append(list, []impl.Entry{{Name: first, Print: print(i)}, {Name: second, Print: print(j)}, {Name: third, Print: print(k)}})
			}
		}
	}
	return append(list, []impl.Entry{{Name: "a", Print: 7}, {Name: "b", Print: 7}, {Name: "c", Print: 7}}, []impl.Entry{{Name: "x", Print: 16777212}, {Name: "y", Print: 16777212}, {Name: "zzzzzzzz", Print: 16777212}})
}

// otherFolders returns entries that are not valid: valid ones with one thing wrong each, and too many.
func otherFolders() [][]impl.Entry {
	four := []impl.Entry{{Name: "a", Print: 1}, {Name: "b", Print: 2}, {Name: "c", Print: 3}, {Name: "d", Print: 4}}
	list := [][]impl.Entry{{{}}, {{}, {}, {}}, four, four[:4:4], slices.Repeat(four, 2), slices.Repeat(four[:1], 4), slices.Repeat(four, 64), manyEntries(256), manyEntries(259)}
	for _, entries := range [][]impl.Entry{four[:1], four[:2], four[:3], four[1:4], {{Name: "a", Print: 7}, {Name: "a0", Print: 7}, {Name: "aa", Print: 7}}} {
		list = append(list, wrongedFolder(entries)...)
	}
	return list
}

// manyEntries returns entries with names that ascend.
func manyEntries(many int) []impl.Entry {
	var list []impl.Entry
	for n := range many {
		list = append(list, impl.Entry{Name: "n" + strconv.Itoa(1000+n), Print: n})
	}
	return list
}

// wrongedFolder returns valid entries with one thing wrong each.
func wrongedFolder(entries []impl.Entry) [][]impl.Entry {
	var list [][]impl.Entry
	for i, entry := range entries {
		for _, print := range otherPrints {
			with := slices.Clone(entries)
			with[i].Print = print
			list = append(list, with)
		}
		for _, name := range otherNames {
			with := slices.Clone(entries)
			with[i].Name = name
			list = append(list, with)
		}
		list = append(list, slices.Insert(slices.Clone(entries), i, entry), slices.Insert(slices.Clone(entries), i, impl.Entry{Name: entry.Name, Print: 9}))
		if i > 0 {
			with := slices.Clone(entries)
			with[i], with[i-1] = with[i-1], with[i]
			list = append(list, with)
			with = slices.Clone(entries)
			with[i].Name = with[i-1].Name
			list = append(list, with)
			with = slices.Clone(entries)
			with[i-1].Name = with[i].Name
			list = append(list, with)
		}
	}
	return list
}

// wantedEntry tells whether an entry may be in a folder, in another way than the program does.
func wantedEntry(entry impl.Entry) bool {
	return wordPattern.MatchString(entry.Name) && entry.Print == min(max(entry.Print, 0), 16777212)
}

// folderOf returns the entries of a map by their names.
func folderOf(prints map[string]int) []impl.Entry {
	var list []impl.Entry
	for _, name := range slices.Sorted(maps.Keys(prints)) {
		list = append(list, impl.Entry{Name: name, Print: prints[name]})
	}
	return list
}

func mapOf(list []impl.Entry) map[string]int {
	prints := map[string]int{}
	for _, entry := range list {
		prints[entry.Name] = entry.Print
	}
	return prints
}

// wantedPutEntry returns valid entries after an entry was put, and whether that is possible, in another way than the program does.
func wantedPutEntry(list []impl.Entry, entry impl.Entry) ([]impl.Entry, bool) {
	prints := mapOf(list)
	prints[entry.Name] = entry.Print
	if len(prints) > 3 || !wantedEntry(entry) {
		return list, false
	}
	return folderOf(prints), true
}

// wantedDrop returns valid entries without a name, and whether it was there, in another way than the program does.
func wantedDrop(list []impl.Entry, name string) ([]impl.Entry, bool) {
	prints := mapOf(list)
	_, there := prints[name]
	delete(prints, name)
	return folderOf(prints), there
}

// wantedFolderText returns the text of valid entries in another way than the program does.
func wantedFolderText(list []impl.Entry) string {
	parts := []string{"d"}
	for _, entry := range list {
		parts = append(parts, entry.Name, "=", strconv.FormatInt(int64(entry.Print), 16), ";")
	}
	return strings.Join(parts, "")
}

// wantedRead returns the entries that a text has, and whether it is that of a folder, in another way than the program does.
func wantedRead(text string) ([]impl.Entry, bool) {
	if !folderPattern.MatchString(text) {
		return nil, false
	}
	fields := strings.FieldsFunc(text[1:], func(r rune) bool { return r == '=' || r == ';' })
	var list []impl.Entry
	for i := 0; i < len(fields); i += 2 {
		print, err := strconv.ParseInt(fields[i+1], 16, 64)
		if err != nil || print > 16777212 {
			return nil, false
		}
		list = append(list, impl.Entry{Name: fields[i], Print: int(print)})
		if i > 0 && fields[i-2] >= fields[i] {
			return nil, false
		}
	}
	return list, true
}

// folderTexts returns texts of folders, all texts that differ from some of them in one byte, and combinations of short parts.
func folderTexts() []string {
	var list []string
	for _, entries := range someFolders() {
		list = append(list, wantedFolderText(entries))
	}
	for _, text := range []string{"d", "da=7;", "da=7;b=ff;", "da=0;b=fffffc;c=10;", "da=1;ab=2;abcdefgh=3;"} {
		list = append(list, changedTexts(text)...)
	}
	parts := []string{"a=7;", "a=8;", "b=ff;", "c=0;", "a0=fffffc;", "a=07;", "b=00;", "A=7;", "a=F;", "a=;", "=7;", "7;", ";", "a=fffffd;", "a=7", "a=-7;", "a==7;", "a=7;;", "a=b=7;", "da=7;", " a=7;"}
	level := []string{""}
	for range 4 {
		var next []string
		for _, text := range level {
			for _, part := range parts {
				next = append(next, text+part)
			}
		}
		for _, text := range next {
			list = append(list, "d"+text, text)
		}
		level = next
	}
	for _, begin := range []string{"d", "da=7;", "da=7;b=7;", "da=7;b=7;c=7;"} {
		for _, part := range parts {
			list = append(list, begin+part, begin+"d=7;"+part, begin+part+"z=1;")
		}
	}
	return list
}

// changedTexts returns a text, all texts that differ from it in one byte (one less, one more, or another one), and its beginnings and ends.
func changedTexts(text string) []string {
	list := []string{text}
	for i := 0; i <= len(text); i++ {
		for b := range 256 {
			sign := string([]byte{byte(b)})
			list = append(list, text[:i]+sign+text[i:])
			if i < len(text) {
				list = append(list, text[:i]+sign+text[i+1:])
			}
		}
		if i < len(text) {
			list = append(list, text[:i]+text[i+1:], text[:i], text[i:])
		}
	}
	return list
}

func TestLimitsOfFolders(t *testing.T) {
	if impl.MaxEntries != 3 {
		t.Fatal("a constant has another value than in the table of the document")
	}
}

func TestValidEntries(t *testing.T) {
	for _, list := range someFolders() {
		if !impl.EntriesValid(list) {
			t.Fatalf("%v is valid", list)
		}
	}
	for many := 0; many <= 20; many++ {
		if impl.EntriesValid(manyEntries(many)) != (many <= 3) {
			t.Fatalf("%d entries", many)
		}
	}
	for _, name := range append(slices.Clone(folderNames), otherNames...) {
		for _, print := range append(somePrints(), otherPrints...) {
			entry := impl.Entry{Name: name, Print: print}
			if impl.EntriesValid([]impl.Entry{entry}) != wantedEntry(entry) {
				t.Fatalf("the entry %v", entry)
			}
		}
	}
}

func TestOtherEntriesAreNotValid(t *testing.T) {
	for _, list := range otherFolders() {
		if impl.EntriesValid(list) {
			t.Fatalf("%v is not valid", list)
		}
	}
}

// P58
func TestNamesComeOnce(t *testing.T) {
	for _, list := range someFolders() {
		for i, entry := range list {
			for place := 0; place <= len(list); place++ {
				for _, print := range []int{entry.Print, 0, 5, 16777212} {
					if impl.EntriesValid(slices.Insert(slices.Clone(list), place, impl.Entry{Name: entry.Name, Print: print})) {
						t.Fatalf("%v with %v twice is not valid", list, entry)
					}
				}
			}
			if !impl.EntriesValid(slices.Delete(slices.Clone(list), i, i+1)) {
				t.Fatalf("%v without %v is valid", list, entry)
			}
		}
		if len(list) > 0 && !impl.EntriesValid(list[1:]) {
			t.Fatalf("%v without the first entry is valid", list)
		}
	}
}

func TestNamesAscend(t *testing.T) {
	for _, first := range folderNames {
		for _, second := range folderNames {
			for _, prints := range [][2]int{{1, 2}, {2, 1}, {1, 1}} {
				list := []impl.Entry{{Name: first, Print: prints[0]}, {Name: second, Print: prints[1]}}
				if impl.EntriesValid(list) != (first < second) {
					t.Fatalf("the entries %v", list)
				}
				for _, third := range folderNames {
					three := append(slices.Clone(list), impl.Entry{Name: third, Print: prints[1]})
					if impl.EntriesValid(three) != (first < second && second < third) {
						t.Fatalf("the entries %v", three)
					}
				}
			}
		}
	}
}

func TestKnownFolders(t *testing.T) {
	known := map[string][]impl.Entry{
		"d":                   nil,
		"da=7;":               {{Name: "a", Print: 7}},
		"da=7;b=ff;":          {{Name: "a", Print: 7}, {Name: "b", Print: 255}},
		"da=0;b=fffffc;c=10;": {{Name: "a", Print: 0}, {Name: "b", Print: 16777212}, {Name: "c", Print: 16}},
		"dd=d;":               {{Name: "d", Print: 13}},
		"dabcdefgh=abcdef;abcdefgi=1;zzzzzzzz=fffffc;": {{Name: "abcdefgh", Print: 11259375}, {Name: "abcdefgi", Print: 1}, {Name: "zzzzzzzz", Print: 16777212}},
	}
	for text, list := range known {
		if got := impl.FolderText(list); got != text {
			t.Fatalf("FolderText(%v) is %q, not %q", list, got, text)
		}
		if got, ok := impl.ReadFolder(text); !ok || !slices.Equal(got, list) {
			t.Fatalf("ReadFolder(%q) is %v, %v", text, got, ok)
		}
	}
}

// P6
func TestTextsOfFoldersCanBeRead(t *testing.T) {
	for _, list := range someFolders() {
		before := slices.Clone(list)
		text := impl.FolderText(list)
		if text != wantedFolderText(list) {
			t.Fatalf("FolderText(%v) is %q", list, text)
		}
		if got, ok := impl.ReadFolder(text); !ok || !slices.Equal(got, list) {
			t.Fatalf("ReadFolder(%q) is %v, %v", text, got, ok)
		}
		if !impl.TextValid(text) || len(text) > 60 {
			t.Fatalf("%q is a valid text", text)
		}
		if !slices.Equal(list, before) {
			t.Fatalf("FolderText writes to %v", before)
		}
	}
	for _, print := range someNumbers() {
		list := []impl.Entry{{Name: "a", Print: print}, {Name: "b", Print: impl.MaxPrint - print}}
		text := impl.FolderText(list)
		if got, ok := impl.ReadFolder(text); !ok || !slices.Equal(got, list) || text != wantedFolderText(list) {
			t.Fatalf("FolderText(%v) is %q, and ReadFolder of it %v, %v", list, text, got, ok)
		}
	}
}

func TestOtherEntriesHaveNoText(t *testing.T) {
	for _, list := range otherFolders() {
		if text := impl.FolderText(list); text != "" {
			t.Fatalf("FolderText(%v) is %q", list, text)
		}
	}
}

// P59
func TestAcceptedFoldersAreCanonical(t *testing.T) {
	accepted := 0
	for _, text := range folderTexts() {
		got, ok := impl.ReadFolder(text)
		want, readable := wantedRead(text)
		if ok != readable || !slices.Equal(got, want) {
			t.Fatalf("ReadFolder(%q) is %v, %v", text, got, ok)
		}
		if !ok {
			continue
		}
		accepted++
		if !impl.EntriesValid(got) || impl.FolderText(got) != text {
			t.Fatalf("ReadFolder(%q) is %v, and its text is %q", text, got, impl.FolderText(got))
		}
		for _, more := range []string{";", ";;", " ", "\n", "d", "a", "=", "0;", "d;"} {
			if wrong, ok := impl.ReadFolder(text + more); ok || len(wrong) != 0 {
				t.Fatalf("ReadFolder(%q) is %v, %v", text+more, wrong, ok)
			}
		}
		if shorter, ok := impl.ReadFolder(text[:len(text)-1]); ok || len(shorter) != 0 {
			t.Fatalf("ReadFolder(%q) is %v, %v", text[:len(text)-1], shorter, ok)
		}
	}
	if accepted < len(someFolders()) {
		t.Fatalf("only %d texts are accepted", accepted)
	}
}

func TestReadFolderRefusesOtherTexts(t *testing.T) {
	refused := []string{
		"", "f", "D", "da", "da=7", "da=", "da=;", "d=7;", "d=;", "d;", "dd", "d ", "d\n", "a=7;", ";", "=", "fa=7;", "Da=7;", "dda=7", " da=7;", "da=7; ", "da=7;\n",
		"da=07;", "da=00;", "da=007;", "da=0ff;", "da=F;", "da=FF;", "da=fF;", "da=0xf;", "da=g;", "da=-1;", "da=-7;", "da=+7;", "da= 7;", "da=7 ;", "da=7.0;", "da=\u0667;",
		"da=fffffd;", "da=ffffff;", "da=1000000;", "da=100000000;", "da=10000000000000007;", "da=ffffffffffffffff;",
		"dA=7;", "daB=7;", "d1=7;", "d1a=7;", "da-b=7;", "da b=7;", "d =7;", "dabcdefghi=7;", "d\u00e4=7;", "da\xff=7;",
		"db=7;a=7;", "da=7;a=7;", "da=7;a=8;", "da0=7;a=7;", "da=7;c=7;b=7;", "db=7;c=7;a=7;", "da=7;b=7;a=7;", "da=7;b=7;b=8;",
		"da=7;b=7;c=7;d=7;", "da=7;b=7;c=7;e=7;", "da=7;b=7;c=7;d=7;e=7;", "da=7;;", "d;a=7;", "da=7;;b=7;", "da=7,b=7;", "da=7b=7;", "da=7;b=7", "da=7;b", "da=7;b=", "da=7;b=;", "da;b=7;", "da:7;", "da==7;", "da=7=;", "da=7=8;", "da=b=7;",
		"d" + strings.Repeat(";", 1000), "d" + strings.Repeat("a=7;", 1000), "d" + strings.Repeat("a", 1000) + "=7;", "da=" + strings.Repeat("7", 1000) + ";", "da=" + strings.Repeat("0", 1000) + "7;", strings.Repeat("d", 1000),
	}
	for _, text := range append(refused, otherTexts()...) {
		if list, ok := impl.ReadFolder(text); ok || len(list) != 0 {
			t.Fatalf("ReadFolder(%q) is %v, %v", text, list, ok)
		}
	}
}

// someEntries returns entries to put: valid ones, and some with a wrong name or print.
func someEntries() []impl.Entry {
	var list []impl.Entry
	for i, name := range append([]string{"a00", "ac", "c", "y", "zz"}, folderNames...) {
		for _, print := range []int{0, 7, 255 + i, impl.MaxPrint} {
			list = append(list, impl.Entry{Name: name, Print: print})
		}
		list = append(list, impl.Entry{Name: name, Print: -1}, impl.Entry{Name: name, Print: impl.MaxPrint + 1})
	}
	return append(list, impl.Entry{}, impl.Entry{Name: "A", Print: 7}, impl.Entry{Name: "zzzzzzzzz", Print: 7}, impl.Entry{Name: "a=7;b", Print: 7}, impl.Entry{Name: "\xff", Print: 7})
}

// P7
func TestPutEntriesAreThere(t *testing.T) {
	for _, list := range someFolders() {
		for _, entry := range someEntries() {
			before := slices.Clone(list)
			want, possible := wantedPutEntry(list, entry)
			got, ok := impl.PutEntry(list, entry)
			if ok != possible || !slices.Equal(got, want) || !impl.EntriesValid(got) {
				t.Fatalf("PutEntry(%v, %v) is %v, %v", list, entry, got, ok)
			}
			if !slices.Equal(list, before) {
				t.Fatalf("PutEntry of %v writes to %v", entry, before)
			}
			if !ok {
				continue
			}
			if !slices.Contains(got, entry) {
				t.Fatalf("%v was put and is not in %v", entry, got)
			}
			for _, other := range list {
				if other.Name != entry.Name && !slices.Contains(got, other) {
					t.Fatalf("%v was put, and %v is not in %v", entry, other, got)
				}
			}
			left, dropped := impl.DropEntry(got, entry.Name)
			old, _ := impl.DropEntry(list, entry.Name)
			if !dropped || !slices.Equal(left, old) {
				t.Fatalf("without %q %v is %v, and %v was %v", entry.Name, got, left, list, old)
			}
			if again, ok := impl.PutEntry(got, entry); !ok || !slices.Equal(again, got) {
				t.Fatalf("putting %v in %v again leads to %v, %v", entry, got, again, ok)
			}
		}
	}
}

func TestKnownPlacesOfEntries(t *testing.T) {
	list := []impl.Entry{{Name: "b", Print: 1}, {Name: "d", Print: 2}}
	known := []struct {
		entry impl.Entry
		text  string
	}{
		{impl.Entry{Name: "a", Print: 9}, "da=9;b=1;d=2;"}, {impl.Entry{Name: "c", Print: 9}, "db=1;c=9;d=2;"}, {impl.Entry{Name: "e", Print: 9}, "db=1;d=2;e=9;"},
		{impl.Entry{Name: "b", Print: 9}, "db=9;d=2;"}, {impl.Entry{Name: "d", Print: 9}, "db=1;d=9;"}, {impl.Entry{Name: "b0", Print: 9}, "db=1;b0=9;d=2;"}, {impl.Entry{Name: "d", Print: 2}, "db=1;d=2;"},
	}
	for _, one := range known {
		got, ok := impl.PutEntry(list, one.entry)
		if !ok || impl.FolderText(got) != one.text {
			t.Fatalf("PutEntry(%v, %v) is %v, %v", list, one.entry, got, ok)
		}
	}
}

func TestFullFolders(t *testing.T) {
	full := []impl.Entry{{Name: "b", Print: 1}, {Name: "d", Print: 2}, {Name: "f", Print: 3}}
	for _, name := range []string{"a", "c", "e", "g", "b0", "zzzzzzzz"} {
		if got, ok := impl.PutEntry(full, impl.Entry{Name: name, Print: 7}); ok || !slices.Equal(got, full) {
			t.Fatalf("PutEntry(%v) of %q is %v, %v", full, name, got, ok)
		}
	}
	for i, entry := range full {
		want := slices.Clone(full)
		want[i].Print = 7
		if got, ok := impl.PutEntry(full, impl.Entry{Name: entry.Name, Print: 7}); !ok || !slices.Equal(got, want) {
			t.Fatalf("PutEntry(%v) of %q is %v, %v", full, entry.Name, got, ok)
		}
	}
}

func TestEntriesThatAreNotValidAreNotPut(t *testing.T) {
	for _, list := range [][]impl.Entry{nil, manyEntries(1), manyEntries(2), manyEntries(3), {{Name: "a", Print: 1}, {Name: "b", Print: 2}, {Name: "c", Print: 3}}} {
		for _, name := range otherNames {
			for _, print := range []int{-1, 0, 7, impl.MaxPrint, impl.MaxPrint + 1} {
				if got, ok := impl.PutEntry(list, impl.Entry{Name: name, Print: print}); ok || !slices.Equal(got, list) {
					t.Fatalf("PutEntry(%v) of %q with %d is %v, %v", list, name, print, got, ok)
				}
			}
		}
		for _, name := range []string{"a", "b", "c", "x", "n1000", "n1001", "n1002", "n1003"} {
			for _, print := range otherPrints {
				if got, ok := impl.PutEntry(list, impl.Entry{Name: name, Print: print}); ok || !slices.Equal(got, list) {
					t.Fatalf("PutEntry(%v) of %q with %d is %v, %v", list, name, print, got, ok)
				}
			}
		}
	}
}

func TestOtherEntriesAreNotChanged(t *testing.T) {
	for _, list := range otherFolders() {
		before := slices.Clone(list)
		entries := append([]impl.Entry{{}, {Name: "a", Print: 7}, {Name: "b", Print: 7}, {Name: "x", Print: 7}, {Name: "x", Print: -1}}, list[:min(5, len(list))]...)
		for _, entry := range entries {
			if got, ok := impl.PutEntry(list, entry); ok || len(got) != 0 {
				t.Fatalf("PutEntry(%v, %v) is %v, %v", list, entry, got, ok)
			}
			// A corrected print would make some of these valid, but they are not valid as they are.
			if got, ok := impl.PutEntry(list, impl.Entry{Name: entry.Name, Print: 7}); ok || len(got) != 0 {
				t.Fatalf("PutEntry(%v) of %q is %v, %v", list, entry.Name, got, ok)
			}
			if got, ok := impl.DropEntry(list, entry.Name); ok || len(got) != 0 {
				t.Fatalf("DropEntry(%v, %q) is %v, %v", list, entry.Name, got, ok)
			}
		}
		if !slices.Equal(list, before) {
			t.Fatalf("%v was written to", before)
		}
	}
}

// P60
func TestDroppedEntriesAreGone(t *testing.T) {
	names := slices.Concat(folderNames, otherNames, []string{"a00", "ac", "c", "y", "zz"})
	for _, list := range someFolders() {
		for _, name := range names {
			before := slices.Clone(list)
			want, there := wantedDrop(list, name)
			got, ok := impl.DropEntry(list, name)
			if ok != there || !slices.Equal(got, want) || !impl.EntriesValid(got) {
				t.Fatalf("DropEntry(%v, %q) is %v, %v", list, name, got, ok)
			}
			if !slices.Equal(list, before) {
				t.Fatalf("DropEntry of %q writes to %v", name, before)
			}
			if ok && len(got) != len(list)-1 || !ok && len(got) != len(list) {
				t.Fatalf("DropEntry(%v, %q) has %d entries", list, name, len(got))
			}
			if again, ok := impl.DropEntry(got, name); ok || !slices.Equal(again, got) {
				t.Fatalf("%q is dropped twice: %v, %v", name, again, ok)
			}
		}
	}
}

func TestKnownDroppedEntries(t *testing.T) {
	list := []impl.Entry{{Name: "b", Print: 1}, {Name: "d", Print: 2}, {Name: "f", Print: 3}}
	for name, text := range map[string]string{"b": "dd=2;f=3;", "d": "db=1;f=3;", "f": "db=1;d=2;"} {
		if got, ok := impl.DropEntry(list, name); !ok || impl.FolderText(got) != text {
			t.Fatalf("DropEntry(%v, %q) is %v, %v", list, name, got, ok)
		}
	}
	for _, name := range []string{"a", "c", "e", "g", "b0", "", "B", "bb"} {
		if got, ok := impl.DropEntry(list, name); ok || !slices.Equal(got, list) {
			t.Fatalf("DropEntry(%v, %q) is %v, %v", list, name, got, ok)
		}
	}
	if got, ok := impl.DropEntry(list[:1], "b"); !ok || len(got) != 0 {
		t.Fatalf("the only entry dropped: %v, %v", got, ok)
	}
	if got, ok := impl.DropEntry(nil, "b"); ok || len(got) != 0 {
		t.Fatalf("no entry dropped: %v, %v", got, ok)
	}
}

func TestResultsOfFoldersAreNew(t *testing.T) {
	entries := append(someEntries(), impl.Entry{Name: "n1000", Print: 3}, impl.Entry{Name: "n1001", Print: -1})
	folders := append(someFolders()[:60:60], manyEntries(1), manyEntries(2), manyEntries(3))
	for _, list := range folders {
		for _, entry := range entries {
			whole := append(slices.Clone(list), slices.Repeat([]impl.Entry{{Name: "spare", Print: -7}}, 9)...)
			given, before := whole[:len(list)], slices.Clone(whole)
			put, _ := impl.PutEntry(given, entry)
			drop, _ := impl.DropEntry(given, entry.Name)
			wantPut, wantDrop := slices.Clone(put), slices.Clone(drop)
			otherPut, _ := impl.PutEntry(given, entry)
			otherDrop, _ := impl.DropEntry(given, entry.Name)
			clear(otherPut[:cap(otherPut)])
			clear(otherDrop[:cap(otherDrop)])
			if !slices.Equal(whole, before) || !slices.Equal(put, wantPut) || !slices.Equal(drop, wantDrop) {
				t.Fatalf("a result of PutEntry or DropEntry(%v, %v) shares memory", list, entry)
			}
			clear(whole)
			if !slices.Equal(put, wantPut) || !slices.Equal(drop, wantDrop) {
				t.Fatalf("the result of PutEntry or DropEntry(%v, %v) shares memory with its argument", list, entry)
			}
		}
	}
	text := "da=7;b=ff;"
	first, _ := impl.ReadFolder(text)
	second, _ := impl.ReadFolder(text)
	clear(second[:cap(second)])
	if impl.FolderText(first) != text {
		t.Fatal("results of ReadFolder share memory")
	}
}

// The order of different names does not matter as long as there is room for all of them.
func TestEntriesInAnyOrder(t *testing.T) {
	for _, list := range someFolders() {
		for turn := range max(len(list), 1) {
			var got, back []impl.Entry
			for i := range list {
				got, _ = impl.PutEntry(got, list[(i+turn)%len(list)])
				back, _ = impl.PutEntry(back, list[(2*len(list)-1-i-turn)%len(list)])
			}
			if !slices.Equal(got, list) || !slices.Equal(back, list) {
				t.Fatalf("%v is put as %v and %v", list, got, back)
			}
		}
	}
}
