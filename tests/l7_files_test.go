package tests

import (
	"regexp"
	"slices"
	"strings"
	"testing"

	"loop.example/proofarchive/impl"
)

var filePattern = regexp.MustCompile(`\Af[ -~]{0,40}\z`)

// someContents returns valid contents: all of at most one byte, many of every length, and texts of files and folders.
func someContents() []string {
	list := []string{"", "f", "ff", "F", "d", "hi", "fhi", "ffhi", "dd", " ", "  ", " f", "f ", "=", ";", "/", "da=7;", "fda=7;", "da=7;b=ff;", "da=0;b=fffffc;c=10;", strings.Repeat("f", 40), strings.Repeat("d", 40)}
	for b := 32; b <= 126; b++ {
		sign := string([]byte{byte(b)})
		list = append(list, sign, "f"+sign, sign+"f", "hello"+sign+"world", strings.Repeat(sign, 39), strings.Repeat(sign, 40))
	}
	for _, text := range append(printTexts(), mixedTexts()...) {
		list = append(list, text[:min(len(text), 40)], text[max(len(text)-40, 0):])
	}
	for _, entries := range someFolders() {
		if text := wantedFolderText(entries); len(text) <= 40 {
			list = append(list, text)
		}
	}
	slices.Sort(list)
	return slices.Compact(list)
}

// otherContents returns contents that are not valid: with bytes outside 32..126 at any place, or with too many bytes.
func otherContents() []string {
	list := []string{"\n", "\r", "\r\n", "hi\n", "\nhi", "h\ni", "\x00", "\t", "\x1f", "\x7f", "\x80", "\xff", "\u00e4", "h\u00e4", "ab\u20acd", strings.Repeat("\u00e4", 20), strings.Repeat("\n", 40), strings.Repeat("\x00", 41)}
	list = append(list, otherTexts()...)
	for _, base := range []string{"f", "hi", "da=7;", strings.Repeat("f", 40), strings.Repeat("abcd ~", 6) + "abcd"} {
		for b := range 256 {
			if b >= 32 && b <= 126 {
				continue
			}
			sign := string([]byte{byte(b)})
			for i := range base {
				list = append(list, base[:i]+sign+base[i:], base[:i]+sign+base[i+1:])
			}
			list = append(list, base+sign, sign)
		}
	}
	for _, sign := range []string{" ", "a", "d", "f", "~"} {
		for long := 41; long <= 130; long++ {
			list = append(list, strings.Repeat(sign, long))
		}
		for _, long := range []int{256, 257, 296, 297, 512, 65536, 65576} {
			list = append(list, strings.Repeat(sign, long))
		}
	}
	return list
}

// fileTexts returns texts of files and of folders, and texts that differ from some of them in one byte, also without their first one.
func fileTexts() []string {
	list := append(folderTexts(), someContents()...)
	for _, content := range append(someContents(), otherContents()...) {
		list = append(list, "f"+content, "F"+content, "ff"+content, "d"+content, " f"+content)
	}
	for _, text := range []string{"", "f", "ff", "fhi", "fda=7;", "d", "da=7;", "f" + strings.Repeat("x", 39), "f" + strings.Repeat("x", 40), "f" + strings.Repeat("x", 41), strings.Repeat("x", 41)} {
		list = append(list, changedTexts(text)...)
	}
	return append(list, otherContents()...)
}

// wantedFile returns the content that a text has, and whether it is that of a file, in another way than the program does.
func wantedFile(text string) (string, bool) {
	if !filePattern.MatchString(text) {
		return "", false
	}
	return text[1:], true
}

func TestLimitsOfFiles(t *testing.T) {
	if impl.MaxContent != 40 {
		t.Fatal("a constant has another value than in the table of the document")
	}
}

func TestKnownFiles(t *testing.T) {
	known := map[string]string{
		"": "f", "f": "ff", "ff": "fff", "hi": "fhi", "F": "fF", " ": "f ", " hi ": "f hi ", "two words": "ftwo words", "~": "f~", "0=;/%": "f0=;/%",
		"d": "fd", "da=7;": "fda=7;", "fhi": "ffhi", "da=7;b=ff;": "fda=7;b=ff;",
		strings.Repeat("x", 40): "f" + strings.Repeat("x", 40),
	}
	for content, text := range known {
		if got := impl.FileText(content); got != text {
			t.Fatalf("FileText(%q) is %q, not %q", content, got, text)
		}
		if got, ok := impl.ReadFile(text); !ok || got != content {
			t.Fatalf("ReadFile(%q) is %q, %v", text, got, ok)
		}
		if got := impl.TextKind(text); got != 1 {
			t.Fatalf("TextKind(%q) is %d", text, got)
		}
	}
}

// P8
func TestTextsOfFilesCanBeRead(t *testing.T) {
	for _, content := range someContents() {
		text := impl.FileText(content)
		if text != "f"+content {
			t.Fatalf("FileText(%q) is %q", content, text)
		}
		if got, ok := impl.ReadFile(text); !ok || got != content {
			t.Fatalf("ReadFile(%q) is %q, %v", text, got, ok)
		}
		if !impl.TextValid(text) {
			t.Fatalf("%q is a valid text", text)
		}
	}
}

func TestOtherContentsHaveNoText(t *testing.T) {
	for _, content := range otherContents() {
		if impl.ContentValid(content) {
			t.Fatalf("the content %q is not valid", content)
		}
		if text := impl.FileText(content); text != "" {
			t.Fatalf("FileText(%q) is %q", content, text)
		}
		if got, ok := impl.ReadFile("f" + content); ok || got != "" {
			t.Fatalf("ReadFile(%q) is %q, %v", "f"+content, got, ok)
		}
		if got := impl.TextKind("f" + content); got != 0 {
			t.Fatalf("TextKind(%q) is %d", "f"+content, got)
		}
	}
}

// P61
func TestContentsAreTexts(t *testing.T) {
	for _, content := range someContents() {
		if !impl.ContentValid(content) || !impl.TextValid(content) {
			t.Fatalf("%q is a valid content and a valid text", content)
		}
		for i := range content {
			if !impl.ContentValid(content[:i]) {
				t.Fatalf("%q is a valid content", content[:i])
			}
		}
	}
	for _, text := range fileTexts() {
		if impl.ContentValid(text) != (impl.TextValid(text) && len(text) <= 40) {
			t.Fatalf("the content %q", text)
		}
	}
}

func TestContentsHaveTheirLength(t *testing.T) {
	for _, sign := range []string{" ", "a", "f", "~"} {
		for long := 0; long <= 300; long++ {
			content := strings.Repeat(sign, long)
			_, ok := impl.ReadFile("f" + content)
			valid := long <= 40
			if impl.ContentValid(content) != valid || (impl.FileText(content) != "") != valid || ok != valid || (impl.TextKind("f"+content) == 1) != valid {
				t.Fatalf("a content of %d bytes", long)
			}
		}
	}
}

func TestContentsHavePrintedBytes(t *testing.T) {
	rest := strings.Repeat("x", 39)
	for b := range 256 {
		sign := string([]byte{byte(b)})
		for _, content := range []string{sign, sign + rest, rest + sign, "a" + sign + "b", sign + "f", "f" + sign} {
			valid := b >= 32 && b <= 126
			if impl.ContentValid(content) != valid || (impl.FileText(content) == "f"+content) != valid {
				t.Fatalf("byte %d in the content %q", b, content)
			}
		}
	}
}

// P62
func TestAcceptedFilesAreCanonical(t *testing.T) {
	accepted, refused := 0, 0
	for _, text := range fileTexts() {
		got, ok := impl.ReadFile(text)
		want, readable := wantedFile(text)
		if ok != readable || got != want {
			t.Fatalf("ReadFile(%q) is %q, %v", text, got, ok)
		}
		if !ok {
			refused++
			continue
		}
		accepted++
		if !impl.ContentValid(got) || impl.FileText(got) != text {
			t.Fatalf("ReadFile(%q) is %q, and its text is %q", text, got, impl.FileText(got))
		}
	}
	if accepted < len(someContents()) || refused < len(otherContents()) {
		t.Fatalf("%d texts are accepted, and %d are refused", accepted, refused)
	}
}

func TestReadFileRefusesOtherTexts(t *testing.T) {
	refused := []string{
		"", "F", "Fhi", "FHI", "hi", "d", "da=7;", "da=7;b=ff;", "g", "e", " f", " fhi", "\nf", "\x00f", "/f", "=f", "\xe6", "\u0192hi", "\uff46hi",
		"f\n", "fhi\n", "f\r\n", "f\x00", "f\x1f", "f\x7f", "f\xff", "f\u00e4", "fh\ni", "f\thi",
		"f" + strings.Repeat("x", 41), "f" + strings.Repeat("x", 59), "f" + strings.Repeat("x", 60), strings.Repeat("f", 42), strings.Repeat("f", 256), strings.Repeat("f", 1000), strings.Repeat("x", 40), strings.Repeat("x", 41),
	}
	for _, text := range refused {
		if content, ok := impl.ReadFile(text); ok || content != "" {
			t.Fatalf("ReadFile(%q) is %q, %v", text, content, ok)
		}
		if got := impl.TextKind(text); got == 1 {
			t.Fatalf("TextKind(%q) is %d", text, got)
		}
	}
}

// P63
func TestNothingIsBoth(t *testing.T) {
	var many [3]int
	for _, text := range fileTexts() {
		_, file := impl.ReadFile(text)
		_, folder := impl.ReadFolder(text)
		if file && folder {
			t.Fatalf("%q is the text of a file and of a folder", text)
		}
		_, wantFile := wantedFile(text)
		_, wantFolder := wantedRead(text)
		want := 0
		if wantFile {
			want = 1
		} else if wantFolder {
			want = 2
		}
		kind := impl.TextKind(text)
		if kind != want || (kind == 1) != file || (kind == 2) != folder {
			t.Fatalf("TextKind(%q) is %d, and it can be read as a file: %v, as a folder: %v", text, kind, file, folder)
		}
		many[kind]++
	}
	if slices.Min(many[:]) < 1000 {
		t.Fatalf("so many texts of each kind: %v", many)
	}
}

func TestTextsOfFilesAndFoldersAreOfOneKind(t *testing.T) {
	for _, content := range someContents() {
		text := impl.FileText(content)
		if list, ok := impl.ReadFolder(text); ok || len(list) != 0 || impl.TextKind(text) != 1 {
			t.Fatalf("ReadFolder(%q) is %v, %v, and its kind %d", text, list, ok, impl.TextKind(text))
		}
	}
	for _, entries := range someFolders() {
		text := impl.FolderText(entries)
		if content, ok := impl.ReadFile(text); ok || content != "" || impl.TextKind(text) != 2 {
			t.Fatalf("ReadFile(%q) is %q, %v, and its kind %d", text, content, ok, impl.TextKind(text))
		}
	}
}

func TestKnownKinds(t *testing.T) {
	known := map[string]int{
		"": 0, "f": 1, "d": 2, "F": 0, "D": 0, "ff": 1, "dd": 0, "fd": 1, "df": 0, "e": 0, " ": 0, "hi": 0, "fhi": 1, "Fhi": 0, " fhi": 0, "dhi": 0,
		"da=7;": 2, "fda=7;": 1, "Da=7;": 0, "fa=7;": 1, "a=7;": 0, "da=7": 0, "da": 0, "da=07;": 0, "da=7;;": 0, "dda=7;": 2, "df=7;": 2, " da=7;": 0, "da=7; ": 0,
		"da=7;b=ff;": 2, "db=ff;a=7;": 0, "fdb=ff;a=7;": 1, "da=7;b=7;c=7;": 2, "da=7;b=7;c=7;e=7;": 0, "fa=7;b=7;c=7;e=7;": 1,
		"f\n": 0, "d\n": 0, "da=7;\n": 0, "fhi\n": 0, "\nf": 0, "\nd": 0, "f ": 1, "d ": 0, "f\xff": 0, "f\u00e4": 0,
		"f" + strings.Repeat("x", 40): 1, "f" + strings.Repeat("x", 41): 0, "d" + strings.Repeat("x", 40): 0,
		// The text of this folder is longer than that of any file.
		"dabcdefgh=abcdef;abcdefgi=fffffc;zzzzzzzz=fffffc;": 2, "fabcdefgh=abcdef;abcdefgi=fffffc;zzzzzzzz=fffffc;": 0,
	}
	for text, kind := range known {
		if got := impl.TextKind(text); got != kind {
			t.Fatalf("TextKind(%q) is %d, not %d", text, got, kind)
		}
	}
}
