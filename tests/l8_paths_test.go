package tests

import (
	"regexp"
	"slices"
	"strings"
	"testing"

	"loop.example/proofarchive/impl"
)

var (
	pathPattern     = regexp.MustCompile(`\A(?:/|(?:/[a-z][a-z0-9]{0,7}){1,3})\z`)
	pathNamePattern = regexp.MustCompile(`[^/]+`)
)

// namesOfPaths returns all lists of at most three of the given names, also with the same name several times.
func namesOfPaths(names []string) [][]string {
	list := [][]string{{}}
	for begin, long := 0, 0; long < 3; long++ {
		end := len(list)
		for ; begin < end; begin++ {
			for _, name := range names {
				list = append(list, append(slices.Clone(list[begin]), name))
			}
		}
	}
	return list
}

// someParts returns names that have a path.
func someParts() [][]string {
	return append([][]string{nil}, namesOfPaths(folderNames)...)
}

// otherParts returns names that have no path: those of a path with a name that is no word in it, and too many.
func otherParts() [][]string {
	var list [][]string
	for _, parts := range [][]string{{}, {"a"}, {"a", "b"}, {"a", "b", "c"}, {"aa", "a", "zzzzzzzz"}} {
		for i := 0; i <= len(parts); i++ {
			for _, name := range otherNames {
				list = append(list, slices.Insert(slices.Clone(parts), i, name))
				if i < len(parts) {
					with := slices.Clone(parts)
					with[i] = name
					list = append(list, with)
				}
			}
		}
	}
	for _, many := range []int{4, 5, 6, 7, 8, 255, 256, 257, 258, 259, 65536, 65537} {
		list = append(list, slices.Repeat([]string{"a"}, many), slices.Repeat([]string{""}, many))
	}
	return append(list, []string{"a", "b", "c", "d"}, []string{"", ""}, []string{"", "", ""}, []string{"/", "/"}, []string{"a/b", "c"}, []string{"a", "/b"}, []string{"a/b/c"})
}

// pathTexts returns paths, texts that differ from some of them in one byte, names that have no path with / before each, and short texts of few signs.
func pathTexts() []string {
	list := []string{"", "/", "//", "///", "////", "a", "a/b", "A", "\n", "/\n", "\n/", "\\", "\\a", "/a\\b", "/./a", "/../a", "/a/../b", "\u2215a", "\uff0fa", "/\u00e4"}
	for _, parts := range append(someParts(), otherParts()...) {
		joined := strings.Join(parts, "/")
		list = append(list, "/"+joined, joined, "/"+joined+"/", "//"+joined)
	}
	for _, text := range []string{"/", "/a", "/a/b", "/a/b/c", "/abcdefgh/a1234567/zzzzzzzz", "//", "/a//b", "/a/b/c/d"} {
		list = append(list, changedTexts(text)...)
	}
	short := []string{""}
	for begin, long := 0, 0; long < 7; long++ {
		end := len(short)
		for ; begin < end; begin++ {
			for _, sign := range []string{"/", "a", "b", "1"} {
				short = append(short, short[begin]+sign)
			}
		}
	}
	list = append(list, short...)
	for _, sign := range []string{"/", "a", "/a", "a/", "/abcdefgh"} {
		for many := range 12 {
			list = append(list, strings.Repeat(sign, many))
		}
		list = append(list, strings.Repeat(sign, 256), strings.Repeat(sign, 259), strings.Repeat(sign, 65537))
	}
	return list
}

// wantedParts returns the names of a path, and whether it is one, in another way than the program does.
func wantedParts(path string) ([]string, bool) {
	if !pathPattern.MatchString(path) {
		return nil, false
	}
	return pathNamePattern.FindAllString(path, -1), true
}

// wantedBelow tells whether a path is below another one, in another way than the program does: by their texts.
func wantedBelow(path, above string) bool {
	if !pathPattern.MatchString(path) || !pathPattern.MatchString(above) {
		return false
	}
	return above == "/" || strings.HasPrefix(path+"/", above+"/")
}

func TestLimitsOfPaths(t *testing.T) {
	if impl.MaxParts != 3 {
		t.Fatal("a constant has another value than in the table of the document")
	}
}

func TestKnownPaths(t *testing.T) {
	known := map[string][]string{
		"/": {}, "/a": {"a"}, "/a/b": {"a", "b"}, "/b/a": {"b", "a"}, "/a/a/a": {"a", "a", "a"}, "/a1/b22/c333": {"a1", "b22", "c333"}, "/f": {"f"}, "/d": {"d"},
		"/abcdefgh": {"abcdefgh"}, "/abcdefgh/z1234567/zzzzzzzz": {"abcdefgh", "z1234567", "zzzzzzzz"},
	}
	for path, parts := range known {
		if got := impl.JoinPath(parts); got != path {
			t.Fatalf("JoinPath(%q) is %q, not %q", parts, got, path)
		}
		if got, ok := impl.PathParts(path); !ok || !slices.Equal(got, parts) {
			t.Fatalf("PathParts(%q) is %q, %v", path, got, ok)
		}
	}
}

// P9
func TestPathsCanBeDivided(t *testing.T) {
	for _, parts := range someParts() {
		path := impl.JoinPath(parts)
		if path != "/"+strings.Join(parts, "/") {
			t.Fatalf("JoinPath(%q) is %q", parts, path)
		}
		if got, ok := impl.PathParts(path); !ok || !slices.Equal(got, parts) {
			t.Fatalf("PathParts(%q) is %q, %v", path, got, ok)
		}
	}
}

func TestTheRootHasNoNames(t *testing.T) {
	if impl.JoinPath(nil) != "/" || impl.JoinPath([]string{}) != "/" {
		t.Fatal("the path of the root")
	}
	if parts, ok := impl.PathParts("/"); !ok || len(parts) != 0 {
		t.Fatalf("PathParts of the root is %q, %v", parts, ok)
	}
	if path := impl.JoinPath([]string{""}); path != "" {
		t.Fatalf("JoinPath of the empty name is %q", path)
	}
}

func TestOtherNamesHaveNoPath(t *testing.T) {
	for _, parts := range otherParts() {
		if path := impl.JoinPath(parts); path != "" {
			t.Fatalf("JoinPath(%q) is %q", parts, path)
		}
	}
}

func TestPathsHaveTheirLength(t *testing.T) {
	for many := range 300 {
		parts := slices.Repeat([]string{"ab"}, many)
		path := "/" + strings.Join(parts, "/")
		got, ok := impl.PathParts(path)
		valid := many <= 3
		if ok != valid || (impl.JoinPath(parts) == path) != valid || (impl.JoinPath(parts) == "") == valid {
			t.Fatalf("a path of %d names: %q, %v", many, got, ok)
		}
		if impl.PathBelow(path, "/") != valid || impl.PathBelow(path, path) != valid || impl.PathBelow("/", path) != (many == 0) {
			t.Fatalf("a path of %d names below others", many)
		}
	}
	for long := range 300 {
		name := strings.Repeat("x", long)
		for _, parts := range [][]string{{name}, {name, "b"}, {"a", name}, {"a", "b", name}, {"a", name, "c"}, {name, name, name}} {
			path := "/" + strings.Join(parts, "/")
			_, ok := impl.PathParts(path)
			valid := long >= 1 && long <= 8
			// Alone, the empty name leaves the path of the root.
			readable := valid || path == "/"
			if ok != readable || (impl.JoinPath(parts) != "") != valid || impl.PathBelow(path, path) != readable {
				t.Fatalf("a name of %d bytes in the path %q", long, path)
			}
		}
	}
}

func TestPathsHaveWords(t *testing.T) {
	for b := range 256 {
		sign := string([]byte{byte(b)})
		for _, name := range []string{sign, sign + "a", "a" + sign, "a" + sign + "b", "abcdefg" + sign} {
			valid := wordPattern.MatchString(name)
			for _, parts := range [][]string{{name}, {name, "b"}, {"a", name}, {name, "b", "c"}, {"a", name, "c"}, {"a", "b", name}} {
				if (impl.JoinPath(parts) != "") != valid {
					t.Fatalf("JoinPath(%q) is %q", parts, impl.JoinPath(parts))
				}
				path := "/" + strings.Join(parts, "/")
				if got, ok := impl.PathParts(path); ok != pathPattern.MatchString(path) || ok && b != '/' && !slices.Equal(got, parts) {
					t.Fatalf("PathParts(%q) is %q, %v", path, got, ok)
				}
			}
		}
	}
}

// P64
func TestDividedPathsArePaths(t *testing.T) {
	accepted, refused := 0, 0
	for _, path := range pathTexts() {
		got, ok := impl.PathParts(path)
		want, readable := wantedParts(path)
		if ok != readable || !slices.Equal(got, want) {
			t.Fatalf("PathParts(%q) is %q, %v", path, got, ok)
		}
		if !ok {
			refused++
			continue
		}
		accepted++
		if impl.JoinPath(got) != path {
			t.Fatalf("PathParts(%q) is %q, and its path %q", path, got, impl.JoinPath(got))
		}
		if with, ok := impl.PathParts(path + "/"); ok || len(with) != 0 {
			t.Fatalf("PathParts(%q) is %q, %v", path+"/", with, ok)
		}
	}
	if accepted < len(someParts()) || refused < len(otherParts()) {
		t.Fatalf("%d paths are accepted, and %d are refused", accepted, refused)
	}
}

func TestPathPartsRefusesOtherTexts(t *testing.T) {
	refused := []string{
		"", "a", "ab", "a/", "a/b", " /a", "/a ", "/ a", "//", "///", "/a/", "/a/b/", "/a/b/c/", "//a", "/a//b", "/a//", "//a/b", "/a/b//c", "/a/b/c//",
		"/a/b/c/d", "/a/b/c/d/e", "/a/a/a/a", "/A", "/aB", "/a/B", "/a/b/C", "/1", "/1a", "/a/1", "/a/b/9c", "/abcdefghi", "/a/abcdefghi", "/a/b/abcdefghi",
		"/\n", "/a\n", "\n/a", "/a\n/b", "/a/\x00", "/\xff", "/\u00e4", "/a\u00e4", "/a.b", "/.", "/..", "/a/..", "/a-b", "/a_b", "/a=7;", "\\a", "/a\\b", "/~", "/a b",
	}
	for _, path := range refused {
		if parts, ok := impl.PathParts(path); ok || len(parts) != 0 {
			t.Fatalf("PathParts(%q) is %q, %v", path, parts, ok)
		}
	}
}

// P65
func TestEverythingIsBelowTheRoot(t *testing.T) {
	for _, path := range pathTexts() {
		valid := pathPattern.MatchString(path)
		if impl.PathBelow(path, path) != valid || impl.PathBelow(path, "/") != valid || impl.PathBelow("/", path) != (path == "/") {
			t.Fatalf("%q is a path: %v, and below itself: %v, below the root: %v, above the root: %v", path, valid, impl.PathBelow(path, path), impl.PathBelow(path, "/"), impl.PathBelow("/", path))
		}
	}
}

// P65
func TestPathsBelowEachOtherAreEqual(t *testing.T) {
	paths := []string{
		"", "a", "//", "/a/", "//a", "/A", "/1", "a/b", "/a//b", "/a/b/", "/a/b/c/", "/a/b/c/d", "/a/a/a/a", "/b/c/d/e", "/ab/", "/a\n", "/ab\xff", "/abcdefghi", "/a/abcdefghi", " /a", "/a ",
		"/abcdefgh", "/abcdefg", "/a/abcdefgh", "/abcdefgh/a", "/z", "/zzzzzzzz",
	}
	for _, parts := range namesOfPaths([]string{"a", "ab", "abc", "b", "b1"}) {
		paths = append(paths, impl.JoinPath(parts))
	}
	below, equal := 0, 0
	for _, path := range paths {
		for _, above := range paths {
			got := impl.PathBelow(path, above)
			if got != wantedBelow(path, above) {
				t.Fatalf("PathBelow(%q, %q) is %v", path, above, got)
			}
			if got {
				below++
			}
			if got && impl.PathBelow(above, path) {
				equal++
				if path != above {
					t.Fatalf("%q and %q are below each other", path, above)
				}
			}
		}
	}
	if valid := len(namesOfPaths([]string{"a", "ab", "abc", "b", "b1"})); equal < valid || below < 3*valid {
		t.Fatalf("%d paths are below others, and %d below themselves", below, equal)
	}
}

func TestBelowGoesByNames(t *testing.T) {
	paths, others := someParts(), otherParts()
	for i, parts := range paths {
		path := impl.JoinPath(parts)
		for n := range parts {
			if above := impl.JoinPath(parts[:n]); !impl.PathBelow(path, above) || impl.PathBelow(above, path) {
				t.Fatalf("%q is below %q, and not the other way round", path, above)
			}
		}
		other := impl.JoinPath(paths[i*i%len(paths)])
		if impl.PathBelow(path, other) != wantedBelow(path, other) || impl.PathBelow(other, path) != wantedBelow(other, path) {
			t.Fatalf("PathBelow of %q and %q", path, other)
		}
	}
	for i, parts := range others {
		path, other := "/"+strings.Join(parts, "/"), impl.JoinPath(paths[i%len(paths)])
		if impl.PathBelow(path, other) != wantedBelow(path, other) || impl.PathBelow(other, path) != wantedBelow(other, path) {
			t.Fatalf("PathBelow of %q and %q", path, other)
		}
	}
}

func TestKnownPathsBelow(t *testing.T) {
	known := []struct {
		path, above string
		below       bool
	}{
		{"/", "/", true}, {"/a", "/", true}, {"/a/b/c", "/", true}, {"/", "/a", false}, {"/", "/a/b/c", false},
		{"/a", "/a", true}, {"/a/b", "/a", true}, {"/a/b/c", "/a", true}, {"/a/b/c", "/a/b", true}, {"/a/b/c", "/a/b/c", true},
		{"/a", "/a/b", false}, {"/a/b", "/a/b/c", false}, {"/a", "/a/b/c", false}, {"/a", "/b", false}, {"/a/b", "/b", false}, {"/a/b", "/a/c", false}, {"/a/b", "/b/a", false}, {"/a/b/c", "/a/c", false}, {"/a/b/c", "/b/c", false},
		{"/ab", "/a", false}, {"/a", "/ab", false}, {"/a/bc", "/a/b", false}, {"/a/b", "/a/bc", false}, {"/ab/c", "/a", false}, {"/a1", "/a", false}, {"/aa/a", "/a/a", false}, {"/a/b/cd", "/a/b/c", false},
		{"", "/", false}, {"/", "", false}, {"", "", false}, {"a", "/", false}, {"a", "a", false}, {"/a", "a", false}, {"/a", "", false}, {"/a/", "/", false}, {"/a/", "/a", false}, {"/a", "/a/", false}, {"/a/b", "/a/", false}, {"/a/", "/a/", false},
		{"//", "/", false}, {"/", "//", false}, {"/a", "//", false}, {"//a", "/", false}, {"/a//b", "/a", false}, {"/a/b", "/a//b", false}, {"/A", "/", false}, {"/A", "/A", false}, {"/a/B", "/a", false}, {"/a/b", "/A", false}, {"/1", "/", false},
		{"/a/b/c/d", "/", false}, {"/a/b/c/d", "/a", false}, {"/a/b/c/d", "/a/b/c", false}, {"/a/b/c", "/a/b/c/d", false}, {"/a/b/c/d", "/a/b/c/d", false}, {"/abcdefghi", "/", false}, {"/abcdefghi", "/abcdefgh", false}, {"/a\n", "/", false}, {"/a", "/\n", false},
	}
	for _, x := range known {
		if got := impl.PathBelow(x.path, x.above); got != x.below {
			t.Fatalf("PathBelow(%q, %q) is %v", x.path, x.above, got)
		}
	}
}

func TestPartsOfPathsAreNew(t *testing.T) {
	all := []string{"a", "b", "c", "d", "e"}
	for n := 0; n <= 3; n++ {
		parts := all[:n]
		path := impl.JoinPath(parts)
		got, ok := impl.PathParts(path)
		if !ok || !slices.Equal(all, []string{"a", "b", "c", "d", "e"}) {
			t.Fatalf("JoinPath(%q) has changed %q", parts, all)
		}
		for i := range got {
			got[i] = "x"
		}
		_ = append(got, "y", "z")
		again, ok := impl.PathParts(path)
		if !ok || !slices.Equal(again, parts) {
			t.Fatalf("PathParts(%q) is %q, %v after its result was written to", path, again, ok)
		}
	}
}
