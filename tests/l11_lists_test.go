package tests

import (
	"maps"
	"slices"
	"strings"
	"testing"

	"loop.example/proofarchive/impl"
)

// wantedFiles returns the contents of the files at paths other than / by their paths, in another way than the program does.
func wantedFiles(s walkStore) map[string]string {
	files := wholeContents(s.store, s.root)
	delete(files, "/")
	return files
}

// inOrder returns the paths of files in the order of their first names, then of their second ones, and so on.
func inOrder(files map[string]string) []string {
	byNames := func(a, b string) int { return slices.Compare(strings.Split(a, "/"), strings.Split(b, "/")) }
	return slices.SortedFunc(maps.Keys(files), byNames)
}

// named returns those of paths whose last name is a word.
func named(paths []string, word string) []string {
	var list []string
	for _, path := range paths {
		if parts := strings.Split(path, "/"); parts[len(parts)-1] == word {
			list = append(list, path)
		}
	}
	return list
}

func wantedSize(files map[string]string) int {
	return len(strings.Join(slices.Collect(maps.Values(files)), ""))
}

// listWords returns the names that the folders of a store have, parts of them, some that none has, and texts that are no words.
func listWords(store []impl.Piece) []string {
	words := map[string]bool{"": true, "q": true, "a": true, "/": true, "/a": true, "a/a": true, "a/b": true, "hi": true, "A": true}
	for _, piece := range store {
		entries, _ := wantedRead(piece.Text)
		for _, entry := range entries {
			for _, word := range []string{entry.Name, entry.Name[1:], entry.Name[:len(entry.Name)-1], "/" + entry.Name, entry.Name + "/"} {
				words[word] = true
			}
		}
	}
	return slices.Sorted(maps.Keys(words))
}

// checkList compares the lists of a root with those of the files that it should have.
func checkList(t *testing.T, s walkStore, files map[string]string) {
	t.Helper()
	want := inOrder(files)
	if got := impl.AllFiles(s.store, s.root); !slices.Equal(got, want) {
		t.Fatalf("AllFiles(%v, %d) is %q, not %q", s.store, s.root, got, want)
	}
	if got := impl.TotalSize(s.store, s.root); got != wantedSize(files) {
		t.Fatalf("TotalSize(%v, %d) is %d, not %d", s.store, s.root, got, wantedSize(files))
	}
}

// checkNamed compares the named files of a root with those of the files that it should have.
func checkNamed(t *testing.T, s walkStore, files map[string]string, words []string) {
	t.Helper()
	all := inOrder(files)
	for _, word := range words {
		if got, want := impl.FilesNamed(s.store, s.root, word), named(all, word); !slices.Equal(got, want) {
			t.Fatalf("FilesNamed(%v, %d, %q) is %q, not %q", s.store, s.root, word, got, want)
		}
	}
}

// checkSame checks SameFiles in both directions.
func checkSame(t *testing.T, store []impl.Piece, a, b int, want bool) {
	t.Helper()
	if got, turned := impl.SameFiles(store, a, b), impl.SameFiles(store, b, a); got != want || turned != want {
		t.Fatalf("SameFiles(%v, %d, %d) is %v, and turned %v", store, a, b, got, turned)
	}
}

// checkNoFiles checks that a root has no files.
func checkNoFiles(t *testing.T, s walkStore) {
	t.Helper()
	checkList(t, s, nil)
	checkNamed(t, s, nil, []string{"", "a", "b", "/", "/a", "hi"})
}

// bothSets returns a store with two sets of texts at paths, and the roots of both.
func bothSets(a, b map[string]string, more ...string) (store []impl.Piece, first, second int) {
	one := walkStoreOf(a, more...)
	two := walkStoreOf(b, textsOf(one.store)...)
	return two.store, one.root, two.root
}

// contentsOf returns the contents of a set of texts at paths that are all those of files.
func contentsOf(set map[string]string) map[string]string {
	files := map[string]string{}
	for path, text := range set {
		files[path] = text[1:]
	}
	return files
}

func TestKnownLists(t *testing.T) {
	known := []struct {
		set  map[string]string
		all  []string
		size int
	}{
		{map[string]string{}, nil, 0},
		{map[string]string{"/f": "fhi"}, []string{"/f"}, 2},
		{map[string]string{"/f": "f"}, []string{"/f"}, 0},
		{map[string]string{"/a/b": "fhi"}, []string{"/a/b"}, 2},
		{map[string]string{"/a/b/c": "fhi"}, []string{"/a/b/c"}, 2},
		{map[string]string{"/a/b/c/d": "fhi"}, nil, 0},
		{map[string]string{"/c": "fc", "/a": "fa", "/b": "fb"}, []string{"/a", "/b", "/c"}, 3},
		// Folders stand between files, and folders within them, too.
		{map[string]string{"/a": "f1", "/b/x": "f22", "/c": "f333"}, []string{"/a", "/b/x", "/c"}, 6},
		{map[string]string{"/a": "f1", "/b/a": "f22", "/b/c": "f333", "/c": "f4444"}, []string{"/a", "/b/a", "/b/c", "/c"}, 10},
		{map[string]string{"/a/z": "f1", "/b": "f22", "/c/a": "f333"}, []string{"/a/z", "/b", "/c/a"}, 6},
		{map[string]string{"/a/b": "f1", "/a/c/x": "f22", "/a/d": "f333", "/b": "f"}, []string{"/a/b", "/a/c/x", "/a/d", "/b"}, 6},
		{map[string]string{"/a/a/z": "f1", "/a/b": "f2", "/b/a/a": "f3"}, []string{"/a/a/z", "/a/b", "/b/a/a"}, 3},
		// A name that is the beginning of another one.
		{map[string]string{"/a/z": "fz", "/a0": "f0", "/aa/a": "fa"}, []string{"/a/z", "/a0", "/aa/a"}, 3},
		{map[string]string{"/a": "fz", "/a0/z": "f0", "/aa": "fa"}, []string{"/a", "/a0/z", "/aa"}, 3},
		{map[string]string{"/abcdefgh/a1234567/zzzzzzzz": "f" + strings.Repeat("x", 40)}, []string{"/abcdefgh/a1234567/zzzzzzzz"}, 40},
		// The same file at several paths counts at each.
		{map[string]string{"/a": "fsame", "/b/a": "fsame", "/b/b/a": "fsame"}, []string{"/a", "/b/a", "/b/b/a"}, 12},
		// Folders without entries and texts that are neither files nor folders stand beside files.
		{map[string]string{"/a": "d", "/b": "fhi", "/c": "hi"}, []string{"/b"}, 2},
		{map[string]string{"/a/a/a": "d", "/a/a/b": "", "/a/b": "F", "/c": "da=07;"}, nil, 0},
		{map[string]string{"/a": "f" + strings.Repeat("x", 41), "/b": "fda=7;"}, []string{"/b"}, 5},
		// Names whose prints are not in the store.
		{map[string]string{"/a": "dx=1;y=2;", "/b": "fhi"}, []string{"/b"}, 2},
	}
	for _, x := range known {
		s := walkStoreOf(x.set, "fbeside", "dbeside=1;", "a")
		if got := impl.AllFiles(s.store, s.root); !slices.Equal(got, x.all) {
			t.Fatalf("the files of %v are %q, not %q", x.set, got, x.all)
		}
		if got := impl.TotalSize(s.store, s.root); got != x.size {
			t.Fatalf("the files of %v have %d bytes, not %d", x.set, got, x.size)
		}
		checkList(t, s, wantedFiles(s))
	}
}

func TestKnownFilesNamed(t *testing.T) {
	s := walkStoreOf(map[string]string{"/x": "f1", "/a/x": "f2", "/a/b/x": "f3", "/a/b/b": "f4", "/a/y": "f5", "/c/xx": "f6", "/c/d": "d", "/c/e": "hi"})
	known := map[string][]string{
		"x": {"/a/b/x", "/a/x", "/x"}, "b": {"/a/b/b"}, "y": {"/a/y"}, "xx": {"/c/xx"},
		// Names of folders only, of a text that is neither, and of nothing.
		"a": nil, "c": nil, "d": nil, "e": nil, "q": nil, "xxx": nil, "bb": nil,
		// No words, though the paths end with some of them.
		"": nil, "/": nil, "/x": nil, "a/x": nil, "/a/x": nil, "b/x": nil, "x/": nil, "X": nil, " x": nil, "x ": nil, "x\n": nil,
	}
	for word, want := range known {
		if got := impl.FilesNamed(s.store, s.root, word); !slices.Equal(got, want) {
			t.Fatalf("the files with the name %q are %q, not %q", word, got, want)
		}
	}
}

// P70
func TestAllFilesCanBeRead(t *testing.T) {
	files, others := 0, 0
	for _, s := range changeStores() {
		all := impl.AllFiles(s.store, s.root)
		checkList(t, s, wantedFiles(s))
		among, size := map[string]bool{}, 0
		for _, path := range all {
			content, ok := impl.ReadAt(s.store, s.root, path)
			if !ok || among[path] {
				t.Fatalf("%q of %q is read as %q, %v", path, all, content, ok)
			}
			among[path] = true
			size += len(content)
			files++
		}
		if got := impl.TotalSize(s.store, s.root); got != size {
			t.Fatalf("%q have %d bytes, not %d", all, got, size)
		}
		for _, path := range walkPaths(s.store) {
			if content, ok := impl.ReadAt(s.store, s.root, path); ok && path != "/" && !among[path] {
				t.Fatalf("%q is not among %q, and is read as %q", path, all, content)
			}
			others++
		}
	}
	if files < 80 || others < 10000 {
		t.Fatalf("only %d files, and %d paths", files, others)
	}
}

func TestEveryPieceHasLists(t *testing.T) {
	files := 0
	for _, s := range changeStores() {
		for _, piece := range s.store {
			with := walkStore{s.store, piece.Print}
			want := wantedFiles(with)
			checkList(t, with, want)
			// A file and a text that is neither have no files, also not by the path /.
			if impl.TextKind(piece.Text) != 2 {
				checkNoFiles(t, with)
			}
			files += len(want)
		}
	}
	if files < 180 {
		t.Fatalf("only %d files", files)
	}
	for _, store := range someStores() {
		for _, piece := range store {
			checkNoFiles(t, walkStore{store, piece.Print})
		}
	}
}

func TestListsOfSetsOfFiles(t *testing.T) {
	for _, set := range smallSets() {
		s := walkStoreOf(set, "d", "fbeside")
		checkList(t, s, contentsOf(set))
		checkNamed(t, s, contentsOf(set), []string{"a", "b", "c", "d", "aa", "", "a/a", "/a"})
	}
	full := walkStoreOf(fullTree())
	checkList(t, full, contentsOf(fullTree()))
	checkNamed(t, full, contentsOf(fullTree()), []string{"a", "aa", "b", "c"})
	if got := impl.AllFiles(full.store, full.root); len(got) != 27 || got[0] != "/a/a/a" || got[26] != "/b/b/b" {
		t.Fatalf("the files of the full tree are %q", got)
	}
}

// P72
func TestNamedFilesHaveTheName(t *testing.T) {
	found, none := 0, 0
	for _, s := range changeStores() {
		all, words := impl.AllFiles(s.store, s.root), listWords(s.store)
		checkNamed(t, s, wantedFiles(s), words)
		together := 0
		for _, word := range words {
			list := impl.FilesNamed(s.store, s.root, word)
			for _, path := range list {
				if !strings.HasSuffix(path, "/"+word) || !slices.Contains(all, path) || !impl.WordValid(word) {
					t.Fatalf("%q is among the files with the name %q, and all files are %q", path, word, all)
				}
			}
			together += len(list)
			if len(list) == 0 {
				none++
			}
		}
		// Every file has one last name.
		if together != len(all) {
			t.Fatalf("%d files of %q have names", together, all)
		}
		found += together
	}
	if found < 80 || none < 1000 {
		t.Fatalf("only %d files have the names, and %d names have none", found, none)
	}
}

func TestOtherWordsNameNoFiles(t *testing.T) {
	s := walkStoreOf(map[string]string{"/a": "fhi", "/b/a": "f", "/b/b/a": "fx", "/abcdefgh/z": "f", "/b/abcdefgh": "f"})
	words := slices.Concat(otherNames, inOrder(wantedFiles(s)), []string{"a/", "b/a", "b/b/a", "/b/a", "abcdefgh/z", "bcdefgh", "abcdefg", "abcdefghi", "a\x00", "a/.", "*", ".", "hi", "fhi", strings.Repeat("a", 1000)})
	for _, word := range words {
		if got := impl.FilesNamed(s.store, s.root, word); len(got) != 0 {
			t.Fatalf("the files with the name %q are %q", word, got)
		}
	}
	checkNamed(t, s, wantedFiles(s), append(words, listWords(s.store)...))
}

// manyLeft returns stores without one piece, and without several ones.
func manyLeft(store []impl.Piece) [][]impl.Piece {
	var list [][]impl.Piece
	for i := range store {
		list = append(list, without(store, i))
	}
	for step := 2; step <= 7; step++ {
		for first := range step {
			var left, gone []impl.Piece
			for i, piece := range store {
				if (i*i+i*step)%step == first {
					gone = append(gone, piece)
				} else {
					left = append(left, piece)
				}
			}
			list = append(list, left, gone)
		}
	}
	return append(list, nil)
}

func TestListsWithMissingPieces(t *testing.T) {
	fewer := 0
	for _, s := range append(walkStores(), walkStoreOf(fullTree()), walkStoreOf(map[string]string{"/a": "f1", "/b/a": "f2", "/b/b/a": "f3", "/b/b/b": "f", "/c/a": "f5", "/c/b": "f2"})) {
		whole := wantedFiles(s)
		for _, store := range manyLeft(s.store) {
			left := walkStore{store, s.root}
			files := wantedFiles(left)
			checkList(t, left, files)
			for path := range files {
				if whole[path] != files[path] {
					t.Fatalf("%q is another file without pieces of %v", path, s.store)
				}
			}
			if len(files) > 0 && len(files) < len(whole) {
				fewer++
				checkNamed(t, left, files, listWords(s.store))
				checkSame(t, store, s.root, s.root, true)
			}
		}
	}
	if fewer < 100 {
		t.Fatalf("only %d stores have some of the files", fewer)
	}
}

// A folder or a file of which the piece is not in the store is left out, and what stands after it is not.
func TestKnownListsWithMissingPieces(t *testing.T) {
	set := map[string]string{"/a/x": "f1", "/a/y": "f22", "/b": "f333", "/c/x/y": "f4444", "/c/y": "f55555"}
	known := []struct {
		text string
		all  []string
		size int
	}{
		{"f1", []string{"/a/y", "/b", "/c/x/y", "/c/y"}, 14}, {"f22", []string{"/a/x", "/b", "/c/x/y", "/c/y"}, 13}, {"f333", []string{"/a/x", "/a/y", "/c/x/y", "/c/y"}, 12},
		{"f4444", []string{"/a/x", "/a/y", "/b", "/c/y"}, 11}, {"f55555", []string{"/a/x", "/a/y", "/b", "/c/x/y"}, 10},
		{treeTexts(map[string]string{"/x": "f1", "/y": "f22"})[0], []string{"/b", "/c/x/y", "/c/y"}, 12},
		{treeTexts(map[string]string{"/y": "f4444"})[0], []string{"/a/x", "/a/y", "/b", "/c/y"}, 11},
		{treeTexts(map[string]string{"/x/y": "f4444", "/y": "f55555"})[0], []string{"/a/x", "/a/y", "/b"}, 6},
		{treeTexts(set)[0], nil, 0},
	}
	s := walkStoreOf(set)
	for _, x := range known {
		place := slices.Index(textsOf(s.store), x.text)
		left := without(s.store, place)
		if got, size := impl.AllFiles(left, s.root), impl.TotalSize(left, s.root); !slices.Equal(got, x.all) || size != x.size {
			t.Fatalf("without %q the files are %q, and have %d bytes", x.text, got, size)
		}
		for _, word := range []string{"x", "y", "b", "a"} {
			if got := impl.FilesNamed(left, s.root, word); !slices.Equal(got, named(x.all, word)) {
				t.Fatalf("without %q the files with the name %q are %q", x.text, word, got)
			}
		}
		// Another text with the print of the one that is missing is no file and no folder.
		other := walkStore{storeOf(append(textsOf(left), sameText(x.text))...), s.root}
		if got := impl.AllFiles(other.store, s.root); !slices.Equal(got, x.all) {
			t.Fatalf("with another text in place of %q the files are %q", x.text, got)
		}
	}
}

func TestRootsThatAreNotInTheStoreHaveNoFiles(t *testing.T) {
	for _, s := range changeStores() {
		roots := append([]int{0, 1, 5, 357, 359, s.root + 1, s.root - 1, -s.root, -s.root - 1, s.root + 16777213, s.root - 16777213, s.root + 1<<32, impl.MaxPrint}, otherPrints...)
		for i, root := range roots {
			if _, there := textsByPrint(s.store)[root]; there {
				continue
			}
			checkNoFiles(t, walkStore{s.store, root})
			// It has as many files as another one that is not there, or as one without files.
			checkSame(t, s.store, root, roots[len(roots)-1-i%8], true)
			checkSame(t, s.store, root, s.root, len(wantedFiles(s)) == 0)
		}
	}
	for _, root := range append([]int{0, 1, 357, -357}, otherPrints...) {
		for _, store := range [][]impl.Piece{nil, {}} {
			checkNoFiles(t, walkStore{store, root})
			checkSame(t, store, root, root, true)
			checkSame(t, store, root, 1, true)
		}
	}
}

// Folders that lead to themselves have files at each of the paths.
func TestListsOfLoops(t *testing.T) {
	s := walkStore{storeOf("da=581e14;x=6a383b;", "fhi"), 5774868}
	checkList(t, s, map[string]string{"/a/a/x": "hi", "/a/x": "hi", "/x": "hi"})
	checkNamed(t, s, map[string]string{"/a/a/x": "hi", "/a/x": "hi", "/x": "hi"}, []string{"x", "a", "xx"})
	if got := impl.AllFiles(s.store, s.root); !slices.Equal(got, []string{"/a/a/x", "/a/x", "/x"}) || impl.TotalSize(s.store, s.root) != 6 {
		t.Fatalf("the files of a folder that leads to itself are %q", got)
	}
	checkNoFiles(t, walkStore{storeOf(loopText), 7173272})
	files := 0
	for _, loop := range loops() {
		files += len(wantedFiles(loop))
		checkList(t, loop, wantedFiles(loop))
		checkNamed(t, loop, wantedFiles(loop), listWords(loop.store))
		checkSame(t, loop.store, loop.root, loop.root, true)
		for _, path := range walkPaths(loop.store) {
			if got := write(t, loop, path, "hi"); got.ok {
				next := walkStore{got.store, got.root}
				files += len(wantedFiles(next))
				checkList(t, next, wantedFiles(next))
			}
		}
	}
	if files < 100 {
		t.Fatalf("only %d files", files)
	}
}

func TestContentsOfEveryLengthAddUp(t *testing.T) {
	for i, content := range someContents() {
		if i%5 != 0 && len(content) > 2 {
			continue
		}
		files := map[string]string{"/a/a": content, "/b": "hi", "/c/c/c": content}
		s := walkStoreOf(map[string]string{"/a/a": "f" + content, "/b": "fhi", "/c/c/c": "f" + content})
		checkList(t, s, files)
		if got := impl.TotalSize(s.store, s.root); got != 2*len(content)+2 {
			t.Fatalf("%q twice and hi have %d bytes", content, got)
		}
	}
}

// With a file of 3 bytes more at a new path it is 3 more.
func TestSizesAreMoreWithMoreFiles(t *testing.T) {
	many := 0
	for _, set := range smallSets() {
		s := walkStoreOf(set)
		before := impl.TotalSize(s.store, s.root)
		for _, path := range allPaths("a", "b", "d") {
			_, there := set[path]
			got := write(t, s, path, "new")
			if there || !got.ok {
				continue
			}
			many++
			if size := impl.TotalSize(got.store, got.root); size != before+3 {
				t.Fatalf("with three bytes at %q %v has %d bytes, and it had %d", path, set, size, before)
			}
		}
	}
	if many < 1000 {
		t.Fatalf("only %d files are new", many)
	}
}

func TestKnownSameFiles(t *testing.T) {
	// The files are the same, and the prints are not: folders without files, texts of neither, missing prints, and files below too many names stand beside them.
	same := [][]map[string]string{
		{{}, {"/a": "d"}, {"/a/b/c": "d"}, {"/a": "hi"}, {"/a": "dx=1;"}, {"/a/b/c/d": "fdeep"}, {"": "fhi"}, {"": "f"}, {"": "hi"}, {"": "da=1;b=2;"}, {"": loopText}},
		{{"/a": "fhi"}, {"/a": "fhi", "/b": "d"}, {"/a": "fhi", "/b": "d", "/c": "d"}, {"/a": "fhi", "/b": "hi"}, {"/a": "fhi", "/b": ""}, {"/a": "fhi", "/b": "dx=1;"}, {"/a": "fhi", "/b/c/d/e": "fdeep"}, {"/a": "fhi", "/b/c/d": "da=1;"}, {"": "da=6a383b;"}, {"": "da=6a383b;b=1;"}, {"": "da=6a383b;b=2;c=3;"}},
		{{"/a": "f", "/b/c": "fx"}, {"/a": "f", "/b/b": "d", "/b/c": "fx"}, {"/a": "f", "/b/c": "fx", "/b/d/e": "d"}, {"/a": "f", "/aa": "d", "/b/c": "fx"}, {"/a": "f", "/b/c": "fx", "/c": loopText}},
		{{"/a": "fhi", "/b": "fx"}}, {{"/a": "fx", "/b": "fhi"}}, {{"/a": "fhi", "/b": "fhi"}}, {{"/a": "fh", "/b": "fix"}}, {{"/a": "fhix", "/b": "f"}},
		{{"/a": "fhj"}}, {{"/a": "fho"}}, {{"/a": "fhi "}}, {{"/a": "f"}}, {{"/b": "fhi"}}, {{"/a/a": "fhi"}}, {{"/a/b": "fhi"}}, {{"/a/a/a": "fhi"}}, {{"/aa": "fhi"}}, {{"/a": "fhi", "/b": "f"}}, {{"/a": "f", "/b": "f"}}, {{"/a/b": "fhi", "/b": "f"}},
		{{"/a": "f", "/b/c": "fy"}}, {{"/a": "f", "/b/d": "fx"}}, {{"/a": "f", "/c/c": "fx"}}, {{"/a": "f", "/b": "fx"}}, {{"/a/c": "f", "/b": "fx"}}, {{"/a": "f", "/b/a": "f", "/b/c": "fx"}}, {{"/a": "f", "/b/c": "fx", "/c": "f"}},
	}
	pairs := 0
	for i, some := range same {
		for j, others := range same[:i+1] {
			for _, a := range some {
				for _, b := range others {
					pairs++
					store, first, second := bothSets(a, b, "fhi", "a")
					checkSame(t, store, first, second, i == j)
				}
			}
		}
	}
	if pairs < 500 {
		t.Fatalf("only %d pairs", pairs)
	}
	store, first, second := bothSets(map[string]string{"/a": "fhi"}, map[string]string{"/a": "fhi"})
	if checkSame(t, store, first, second, true); first != second {
		t.Fatalf("the roots are %d and %d", first, second)
	}
}

// All pairs of pieces of a store as roots.
func TestSameFilesOfAllPieces(t *testing.T) {
	same, not := 0, 0
	alike := []walkStore{
		walkStoreOf(map[string]string{"/a/a": "fhi", "/b/a": "fhi", "/b/b": "d", "/c/a": "fhi", "/c/b": "hi"}),
		walkStoreOf(map[string]string{"/a/a/a": "f1", "/a/b": "d", "/b/a/a": "f1", "/b/a/b": "dx=1;", "/c/a/a": "f1", "/c/a/b": "f1"}),
	}
	for _, s := range append(changeStores(), alike...) {
		for i, a := range s.store {
			first := wantedFiles(walkStore{s.store, a.Print})
			checkSame(t, s.store, a.Print, a.Print, true)
			for _, b := range s.store[:i] {
				want := maps.Equal(first, wantedFiles(walkStore{s.store, b.Print}))
				checkSame(t, s.store, a.Print, b.Print, want)
				if want && len(first) > 0 {
					same++
				}
				if !want {
					not++
				}
			}
		}
	}
	if same < 5 || not < 800 {
		t.Fatalf("%d pairs have the same files, and %d have not", same, not)
	}
}

func TestSameFilesOfSetsOfFiles(t *testing.T) {
	sets := smallSets()
	for i, set := range sets {
		// With one more, with one less, and with another content for each of its files; and another set.
		others := []map[string]string{maps.Clone(set), sets[(i*7+1)%len(sets)]}
		for path := range set {
			other := maps.Clone(set)
			other[path] += "x"
			turned := maps.Clone(set)
			turned[path] = "f" + strings.Repeat("z", len(set[path])-1)
			others = append(others, other, turned, withoutPath(set, path))
		}
		for _, path := range allPaths("a", "c") {
			if with, ok := withFile(set, path, "f"); ok {
				others = append(others, with)
			}
		}
		for _, other := range others {
			store, first, second := bothSets(set, other)
			if len(store) > 40 {
				continue
			}
			checkSame(t, store, first, second, maps.Equal(set, other))
		}
	}
}

// A folder and a file can be at the same place of different roots.
func TestFoldersAndFilesAtTheSamePlace(t *testing.T) {
	pairs := [][2]map[string]string{
		{{"/a": "fhi"}, {"/a/a": "fhi"}}, {{"/a": "fhi"}, {"/a/b/c": "fhi"}}, {{"/a/b": "fhi", "/c": "f"}, {"/a/b/a": "f1", "/a/b/b": "f2", "/c/c": "f"}},
		{{"/a/b": "fhi"}, {"/a": "f", "/b": "fhi"}}, {{"/a/b/c": "fx"}, {"/a/b": "fx"}},
	}
	for _, sets := range pairs {
		store, first, second := bothSets(sets[0], sets[1])
		checkSame(t, store, first, second, false)
		for i, root := range []int{first, second} {
			checkList(t, walkStore{store, root}, contentsOf(sets[i]))
			checkNamed(t, walkStore{store, root}, contentsOf(sets[i]), []string{"a", "b", "c", "hi"})
		}
	}
}

// P69
func TestEmptyRootsHaveNoFiles(t *testing.T) {
	possible := 0
	for _, store := range append(someStores(), storeOf("d"), storeOf("fhi", "df=6a383b;"), walkStoreOf(map[string]string{"/a/a": "fhi"}).store, storeOf(append(manyTexts("x", 39), "d")...)) {
		got, root, ok := impl.EmptyRoot(store)
		if !ok {
			continue
		}
		possible++
		checkNoFiles(t, walkStore{got, root})
		if names, folder := impl.NamesAt(got, root, "/"); !folder || len(names) != 0 {
			t.Fatalf("the names of the empty root are %q, %v", names, folder)
		}
		again, same, still := impl.EmptyRoot(got)
		if !still || same != root || !slices.Equal(again, got) {
			t.Fatalf("EmptyRoot(%v) again is %v, %d, %v", got, again, same, still)
		}
		checkSame(t, got, root, -1, true)
	}
	if possible < 50 {
		t.Fatalf("only %d empty roots", possible)
	}
}

// checkFiles compares the lists of a root, and what is read at their paths, with the files that it should have.
func checkFiles(t *testing.T, s walkStore, files map[string]string) {
	t.Helper()
	checkList(t, s, files)
	for path, content := range files {
		if got, ok := impl.ReadAt(s.store, s.root, path); !ok || got != content {
			t.Fatalf("%q of %d in %v is %q, %v, not %q", path, s.root, s.store, got, ok, content)
		}
	}
}

// checkBoth lists and reads the old root and the new one after a change, and returns the new one. The old root has all files that it had; it may have more, if pieces were missing.
func checkBoth(t *testing.T, s walkStore, got changed) walkStore {
	t.Helper()
	old, next := walkStore{got.store, s.root}, walkStore{got.store, got.root}
	still := wantedFiles(old)
	for path, content := range wantedFiles(s) {
		if now, there := still[path]; !there || now != content {
			t.Fatalf("%q of the old root %d, which was %q, is %q, %v", path, s.root, content, now, there)
		}
	}
	checkFiles(t, old, still)
	checkFiles(t, next, wantedFiles(next))
	return next
}

// P10
func TestWrittenFilesAreListed(t *testing.T) {
	many := 0
	for _, s := range changeStores() {
		for i, path := range changePaths(s) {
			content := []string{"hi", "", "da=7;", strings.Repeat("x", 40)}[i%4]
			got := write(t, s, path, content)
			if !got.ok {
				continue
			}
			many++
			next := checkBoth(t, s, got)
			if read, ok := impl.ReadAt(got.store, got.root, path); !ok || read != content || !slices.Contains(impl.AllFiles(got.store, got.root), path) {
				t.Fatalf("%q was written at %q of %d, and %q, %v is read", content, path, s.root, read, ok)
			}
			if again := write(t, next, path, content); !again.equal(got) {
				t.Fatalf("%q at %q is written again: %v, and it was %v", content, path, again, got)
			}
		}
	}
	if many < 1000 {
		t.Fatalf("only %d writes are possible", many)
	}
}

// P11
func TestDroppedFilesAreNotListed(t *testing.T) {
	many := 0
	for _, s := range changeStores() {
		for _, path := range changePaths(s) {
			got := drop(t, s, path)
			if !got.ok {
				continue
			}
			many++
			next := checkBoth(t, s, got)
			for _, file := range impl.AllFiles(got.store, got.root) {
				if impl.PathBelow(file, path) {
					t.Fatalf("%q was dropped from %d, and %q is a file", path, s.root, file)
				}
			}
			if print, leads := impl.WalkTo(got.store, got.root, path); leads {
				t.Fatalf("%q was dropped, and leads to %d", path, print)
			}
			if again := drop(t, next, path); !again.equal(stays(next)) {
				t.Fatalf("%q is dropped again: %v", path, again)
			}
		}
	}
	if many < 200 {
		t.Fatalf("only %d drops are possible", many)
	}
}

// P10 and P11: from a set of files on the lists are those of the set with the file, or without it, and the old root has the files of the old set.
func TestListsOfChangedSets(t *testing.T) {
	written, dropped := 0, 0
	for _, set := range smallSets() {
		s := walkStoreOf(set)
		for _, path := range allPaths("a", "b", "d") {
			if got := write(t, s, path, "new"); got.ok {
				written++
				with, _ := withFile(set, path, "fnew")
				checkFiles(t, walkStore{got.store, s.root}, contentsOf(set))
				checkFiles(t, walkStore{got.store, got.root}, contentsOf(with))
				checkSame(t, got.store, s.root, got.root, false)
			}
			if got := drop(t, s, path); got.ok {
				dropped++
				checkFiles(t, walkStore{got.store, s.root}, contentsOf(set))
				checkFiles(t, walkStore{got.store, got.root}, contentsOf(withoutPath(set, path)))
				checkSame(t, got.store, s.root, got.root, false)
			}
		}
	}
	if written < 2000 || dropped < 800 {
		t.Fatalf("only %d writes and %d drops", written, dropped)
	}
}

// P10 and P11: every root on the way keeps its files, from the empty one on.
func TestAllRootsKeepTheirFiles(t *testing.T) {
	store, root, _ := impl.EmptyRoot(nil)
	s, set := walkStore{store, root}, map[string]string{}
	sets := map[int]map[string]string{root: {}}
	for _, path := range []string{"/b/x", "/a", "/b/c/x", "/c", "/b/y", "/-/a", "/-/b/x", "/-/c", "/-/b", "/d", "/d"} {
		got := changed{}
		if dropping, gone := strings.CutPrefix(path, "/-"); gone {
			got, set = checkDrop(t, s, dropping), withoutPath(set, dropping)
		} else {
			got = checkWrite(t, s, path, "at "+path)
			set, _ = withFile(set, path, "fat "+path)
		}
		if !got.ok {
			t.Fatalf("%q from %v on: %v", path, set, got)
		}
		s = walkStore{got.store, got.root}
		sets[s.root] = set
		for one, files := range sets {
			checkFiles(t, walkStore{s.store, one}, contentsOf(files))
			checkNamed(t, walkStore{s.store, one}, contentsOf(files), []string{"x", "y", "a", "b", "c"})
			for other, more := range sets {
				checkSame(t, s.store, one, other, maps.Equal(files, more))
			}
		}
	}
	if len(sets) < 9 {
		t.Fatalf("only %d roots", len(sets))
	}
}

func TestStoresThatAreNotValidHaveNoFiles(t *testing.T) {
	check := func(store []impl.Piece, root int) {
		t.Helper()
		if impl.StoreValid(store) {
			t.Fatalf("%v is valid", store)
		}
		checkList(t, walkStore{store, root}, nil)
		for _, word := range []string{"a", "b", ""} {
			if got := impl.FilesNamed(store, root, word); len(got) != 0 {
				t.Fatalf("FilesNamed(%v, %d, %q) is %q", store, root, word, got)
			}
		}
		for _, other := range []int{root, 357, -1, root + 1} {
			checkSame(t, store, root, other, false)
		}
	}
	for _, store := range otherStores() {
		for _, root := range []int{0, 1, 357, -1} {
			check(store, root)
		}
		for _, piece := range store[:min(4, len(store))] {
			check(store, piece.Print)
		}
	}
	for _, set := range []map[string]string{{}, {"/a": "fhi"}, {"/a/b": "fhi", "/b": "f"}, {"/a/a/a": "f", "/b": "hi"}} {
		s := walkStoreOf(set, "x", "fbeside", "aagjuw")
		for _, store := range wronged(s.store) {
			check(store, s.root)
		}
	}
	beyond := walkStoreOf(fullTree(), "fhi")
	check(beyond.store, beyond.root)
}

func TestResultsOfListsAreNew(t *testing.T) {
	for _, s := range append(changeStores(), walkStoreOf(map[string]string{"/a": "f1", "/b/a": "f2", "/b/b/a": "f3"})) {
		for _, list := range []func([]impl.Piece) []string{
			func(store []impl.Piece) []string { return impl.AllFiles(store, s.root) },
			func(store []impl.Piece) []string { return impl.FilesNamed(store, s.root, "a") },
		} {
			given := append(slices.Clone(s.store), impl.Piece{Print: 7, Text: "spare"}, impl.Piece{Print: 8, Text: "spare"})
			before := slices.Clone(given)
			first := list(given[:len(s.store)])
			want := slices.Clone(first)
			second := list(given[:len(s.store)])
			clear(second[:cap(second)])
			impl.TotalSize(given[:len(s.store)], s.root)
			impl.SameFiles(given[:len(s.store)], s.root, s.root)
			if !slices.Equal(first, want) || !slices.Equal(given, before) || !slices.Equal(list(given[:len(s.store)]), want) {
				t.Fatalf("a list of %d shares memory, or writes to its argument", s.root)
			}
			clear(given)
			if !slices.Equal(first, want) {
				t.Fatalf("a list of %d shares memory with its argument", s.root)
			}
		}
	}
}
