package tests

import (
	"maps"
	"slices"
	"strings"
	"testing"

	"loop.example/proofarchive/impl"
)

// walkStore is a store with a root.
type walkStore struct {
	store []impl.Piece
	root  int
}

// loopText is the text of a folder whose names lead to itself: all of them have its own print.
const loopText = "da=6d7498;ab=6d7498;b=6d7498;"

// treeTexts returns the texts at paths and of the folders above them, the root's first. The path of a root that is the only text is empty.
func treeTexts(at map[string]string) []string {
	if text, alone := at[""]; alone {
		return []string{text}
	}
	below := map[string]map[string]string{}
	for path, text := range at {
		name, rest, deeper := strings.Cut(path[1:], "/")
		if deeper {
			rest = "/" + rest
		}
		if below[name] == nil {
			below[name] = map[string]string{}
		}
		below[name][rest] = text
	}
	texts, prints := []string{""}, map[string]int{}
	for _, name := range slices.Sorted(maps.Keys(below)) {
		parts := treeTexts(below[name])
		prints[name] = wantedPrint(parts[0])
		texts = append(texts, parts...)
	}
	texts[0] = wantedFolderText(folderOf(prints))
	return texts
}

// walkStoreOf returns a store with the texts at paths, the folders above them and more texts, in another way than the program does.
func walkStoreOf(at map[string]string, more ...string) walkStore {
	texts := treeTexts(at)
	return walkStore{storeOf(append(more, texts...)...), wantedPrint(texts[0])}
}

// fullTree returns files at all paths of three names, so that they and the folders above them have MaxPieces texts.
func fullTree() map[string]string {
	at := map[string]string{}
	for _, parts := range namesOfPaths([]string{"a", "aa", "b"}) {
		if len(parts) == 3 {
			path := "/" + strings.Join(parts, "/")
			at[path] = "f" + path
		}
	}
	return at
}

// walkTrees returns texts at paths: files, folders without entries, texts of neither, and names whose prints no store has.
func walkTrees() []map[string]string {
	return []map[string]string{
		{}, {"": "fhi"}, {"": "f"}, {"": ""}, {"": "hi"}, {"": "db=1;a=2;"}, {"": "da=7;"}, {"": "fda=7;"}, {"": "fvshzxx"}, {"": "fvshzxw"}, {"": "aagjux"}, {"": "db=1eb0ae;"},
		{"/a": "fhi"}, {"/a": "f"}, {"/a": "d"}, {"/a": ""}, {"/a": "hi"}, {"/a": "fda=7;"}, {"/a": "da=7;"}, {"/a": "db=1;a=2;"}, {"/a": "f" + strings.Repeat("x", 40)}, {"/a": "f" + strings.Repeat("x", 41)},
		{"/a": "fvshzxx", "/aa": "fvshzxw", "/ab": "fvshzxy"}, {"/a": "aagjux", "/b": "aagjuy", "/c": "aagjuw"},
		{"/a": "fhi", "/aa": "d", "/b": "fhi"}, {"/a/b": "fhi", "/c": "d"}, {"/a/a": "fone", "/aa/a": "ftwo", "/aa/aa": "fthree"}, {"/abcdefgh/zzzzzzzz/a1234567": "fhi"},
		{"/a/b/c": "fhi", "/a/b/d": "ff", "/a/x": "fx", "/b": "d", "/f": "f"}, {"/a/a/a": "fhi", "/a/a/b": "d", "/a/a/c": "x", "/a/b": "d", "/b/a/b": "da=5;b=0;c=fffffc;"},
		{"/a/b/c/d": "fdeep", "/a/b/c/e": "d", "/b": "fb"}, {"/a/b/c/d/a/b": "fdeeper"}, {"/a/b": "fsame", "/b/b": "fsame", "/c/b": "fother"},
	}
}

// loops returns stores with folders that lead to themselves, some by another one.
func loops() []walkStore {
	return []walkStore{
		{storeOf(loopText), 7173272}, {storeOf("da=2e5911;"), 3037457}, {storeOf("da=70e9a9;", "fhi"), 7399849}, {storeOf("da=c1242d;", "db=51cd42;"), 5360962},
		{storeOf("da=7d4709;", "db=ba3e42;"), 12205634}, {storeOf("da=7d4709;", "db=ba3e42;"), 8210185}, {storeOf("db=10a414;", "dc=20492d;", "x", "d"), 2115885},
		{storeOf("da=581e14;x=6a383b;", "fhi"), 5774868},
		walkStoreOf(map[string]string{"/a": loopText, "/b/b": loopText, "/c": "fhi"}), walkStoreOf(map[string]string{"/a/b/c": "da=2e5911;"}),
	}
}

// walkStores returns stores with roots: each of walkTrees, alone and with other pieces beside it, and loops.
func walkStores() []walkStore {
	list := loops()
	for _, at := range walkTrees() {
		list = append(list, walkStoreOf(at), walkStoreOf(at, "a", "ab", "fbeside", "dbeside=1;", "d", loopText))
	}
	return list
}

// without returns a store without the piece of one place.
func without(store []impl.Piece, place int) []impl.Piece {
	return slices.Delete(slices.Clone(store), place, place+1)
}

func textsByPrint(store []impl.Piece) map[int]string {
	texts := map[int]string{}
	for _, piece := range store {
		texts[piece.Print] = piece.Text
	}
	return texts
}

// wantedWalks returns the prints to which the paths from a root lead in a valid store, in another way than the program does: by all paths at once.
func wantedWalks(store []impl.Piece, root int) map[string]int {
	texts, all := textsByPrint(store), map[string]int{}
	if _, there := texts[root]; !there {
		return all
	}
	all["/"] = root
	level := map[string]int{"": root}
	for range 3 {
		next := map[string]int{}
		for above, print := range level {
			entries, _ := wantedRead(texts[print])
			for _, entry := range entries {
				if _, there := texts[entry.Print]; there {
					next[above+"/"+entry.Name] = entry.Print
				}
			}
		}
		maps.Copy(all, next)
		level = next
	}
	return all
}

// walkPaths returns all paths of the names that the folders of a store have, as far as these are not many, and of some that none has; and texts that are no paths.
func walkPaths(store []impl.Piece) []string {
	names := map[string]bool{"q": true, "a": true}
	for _, piece := range store {
		entries, _ := wantedRead(piece.Text)
		for _, entry := range entries {
			names[entry.Name] = true
		}
	}
	paths := []string{"", "a", "q", "//", "/a/", "/a//", "//a", "/a//a", "/A", "/a\n", "/a/b/c/d", "/a/a/a/a", "/a/b/c/d/a", "/abcdefghi", "/1", "/a=7;"}
	for _, parts := range namesOfPaths(slices.Sorted(maps.Keys(names))) {
		paths = append(paths, "/"+strings.Join(parts, "/"))
	}
	return paths
}

// checkWalk checks the results of all functions of the chapter for a path that leads to a text, or nowhere.
func checkWalk(t *testing.T, s walkStore, path string, print int, text string, leads bool) {
	t.Helper()
	if !leads {
		print, text = -1, ""
	}
	content, file := wantedFile(text)
	entries, folder := wantedRead(text)
	var names []string
	for _, entry := range entries {
		names = append(names, entry.Name)
	}
	if got, ok := impl.WalkTo(s.store, s.root, path); got != print || ok != leads {
		t.Fatalf("WalkTo(%v, %d, %q) is %d, %v", s.store, s.root, path, got, ok)
	}
	if got, ok := impl.ReadAt(s.store, s.root, path); got != content || ok != file {
		t.Fatalf("ReadAt(%v, %d, %q) is %q, %v", s.store, s.root, path, got, ok)
	}
	if got, ok := impl.NamesAt(s.store, s.root, path); !slices.Equal(got, names) || ok != folder {
		t.Fatalf("NamesAt(%v, %d, %q) is %q, %v", s.store, s.root, path, got, ok)
	}
}

// checkWalks checks the functions of the chapter for paths, and returns how many of them lead somewhere.
func checkWalks(t *testing.T, s walkStore, paths []string) int {
	t.Helper()
	all, texts := wantedWalks(s.store, s.root), textsByPrint(s.store)
	many := 0
	for _, path := range paths {
		print, leads := all[path]
		checkWalk(t, s, path, print, texts[print], leads)
		if leads {
			many++
		}
	}
	if many > len(all) {
		t.Fatalf("%d paths lead somewhere, and there are %d", many, len(all))
	}
	return many
}

func TestKnownWalks(t *testing.T) {
	store := storeOf("fhi", "f", "d", "hi", "df=6a383b;", "da=167;b=168;", "dd=78ac07;x=5;")
	known := map[string]int{"fhi": 6961211, "f": 359, "d": 357, "df=6a383b;": 7908359}
	for text, print := range known {
		if wantedPrint(text) != print {
			t.Fatalf("the print of %q is %d", text, wantedPrint(text))
		}
	}
	walks := []struct {
		text, path, leads string
	}{
		{"fhi", "/", "fhi"}, {"fhi", "/f", ""}, {"fhi", "/hi", ""}, {"d", "/", "d"}, {"d", "/d", ""}, {"hi", "/", "hi"}, {"hi", "/hi", ""},
		{"df=6a383b;", "/", "df=6a383b;"}, {"df=6a383b;", "/f", "fhi"}, {"df=6a383b;", "/f/f", ""}, {"df=6a383b;", "/d", ""}, {"df=6a383b;", "/ff", ""}, {"df=6a383b;", "f", ""}, {"df=6a383b;", "/f/", ""},
		{"da=167;b=168;", "/a", "f"}, {"da=167;b=168;", "/b", ""}, {"da=167;b=168;", "/c", ""}, {"da=167;b=168;", "/", "da=167;b=168;"}, {"dd=78ac07;x=5;", "/x", ""}, {"dd=78ac07;x=5;", "/d", "df=6a383b;"}, {"dd=78ac07;x=5;", "/d/f", "fhi"}, {"dd=78ac07;x=5;", "/d/f/f", ""}, {"dd=78ac07;x=5;", "/x/f", ""},
	}
	for _, walk := range walks {
		s := walkStore{store, wantedPrint(walk.text)}
		checkWalk(t, s, walk.path, wantedPrint(walk.leads), walk.leads, walk.leads != "")
	}
}

// P66
func TestWalksLeadToPieces(t *testing.T) {
	many := 0
	for _, s := range walkStores() {
		paths := walkPaths(s.store)
		many += checkWalks(t, s, paths)
		for _, path := range paths {
			print, ok := impl.WalkTo(s.store, s.root, path)
			if text, there := impl.GetText(s.store, print); there != ok || text != textsByPrint(s.store)[print] {
				t.Fatalf("%q leads to %d, %v, and its text is %q, %v", path, print, ok, text, there)
			}
		}
		if print, ok := impl.WalkTo(s.store, s.root, "/"); !ok || print != s.root {
			t.Fatalf("/ leads from %d to %d, %v", s.root, print, ok)
		}
	}
	if many < 250 {
		t.Fatalf("only %d paths lead somewhere", many)
	}
}

// P66
func TestEveryPieceIsARoot(t *testing.T) {
	for _, s := range walkStores() {
		paths := walkPaths(s.store)
		paths = paths[:min(60, len(paths))]
		for _, piece := range s.store {
			checkWalks(t, walkStore{s.store, piece.Print}, paths)
			if print, ok := impl.WalkTo(s.store, piece.Print, "/"); !ok || print != piece.Print {
				t.Fatalf("/ leads from %d to %d, %v", piece.Print, print, ok)
			}
		}
	}
	// These stores have also pieces that are neither files nor folders, and the least and the greatest print.
	for _, store := range someStores() {
		for _, piece := range store {
			checkWalks(t, walkStore{store, piece.Print}, []string{"/", "/a", "/a/a", "", "a"})
		}
	}
}

func TestRootsThatAreNotInTheStore(t *testing.T) {
	for _, s := range walkStores() {
		all := wantedWalks(s.store, s.root)
		roots := append([]int{0, 1, 5, s.root + 1, s.root - 1, -s.root, s.root + 16777213, s.root - 16777213, s.root + 1<<32, impl.MaxPrint}, otherPrints...)
		for _, root := range roots {
			if _, there := textsByPrint(s.store)[root]; there {
				continue
			}
			for path := range all {
				checkWalk(t, walkStore{s.store, root}, path, -1, "", false)
			}
		}
	}
	for _, root := range append([]int{0, 1, 357}, otherPrints...) {
		for _, path := range []string{"/", "/a", "/a/a/a", "", "a"} {
			checkWalk(t, walkStore{nil, root}, path, -1, "", false)
			checkWalk(t, walkStore{[]impl.Piece{}, root}, path, -1, "", false)
		}
	}
}

func TestMissingPieces(t *testing.T) {
	stores := append(walkStores(), walkStoreOf(fullTree()))
	for _, s := range stores {
		all := wantedWalks(s.store, s.root)
		paths := slices.Sorted(maps.Keys(all))
		for i, piece := range s.store {
			left := walkStore{without(s.store, i), s.root}
			still := checkWalks(t, left, paths)
			for path, print := range all {
				if got, ok := impl.WalkTo(left.store, s.root, path); print == piece.Print && (ok || got != -1) {
					t.Fatalf("%q leads to %d, %v without its piece", path, got, ok)
				}
			}
			if piece.Print == s.root && still != 0 {
				t.Fatalf("%d paths lead somewhere without the root", still)
			}
		}
	}
}

func TestMissingNames(t *testing.T) {
	s := walkStoreOf(map[string]string{"/d/d/d": "fhi", "/d/d/f": "d", "/d/f": "f", "/f": "fo", "/m": "d"})
	for _, name := range folderNames {
		for _, path := range []string{"/" + name, "/" + name + "/d", "/" + name + "/d/d", "/d/" + name, "/d/" + name + "/d", "/d/d/" + name, "/d/d/" + name + "/d", "/f/" + name, "/d/f/" + name, "/m/" + name, "/m/" + name + "/" + name} {
			checkWalks(t, s, []string{path})
		}
	}
	for _, path := range []string{"/c", "/e", "/d/c", "/d/e", "/d/g", "/d/d/c", "/d/d/e", "/d/d/g", "/dd", "/d/dd", "/d/d/dd", "/c/d/d", "/d/c/d", "/d/d/d/d", "/f/d", "/d/f/d", "/m/d", "/m/m"} {
		checkWalk(t, s, path, -1, "", false)
	}
}

// A path through a file leads nowhere, also if its content is the text of a folder.
func TestPathsThroughFiles(t *testing.T) {
	inner := wantedFolderText([]impl.Entry{{Name: "a", Print: wantedPrint("fhi")}})
	s := walkStoreOf(map[string]string{"/a": "f" + inner, "/b": inner, "/c/a": "f" + inner}, "fhi")
	for _, path := range []string{"/a/a", "/c/a/a", "/b/a/a", "/a/a/a"} {
		checkWalk(t, s, path, -1, "", false)
	}
	checkWalk(t, s, "/b/a", wantedPrint("fhi"), "fhi", true)
	checkWalk(t, s, "/a", wantedPrint("f"+inner), "f"+inner, true)
	if many := checkWalks(t, s, walkPaths(s.store)); many != 6 {
		t.Fatalf("%d paths lead somewhere", many)
	}
}

func TestWalksInFullStores(t *testing.T) {
	s := walkStoreOf(fullTree())
	if len(s.store) != 40 || !impl.StoreValid(s.store) {
		t.Fatalf("the store has %d pieces", len(s.store))
	}
	if many := checkWalks(t, s, walkPaths(s.store)); many != 40 {
		t.Fatalf("%d paths lead somewhere", many)
	}
	beyond := walkStoreOf(fullTree(), "fhi")
	for path := range wantedWalks(beyond.store, beyond.root) {
		checkWalk(t, beyond, path, -1, "", false)
	}
}

// Folders that lead to themselves have names for all paths, and the walk ends with the last one.
func TestLoops(t *testing.T) {
	s := walkStore{storeOf(loopText), wantedPrint(loopText)}
	for _, parts := range namesOfPaths([]string{"a", "ab", "b"}) {
		checkWalk(t, s, "/"+strings.Join(parts, "/"), 7173272, loopText, true)
	}
	for _, s := range loops() {
		if many := checkWalks(t, s, walkPaths(s.store)); many < 4 {
			t.Fatalf("only %d paths lead somewhere from %d", many, s.root)
		}
	}
}

// P67
func TestFilesHaveContents(t *testing.T) {
	files := 0
	for _, s := range append(walkStores(), walkStoreOf(fullTree())) {
		for _, path := range walkPaths(s.store) {
			content, ok := impl.ReadAt(s.store, s.root, path)
			print, leads := impl.WalkTo(s.store, s.root, path)
			text, _ := impl.GetText(s.store, print)
			if got, file := impl.ReadFile(text); got != content || file != ok || ok && (!leads || text != "f"+content || impl.TextKind(text) != 1) {
				t.Fatalf("%q is read as %q, %v, and leads to %q, %v", path, content, ok, text, leads)
			}
			if ok {
				files++
			}
		}
	}
	if files < 50 {
		t.Fatalf("only %d files", files)
	}
}

func TestContentsAreRead(t *testing.T) {
	for i, content := range someContents() {
		other := walkStoreOf(map[string]string{"/a": "f" + content, "/b/c": "f" + content, "/b/d": content})
		for _, path := range []string{"/a", "/b/c"} {
			if got, ok := impl.ReadAt(other.store, other.root, path); !ok || got != content {
				t.Fatalf("ReadAt of %q is %q, %v, and not %q", path, got, ok, content)
			}
			if names, ok := impl.NamesAt(other.store, other.root, path); ok || len(names) != 0 {
				t.Fatalf("a file with the names %q, %v", names, ok)
			}
		}
		if i%20 == 0 {
			checkWalks(t, other, walkPaths(other.store))
		}
		alone := walkStore{storeOf("f" + content), wantedPrint("f" + content)}
		if got, ok := impl.ReadAt(alone.store, alone.root, "/"); !ok || got != content {
			t.Fatalf("ReadAt of the root is %q, %v, and not %q", got, ok, content)
		}
	}
}

// P68
func TestNamesOfFoldersAreWords(t *testing.T) {
	folders, empty := 0, 0
	for _, s := range append(walkStores(), walkStoreOf(fullTree())) {
		for _, path := range walkPaths(s.store) {
			names, ok := impl.NamesAt(s.store, s.root, path)
			if len(names) > 3 || !slices.IsSorted(names) || len(slices.Compact(slices.Clone(names))) != len(names) {
				t.Fatalf("the names at %q are %q", path, names)
			}
			for _, name := range names {
				if !impl.WordValid(name) {
					t.Fatalf("the names at %q are %q", path, names)
				}
			}
			if _, file := impl.ReadAt(s.store, s.root, path); file && (ok || len(names) != 0) || !ok && len(names) != 0 {
				t.Fatalf("the names at %q, a file: %v, are %q, %v", path, file, names, ok)
			}
			if ok {
				folders++
			}
			if ok && len(names) == 0 {
				empty++
			}
		}
	}
	if folders < 100 || empty < 10 {
		t.Fatalf("only %d folders, and %d without entries", folders, empty)
	}
}

func TestNamesAreRead(t *testing.T) {
	for i, entries := range someFolders() {
		if i%3 != 0 && len(entries) > 1 {
			continue
		}
		text := wantedFolderText(entries)
		s := walkStoreOf(map[string]string{"/x": text, "/y/z": text})
		for _, path := range []string{"/x", "/y/z"} {
			checkWalk(t, s, path, wantedPrint(text), text, true)
			// The names are there, though the store has none of their prints.
			for _, entry := range entries {
				checkWalk(t, s, path+"/"+entry.Name, -1, "", false)
			}
		}
	}
}

func TestTextsThatAreNeitherFilesNorFolders(t *testing.T) {
	for _, text := range []string{
		"", "hi", "F", "D", "Fhi", "da", "da=7", "da=07;", "db=7;a=7;", "da=7;a=7;", "da=7;b=7;c=7;d=7;", "da=fffffd;", "dA=7;", "d ", "d;", " d", "dd", " fhi", "f" + strings.Repeat("x", 41), "f" + strings.Repeat("x", 59), "a=7;", "/", "/a",
	} {
		s := walkStoreOf(map[string]string{"/a": text, "/b/b": text, "/c/a/b": text}, "fhi")
		for _, path := range []string{"/a", "/b/b", "/c/a/b"} {
			checkWalk(t, s, path, wantedPrint(text), text, true)
		}
		checkWalks(t, s, walkPaths(s.store))
		checkWalks(t, walkStore{s.store, wantedPrint(text)}, walkPaths(s.store))
	}
}

func TestPathsThatAreNoPaths(t *testing.T) {
	s := walkStore{storeOf(loopText), wantedPrint(loopText)}
	leads := 0
	for _, path := range pathTexts() {
		parts, valid := wantedParts(path)
		for _, name := range parts {
			valid = valid && (name == "a" || name == "ab" || name == "b")
		}
		checkWalk(t, s, path, s.root, loopText, valid)
		if valid {
			leads++
		}
	}
	if leads < 40 {
		t.Fatalf("only %d texts lead somewhere", leads)
	}
	for _, root := range []walkStore{walkStoreOf(map[string]string{}), walkStoreOf(map[string]string{"": "fhi"})} {
		for _, path := range []string{"", " ", "//", "///", "/ ", " /", "/\n", "\n", "\\", "/.", "/..", "./", "d", "f", "hi", "\x00", "\u2215"} {
			checkWalk(t, root, path, -1, "", false)
		}
	}
}

func TestStoresThatAreNotValid(t *testing.T) {
	for _, store := range otherStores() {
		roots := []int{0, 1, 357, -1}
		for _, piece := range store[:min(4, len(store))] {
			roots = append(roots, piece.Print)
		}
		for _, root := range roots {
			for _, path := range []string{"/", "/a", ""} {
				checkWalk(t, walkStore{store, root}, path, -1, "", false)
			}
		}
	}
	trees := []map[string]string{{"": "d"}, {"/a": "fhi"}, {"/a/b": "fhi", "/c": "d"}, {"/a/a/a": "f", "/b": "hi"}}
	for _, at := range trees {
		s := walkStoreOf(at, "x", "fbeside", "aagjuw")
		paths := slices.Sorted(maps.Keys(wantedWalks(s.store, s.root)))
		for _, store := range wronged(s.store) {
			for _, path := range paths {
				checkWalk(t, walkStore{store, s.root}, path, -1, "", false)
			}
		}
	}
}

func TestStoresOfWalksStay(t *testing.T) {
	for _, s := range walkStores() {
		whole := append(slices.Clone(s.store), impl.Piece{Print: 7, Text: "spare"}, impl.Piece{Print: 8, Text: "spare"})
		before := slices.Clone(whole)
		checkWalks(t, walkStore{whole[:len(s.store)], s.root}, []string{"/", "/a", "/a/b", "/a/a/a", "/q", ""})
		if !slices.Equal(whole, before) {
			t.Fatalf("a walk writes to %v", before)
		}
	}
}

func TestNamesOfFoldersAreNew(t *testing.T) {
	for _, s := range walkStores() {
		names, ok := impl.NamesAt(s.store, s.root, "/")
		want, before := slices.Clone(names), slices.Clone(s.store)
		other, _ := impl.NamesAt(s.store, s.root, "/")
		clear(other[:cap(other)])
		if again, still := impl.NamesAt(s.store, s.root, "/"); still != ok || !slices.Equal(again, want) || !slices.Equal(names, want) || !slices.Equal(s.store, before) {
			t.Fatalf("the names of %d are %q, %v after a result was written to", s.root, again, still)
		}
	}
}
