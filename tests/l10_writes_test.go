package tests

import (
	"maps"
	"slices"
	"strconv"
	"strings"
	"testing"

	"loop.example/proofarchive/impl"
)

// changed is what a function of the chapter returns.
type changed struct {
	store []impl.Piece
	root  int
	ok    bool
}

func (c changed) equal(other changed) bool {
	return c.root == other.root && c.ok == other.ok && slices.Equal(c.store, other.store)
}

// write writes a file, and checks that nothing is written to the store that is given, nor to the memory behind it.
func write(t *testing.T, s walkStore, path, content string) changed {
	t.Helper()
	return changeOf(t, s, func(store []impl.Piece) (c changed) {
		c.store, c.root, c.ok = impl.WriteAt(store, s.root, path, content)
		return c
	})
}

// drop takes away what a path leads to, and checks the same.
func drop(t *testing.T, s walkStore, path string) changed {
	t.Helper()
	return changeOf(t, s, func(store []impl.Piece) (c changed) {
		c.store, c.root, c.ok = impl.DropAt(store, s.root, path)
		return c
	})
}

func changeOf(t *testing.T, s walkStore, change func([]impl.Piece) changed) changed {
	t.Helper()
	whole := append(slices.Clone(s.store), impl.Piece{Print: 7, Text: "spare"}, impl.Piece{Print: 8, Text: "spare"})
	before := slices.Clone(whole)
	c := change(whole[:len(s.store)])
	if !slices.Equal(whole, before) {
		t.Fatalf("a change from %d on writes to %v", s.root, before)
	}
	return c
}

// stays is what is returned when a change is not possible, and refused when an argument is not valid.
func stays(s walkStore) changed {
	return changed{s.store, s.root, false}
}

var refused = changed{nil, -1, false}

func folderWith(prints map[string]int, name, text string) (string, bool) {
	with := maps.Clone(prints)
	with[name] = wantedPrint(text)
	return wantedFolderText(folderOf(with)), len(with) <= 3
}

// textsOfWrite returns the texts that a write puts, those of the folders and then that of the file, and whether the way is free. A print that is missing in its folder is -1.
func textsOfWrite(texts map[int]string, print int, parts []string, content string) ([]string, bool) {
	if len(parts) == 0 {
		_, file := wantedFile(texts[print])
		return []string{"f" + content}, file || print == -1
	}
	entries, folder := wantedRead(texts[print])
	if !folder && print != -1 {
		return nil, false
	}
	prints := mapOf(entries)
	below, there := prints[parts[0]]
	if !there {
		below = -1
	}
	put, free := textsOfWrite(texts, below, parts[1:], content)
	if !free {
		return nil, false
	}
	text, room := folderWith(prints, parts[0], put[0])
	return append([]string{text}, put...), room
}

// textsOfDrop returns the texts that a drop puts, none for what is gone, and whether the path leads somewhere.
func textsOfDrop(texts map[int]string, print int, parts []string) ([]string, bool) {
	text, there := texts[print]
	if len(parts) == 0 || !there {
		return nil, there
	}
	entries, _ := wantedRead(text)
	prints := mapOf(entries)
	below, named := prints[parts[0]]
	if !named {
		return nil, false
	}
	put, leads := textsOfDrop(texts, below, parts[1:])
	if !leads {
		return nil, false
	}
	if len(put) > 0 {
		text, _ := folderWith(prints, parts[0], put[0])
		return append([]string{text}, put...), true
	}
	left, _ := wantedDrop(entries, parts[0])
	if len(left) == 0 {
		return nil, true
	}
	return []string{wantedFolderText(left)}, true
}

// withTexts returns a valid store with texts put, the new root's first, as far as this is possible.
func withTexts(s walkStore, texts []string) changed {
	store, ok := s.store, true
	for _, text := range texts {
		if store, ok = wantedPut(store, text); !ok {
			return stays(s)
		}
	}
	return changed{store, wantedPrint(texts[0]), true}
}

// wantedWrite returns what WriteAt returns for a valid store and a valid content, in another way than the program does: from the root on, with maps.
func wantedWrite(s walkStore, path, content string) changed {
	parts, ok := wantedParts(path)
	if !ok || len(parts) == 0 {
		return refused
	}
	texts := textsByPrint(s.store)
	if _, there := texts[s.root]; !there {
		return stays(s)
	}
	put, free := textsOfWrite(texts, s.root, parts, content)
	if !free {
		return stays(s)
	}
	return withTexts(s, put)
}

// wantedDropAt returns what DropAt returns for a valid store, in another way than the program does.
func wantedDropAt(s walkStore, path string) changed {
	parts, ok := wantedParts(path)
	if !ok || len(parts) == 0 {
		return refused
	}
	put, leads := textsOfDrop(textsByPrint(s.store), s.root, parts)
	if !leads {
		return stays(s)
	}
	if len(put) == 0 {
		put = []string{"d"}
	}
	return withTexts(s, put)
}

// checkWrite compares WriteAt with what is wanted.
func checkWrite(t *testing.T, s walkStore, path, content string) changed {
	t.Helper()
	got, want := write(t, s, path, content), wantedWrite(s, path, content)
	if !got.equal(want) || len(got.store) > 0 && !impl.StoreValid(got.store) {
		t.Fatalf("WriteAt(%v, %d, %q, %q) is %v, not %v", s.store, s.root, path, content, got, want)
	}
	return got
}

// checkDrop compares DropAt with what is wanted.
func checkDrop(t *testing.T, s walkStore, path string) changed {
	t.Helper()
	got, want := drop(t, s, path), wantedDropAt(s, path)
	if !got.equal(want) || len(got.store) > 0 && !impl.StoreValid(got.store) {
		t.Fatalf("DropAt(%v, %d, %q) is %v, not %v", s.store, s.root, path, got, want)
	}
	return got
}

// checkStays checks that neither a write nor a drop is possible.
func checkStays(t *testing.T, s walkStore, path, content string) {
	t.Helper()
	if got := checkWrite(t, s, path, content); !got.equal(stays(s)) {
		t.Fatalf("WriteAt(%v, %d, %q, %q) is %v", s.store, s.root, path, content, got)
	}
	if got := checkDrop(t, s, path); !got.equal(stays(s)) {
		t.Fatalf("DropAt(%v, %d, %q) is %v", s.store, s.root, path, got)
	}
}

// changeStores returns stores with roots: walkStores, a full one, roots with missing prints, and folders with MaxEntries names.
func changeStores() []walkStore {
	full := storeOf("da=1;b=2;c=3;", "da=1;b=2;x=dd3ad;", "dx=dd3ad;", "df=167;", "f")
	list := append(walkStores(), walkStoreOf(fullTree()))
	for _, text := range []string{"da=1;b=2;c=3;", "da=1;b=2;x=dd3ad;", "dx=dd3ad;", "df=167;"} {
		list = append(list, walkStore{full, wantedPrint(text)})
	}
	return append(list,
		walkStoreOf(map[string]string{"/a": "fone", "/b": "ftwo", "/c": "fthree"}), walkStoreOf(map[string]string{"/a/a": "fone", "/a/b": "ftwo", "/a/c": "fthree", "/b": "f"}),
		walkStoreOf(map[string]string{"/a/b/a": "f1", "/a/b/b": "f2", "/a/b/c": "f3"}), walkStoreOf(map[string]string{"/a/b/a": "d", "/a/b/b": "", "/a/c": "fhi"}),
		walkStoreOf(map[string]string{"/a": "da=1;b=2;c=3;", "/b/b": "da=1;b=2;", "/c": "dq=167;"}))
}

// changePaths returns the paths at which a store is changed: walkPaths, as far as these are not many.
func changePaths(s walkStore) []string {
	paths := walkPaths(s.store)
	for len(paths) > 150 {
		// Every other one is left out among the longest ones alone.
		kept := paths[:70:70]
		for i := 70; i < len(paths); i += 2 {
			kept = append(kept, paths[i])
		}
		paths = kept
	}
	return paths
}

// wholeContents returns the contents of the files of a root by their paths.
func wholeContents(store []impl.Piece, root int) map[string]string {
	texts, files := textsByPrint(store), map[string]string{}
	for path, print := range wantedWalks(store, root) {
		if content, ok := wantedFile(texts[print]); ok {
			files[path] = content
		}
	}
	return files
}

// checkFilesStay checks that a root has all files in a new store that it had in an old one, and that all pieces stay.
func checkFilesStay(t *testing.T, s walkStore, store []impl.Piece) {
	t.Helper()
	for path, content := range wholeContents(s.store, s.root) {
		if got, ok := impl.ReadAt(store, s.root, path); !ok || got != content {
			t.Fatalf("the file %q of the old root %d is %q, %v", path, s.root, got, ok)
		}
	}
	for _, piece := range s.store {
		if text, ok := impl.GetText(store, piece.Print); !ok || text != piece.Text {
			t.Fatalf("%v is %q, %v after a change", piece, text, ok)
		}
	}
}

// sameText returns another valid text with the print of a text, which is neither that of a file nor that of a folder.
func sameText(text string) string {
	print := wantedPrint(text)
	for n := 0; ; n++ {
		begin := "x" + strconv.Itoa(n)
		// What the last two bytes have to be worth together.
		left := (print + 16777213 - 257*257*impl.PrintOf(begin)%16777213) % 16777213
		for b := 32; b <= 126; b++ {
			if last := left - 257*b; last >= 32 && last <= 126 {
				return begin + string([]byte{byte(b), byte(last)})
			}
		}
	}
}

// crowded returns a store with room for so many more pieces.
func crowded(s walkStore, room int) walkStore {
	for n := 0; len(s.store)+room < 40; n++ {
		s.store, _ = wantedPut(s.store, "crowd "+strconv.Itoa(n))
	}
	return s
}

// newTexts returns the texts that a store has and another one has not.
func newTexts(store, old []impl.Piece) []string {
	texts, have := []string{}, textsByPrint(old)
	for _, piece := range store {
		if _, there := have[piece.Print]; !there {
			texts = append(texts, piece.Text)
		}
	}
	return texts
}

func TestSameTexts(t *testing.T) {
	for _, text := range []string{"d", "f", "fhi", "da=7;", "", "aagjux", "aagjuw"} {
		if same := sameText(text); same == text || wantedPrint(same) != wantedPrint(text) || impl.TextKind(same) != 0 || !impl.TextValid(same) {
			t.Fatalf("%q and %q", text, same)
		}
	}
}

func TestKnownWrites(t *testing.T) {
	store, root, ok := impl.EmptyRoot(nil)
	known := []struct {
		path, content, text string
		put                 []string
	}{
		{"/f", "hi", "df=6a383b;", []string{"fhi", "df=6a383b;"}},
		{"/f", "", "df=167;", []string{"f", "df=167;"}},
		{"/a/b", "hi", "da=401d6a;", []string{"fhi", "db=6a383b;", "da=401d6a;"}},
		{"/a/b/c", "hi", "da=df0aa4;", []string{"fhi", "dc=6a383b;", "db=e4112;", "da=df0aa4;"}},
	}
	for _, x := range known {
		got := write(t, walkStore{store, root}, x.path, x.content)
		if want := (changed{storeOf(append(x.put, "d")...), wantedPrint(x.text), true}); !ok || root != 357 || !got.equal(want) {
			t.Fatalf("WriteAt of %q at %q is %v", x.content, x.path, got)
		}
	}
	one := write(t, walkStore{store, root}, "/a/b", "hi")
	two := write(t, walkStore{one.store, one.root}, "/a/c", "x")
	if two.root != 106481 || !two.ok || !slices.Equal(two.store, storeOf("d", "fhi", "db=6a383b;", "da=401d6a;", "fx", "db=6a383b;c=168df;", "da=a7c83f;")) {
		t.Fatalf("two files in a folder: %v", two)
	}
	other := write(t, walkStore{two.store, two.root}, "/a/c", "hi")
	if !other.ok || !slices.Equal(newTexts(other.store, two.store), textsOf(storeOf("db=6a383b;c=6a383b;", wantedFolderText(folderOf(map[string]int{"a": wantedPrint("db=6a383b;c=6a383b;")}))))) {
		t.Fatalf("another content for a file: %v", other)
	}
}

func TestKnownDrops(t *testing.T) {
	store := storeOf("fhi", "db=6a383b;", "da=401d6a;", "fx", "db=6a383b;c=168df;", "da=a7c83f;", "dc=6a383b;", "db=e4112;", "da=df0aa4;")
	known := []struct {
		text, path, left string
		put              []string
	}{
		{"da=a7c83f;", "/a/c", "da=401d6a;", nil},
		{"da=a7c83f;", "/a/b", "da=e02b98;", []string{"dc=168df;", "da=e02b98;"}},
		{"da=a7c83f;", "/a", "d", []string{"d"}},
		{"da=401d6a;", "/a/b", "d", []string{"d"}},
		{"da=401d6a;", "/a", "d", []string{"d"}},
		{"da=df0aa4;", "/a/b/c", "d", []string{"d"}},
		{"da=df0aa4;", "/a/b", "d", []string{"d"}},
		{"db=e4112;", "/b/c", "d", []string{"d"}},
	}
	for _, x := range known {
		got := drop(t, walkStore{store, wantedPrint(x.text)}, x.path)
		if want := (changed{storeOf(append(x.put, textsOf(store)...)...), wantedPrint(x.left), true}); !got.equal(want) {
			t.Fatalf("DropAt of %q from %q is %v, not %v", x.path, x.text, got, want)
		}
	}
}

// P69
func TestEmptyRoots(t *testing.T) {
	possible := 0
	for _, store := range append(someStores(), storeOf("d"), storeOf(append(manyTexts("x", 39), "d")...), storeOf(sameText("d")), storeOf(sameText("d"), "a", "fhi")) {
		want, ok := wantedPut(store, "d")
		before := slices.Clone(store)
		got, root, put := impl.EmptyRoot(store)
		if put != ok || !slices.Equal(got, want) || !slices.Equal(store, before) || ok && root != 357 || !ok && root != -1 {
			t.Fatalf("EmptyRoot(%v) is %v, %d, %v", store, got, root, put)
		}
		if !ok {
			continue
		}
		possible++
		if names, folder := impl.NamesAt(got, root, "/"); !folder || len(names) != 0 || len(wholeContents(got, root)) != 0 {
			t.Fatalf("the names of the empty root are %q, %v", names, folder)
		}
		if again, same, ok := impl.EmptyRoot(got); !ok || same != root || !slices.Equal(again, got) {
			t.Fatalf("EmptyRoot(%v) again is %v, %d, %v", got, again, same, ok)
		}
	}
	if possible < 50 || possible == len(someStores())+4 {
		t.Fatalf("%d empty roots", possible)
	}
	for _, store := range otherStores() {
		if got, root, ok := impl.EmptyRoot(store); ok || root != -1 || len(got) != 0 {
			t.Fatalf("EmptyRoot(%v) is %v, %d, %v", store, got, root, ok)
		}
	}
}

// P10
func TestWrittenFilesCanBeRead(t *testing.T) {
	many := 0
	for _, s := range changeStores() {
		for i, path := range changePaths(s) {
			content := []string{"hi", "", "da=7;", strings.Repeat("x", 40)}[i%4]
			got := checkWrite(t, s, path, content)
			if !got.ok {
				continue
			}
			many++
			if read, ok := impl.ReadAt(got.store, got.root, path); !ok || read != content {
				t.Fatalf("%q was written at %q, and %q, %v is read", content, path, read, ok)
			}
			checkFilesStay(t, s, got.store)
			if again := checkWrite(t, walkStore{got.store, got.root}, path, content); !again.equal(got) {
				t.Fatalf("%q at %q is written again: %v, and it was %v", content, path, again, got)
			}
		}
	}
	if many < 1000 {
		t.Fatalf("only %d writes are possible", many)
	}
}

// P11
func TestDroppedFilesAreGone(t *testing.T) {
	many := 0
	for _, s := range changeStores() {
		for _, path := range changePaths(s) {
			got := checkDrop(t, s, path)
			if !got.ok {
				continue
			}
			many++
			if print, leads := impl.WalkTo(got.store, got.root, path); leads {
				t.Fatalf("%q was dropped, and leads to %d", path, print)
			}
			checkFilesStay(t, s, got.store)
			if again := checkDrop(t, walkStore{got.store, got.root}, path); !again.equal(stays(walkStore{got.store, got.root})) {
				t.Fatalf("%q is dropped again: %v", path, again)
			}
			if _, folder := impl.NamesAt(got.store, got.root, "/"); !folder {
				t.Fatalf("the root without %q is no folder", path)
			}
		}
	}
	if many < 200 {
		t.Fatalf("only %d drops are possible", many)
	}
}

// P12
func TestDroppedFilesCanBeWrittenAgain(t *testing.T) {
	many := 0
	for _, s := range changeStores() {
		for path, content := range wholeContents(s.store, s.root) {
			left := drop(t, s, path)
			again := write(t, walkStore{left.store, left.root}, path, content)
			if !left.ok || !again.ok {
				continue
			}
			many++
			if again.root != s.root || !slices.Equal(again.store, left.store) {
				t.Fatalf("%q at %q was dropped from %d and written again: %v", content, path, s.root, again)
			}
		}
	}
	if many < 60 {
		t.Fatalf("only %d files are dropped and written again", many)
	}
}

// pathPairs returns pairs of paths that are different, among the first ones and some others.
func pathPairs(paths []string) [][2]string {
	var list [][2]string
	for i, first := range paths {
		for j, second := range paths[:i] {
			if i < 24 || (i*31+j)%67 == 0 {
				list = append(list, [2]string{first, second})
			}
		}
	}
	return list
}

// bothOrders writes two files in both orders, and returns what the second writes return; they are not possible if the first ones are not.
func bothOrders(t *testing.T, s walkStore, paths, contents [2]string) [2]changed {
	t.Helper()
	var ends [2]changed
	for i := range ends {
		first := write(t, s, paths[i], contents[i])
		ends[i] = write(t, walkStore{first.store, first.root}, paths[1-i], contents[1-i])
		ends[i].ok = ends[i].ok && first.ok
	}
	return ends
}

// P13
func TestTheOrderOfWritesDoesNotMatter(t *testing.T) {
	many := 0
	for _, s := range changeStores() {
		for i, paths := range pathPairs(changePaths(s)) {
			contents := [][2]string{{"one", "two"}, {"", "hi"}, {"same", "same"}}[i%3]
			ends := bothOrders(t, s, paths, contents)
			if !ends[0].ok || !ends[1].ok {
				continue
			}
			many++
			if ends[0].root != ends[1].root {
				t.Fatalf("%q written at %q from %d: %v", contents, paths, s.root, ends)
			}
		}
	}
	if many < 2000 {
		t.Fatalf("only %d pairs of writes are possible in both orders", many)
	}
}

// fileSets returns sets of files below a folder, with texts for paths: each of the names is missing, that of a file, or that of a folder of less depth with files.
func fileSets(names []string, depth int) []map[string]string {
	sets := []map[string]string{{}}
	for _, name := range names {
		var next []map[string]string
		for _, set := range sets {
			for _, below := range setsAt("/"+name, names, depth) {
				with := maps.Clone(set)
				maps.Copy(with, below)
				next = append(next, with)
			}
		}
		sets = next
	}
	return sets
}

func setsAt(path string, names []string, depth int) []map[string]string {
	list := []map[string]string{{}, {path: "f" + path}}
	if depth == 1 {
		return list
	}
	for _, set := range fileSets(names, depth-1) {
		below := map[string]string{}
		for rest := range set {
			below[path+rest] = "f" + path + rest
		}
		if len(below) > 0 {
			list = append(list, below)
		}
	}
	return list
}

// withFile returns a set of files with one more, in place of the one that it had, and whether that is possible.
func withFile(set map[string]string, path, text string) (map[string]string, bool) {
	with := maps.Clone(set)
	with[path] = text
	names := map[string]map[string]bool{}
	for one := range with {
		if one != path && (strings.HasPrefix(one, path+"/") || strings.HasPrefix(path, one+"/")) {
			return set, false
		}
		for above := one; above != ""; {
			i := strings.LastIndex(above, "/")
			name := above[i:]
			above = above[:i]
			if names[above] == nil {
				names[above] = map[string]bool{}
			}
			if names[above][name] = true; len(names[above]) > 3 {
				return set, false
			}
		}
	}
	return with, true
}

// withoutPath returns a set of files without those at a path and below it.
func withoutPath(set map[string]string, path string) map[string]string {
	left := map[string]string{}
	for one, text := range set {
		if one != path && !strings.HasPrefix(one, path+"/") {
			left[one] = text
		}
	}
	return left
}

func allPaths(names ...string) []string {
	var paths []string
	for _, parts := range namesOfPaths(names)[1:] {
		paths = append(paths, "/"+strings.Join(parts, "/"))
	}
	return paths
}

// smallSets returns sets of files at paths of two names, and at paths of three names of which there are many more.
func smallSets() []map[string]string {
	var list []map[string]string
	for i, set := range fileSets([]string{"a", "b"}, 3) {
		if i < 60 || i%9 == 0 {
			list = append(list, set)
		}
	}
	for i, set := range fileSets([]string{"a", "b", "c"}, 2) {
		if i%15 == 0 || i == 728 {
			list = append(list, set)
		}
	}
	return list
}

// Writes and drops from sets of files lead to the root of the set with the file, or without it, and put the texts of that set alone.
func TestChangesOfSetsOfFiles(t *testing.T) {
	written, dropped := 0, 0
	for _, set := range smallSets() {
		s := walkStoreOf(set)
		for _, path := range allPaths("a", "b", "d") {
			if with, ok := withFile(set, path, "fnew"); ok {
				written++
				want := walkStoreOf(with, textsOf(s.store)...)
				if got := write(t, s, path, "new"); !got.equal(changed{want.store, want.root, true}) {
					t.Fatalf("a file at %q in %v: %v, not %v", path, set, got, want)
				}
			} else if got := write(t, s, path, "new"); !got.equal(stays(s)) {
				t.Fatalf("a file at %q in %v: %v", path, set, got)
			}
			if left := withoutPath(set, path); len(left) < len(set) {
				dropped++
				want := walkStoreOf(left, textsOf(s.store)...)
				if got := drop(t, s, path); !got.equal(changed{want.store, want.root, true}) {
					t.Fatalf("%v without %q: %v, not %v", set, path, got, want)
				}
			} else if got := drop(t, s, path); !got.equal(stays(s)) {
				t.Fatalf("%v without %q: %v", set, path, got)
			}
		}
	}
	if written < 2000 || dropped < 800 {
		t.Fatalf("only %d writes and %d drops", written, dropped)
	}
}

// P12: every file of a set can be dropped and written again, also if its folders are gone between.
func TestFilesOfSetsAreDroppedAndWrittenAgain(t *testing.T) {
	for _, set := range smallSets() {
		s := walkStoreOf(set)
		for path, text := range set {
			left := drop(t, s, path)
			again := write(t, walkStore{left.store, left.root}, path, text[1:])
			if !left.ok || !again.ok || again.root != s.root || left.root == s.root {
				t.Fatalf("%q was dropped from %v and written again: %v, %v", path, set, left, again)
			}
			for above := path[:strings.LastIndex(path, "/")]; above != ""; above = above[:strings.LastIndex(above, "/")] {
				// Folders above it stay only if there are other files below them.
				rest := len(withoutPath(set, path)) - len(withoutPath(set, above))
				if _, leads := impl.WalkTo(left.store, left.root, above); leads != (rest > 0) {
					t.Fatalf("%v without %q has the folder %q: %v", set, path, above, leads)
				}
			}
		}
	}
}

// P13: the root is that of the set with both files, and both orders are possible if one is.
func TestFilesAreWrittenToSetsInBothOrders(t *testing.T) {
	many, not := 0, 0
	for i, set := range smallSets() {
		s := walkStoreOf(set)
		for j, paths := range pathPairs(allPaths("a", "b", "d")) {
			if (i+j)%11 != 0 {
				continue
			}
			with, ok := withFile(set, paths[0], "fone")
			if ok {
				with, ok = withFile(with, paths[1], "ftwo")
			}
			ends := bothOrders(t, s, paths, [2]string{"one", "two"})
			if ends[0].ok != ok || ends[1].ok != ok {
				t.Fatalf("files at %q in %v: %v", paths, set, ends)
			}
			if !ok {
				not++
				continue
			}
			many++
			if want := walkStoreOf(with).root; ends[0].root != want || ends[1].root != want {
				t.Fatalf("files at %q in %v: %v, and the root is %d", paths, set, ends, want)
			}
		}
	}
	if many < 1500 || not < 500 {
		t.Fatalf("%d pairs of writes are possible, and %d are not", many, not)
	}
}

// Files and folders that are made from the empty root on, one after the other, and taken away again in the same order, in the other one, and in another one.
func TestFilesAreWrittenAndDroppedFromTheEmptyRootOn(t *testing.T) {
	paths := []string{"/a/a/a", "/b/a", "/a/b", "/a/a/c", "/c"}
	for turn := range 25 {
		store, root, _ := impl.EmptyRoot(nil)
		s, set := walkStore{store, root}, map[string]string{}
		for i := range paths {
			path := paths[(i*(turn%4+1)+turn)%5]
			got := checkWrite(t, s, path, "at "+path)
			set[path] = "fat " + path
			s = walkStore{got.store, got.root}
			if got.root != walkStoreOf(set).root || !got.ok {
				t.Fatalf("the files %v: %v", set, got)
			}
		}
		for i := range paths {
			path := paths[(i*(turn%3+2)+turn/5)%5]
			got := checkDrop(t, s, path)
			delete(set, path)
			s = walkStore{got.store, got.root}
			if got.root != walkStoreOf(set).root || !got.ok {
				t.Fatalf("the files %v: %v", set, got)
			}
		}
		if s.root != root {
			t.Fatalf("the root without files is %d", s.root)
		}
	}
}

func TestFoldersThatAreEmptyThen(t *testing.T) {
	known := []struct {
		set        map[string]string
		path, left string
	}{
		{map[string]string{"/a/b/c": "fhi"}, "/a/b/c", ""}, {map[string]string{"/a/b/c": "fhi"}, "/a/b", ""}, {map[string]string{"/a/b/c": "fhi"}, "/a", ""}, {map[string]string{"/a": "fhi"}, "/a", ""}, {map[string]string{"/a": "d"}, "/a", ""},
		{map[string]string{"/a/b/c": "fhi", "/b": "fx"}, "/a/b/c", "/b"}, {map[string]string{"/a/b/c": "fhi", "/a/c": "fx"}, "/a/b/c", "/a/c"}, {map[string]string{"/a/b/c": "fhi", "/a/b/d": "fx"}, "/a/b/c", "/a/b/d"},
		{map[string]string{"/a/b/c": "d", "/a/c": "fx"}, "/a/b/c", "/a/c"}, {map[string]string{"/a/b/c": "hi", "/c": "d"}, "/a/b/c", "/c"},
		// Folders that have been empty before, and are not on the way, stay.
		{map[string]string{"/a/b/c": "fhi", "/a/c": "d"}, "/a/b/c", "/a/c"}, {map[string]string{"/a/b": "fhi", "/b": "d"}, "/a/b", "/b"}, {map[string]string{"/a/b": "d", "/b": "d"}, "/a/b", "/b"},
	}
	for _, x := range known {
		want := walkStoreOf(map[string]string{})
		if x.left != "" {
			want = walkStoreOf(map[string]string{x.left: x.set[x.left]})
		}
		for _, s := range []walkStore{walkStoreOf(x.set), walkStoreOf(x.set, "d", "a", "fbeside")} {
			if got := checkDrop(t, s, x.path); !got.ok || got.root != want.root {
				t.Fatalf("%v without %q is %v, not %d", x.set, x.path, got, want.root)
			}
		}
	}
}

func TestWritesInPlaceOfOthers(t *testing.T) {
	set := map[string]string{"/f": "fold", "/e": "d", "/d/f": "fold", "/d/e": "d", "/d/x": "hi"}
	s := walkStoreOf(set)
	for _, path := range []string{"/f", "/d/f"} {
		want, _ := withFile(set, path, "fnew")
		if got := checkWrite(t, s, path, "new"); !got.ok || got.root != walkStoreOf(want).root {
			t.Fatalf("a file in place of %q: %v", path, got)
		}
		if got := checkWrite(t, s, path, "old"); !got.equal(changed{s.store, s.root, true}) {
			t.Fatalf("the same file at %q: %v", path, got)
		}
	}
	// In place of folders, with entries or without, and of texts that are neither.
	for _, path := range []string{"/e", "/d", "/d/e", "/d/x"} {
		if got := checkWrite(t, s, path, "new"); !got.equal(stays(s)) {
			t.Fatalf("a file in place of %q: %v", path, got)
		}
	}
	// Through files and texts that are neither.
	for _, path := range []string{"/f/a", "/f/a/a", "/f/old", "/d/f/a", "/d/x/a", "/d/f/f", "/d/x/x"} {
		checkStays(t, s, path, "new")
	}
	// Folders that have been empty are folders.
	for _, path := range []string{"/e/a", "/e/a/b", "/d/e/a"} {
		want := maps.Clone(set)
		delete(want, path[:strings.LastIndex(path, "e")+1])
		want[path] = "fnew"
		if got := checkWrite(t, s, path, "new"); !got.ok || got.root != walkStoreOf(want).root {
			t.Fatalf("a file at %q: %v", path, got)
		}
	}
}

// A name with a print that is not in the store is neither missing nor that of a file or folder; but it is that of a file as soon as its text is written elsewhere.
func TestNamesOfMissingPrints(t *testing.T) {
	s := walkStore{storeOf("da=1;b=6a383b;", "f"), wantedPrint("da=1;b=6a383b;")}
	for _, path := range []string{"/a", "/b", "/a/a", "/b/a", "/a/a/a", "/b/b/b"} {
		checkStays(t, s, path, "new")
		checkStays(t, s, path, "hi")
	}
	// Also the folder and the file without anything are none if they are not in the store, or if other texts have their prints.
	empty := walkStore{storeOf("da=165;b=167;"), wantedPrint("da=165;b=167;")}
	others := walkStore{storeOf("da=165;b=167;", sameText("d"), sameText("f")), empty.root}
	for _, path := range []string{"/a", "/b", "/a/a", "/b/a", "/a/a/a"} {
		checkStays(t, empty, path, "")
		if got := checkWrite(t, others, path, ""); !got.equal(stays(others)) {
			t.Fatalf("a file at %q in place of another text: %v", path, got)
		}
		checkDrop(t, others, path)
	}
	got := checkWrite(t, s, "/c", "hi")
	if !got.ok || got.root != wantedPrint("da=1;b=6a383b;c=6a383b;") {
		t.Fatalf("a file beside missing prints: %v", got)
	}
	next := checkWrite(t, walkStore{got.store, got.root}, "/b", "new")
	if !next.ok || next.root != wantedPrint("da=1;b="+strconv.FormatInt(int64(wantedPrint("fnew")), 16)+";c=6a383b;") {
		t.Fatalf("a file in place of one that was missing: %v", next)
	}
	if left := checkDrop(t, walkStore{got.store, got.root}, "/b"); !left.ok || left.root != wantedPrint("da=1;c=6a383b;") {
		t.Fatalf("without a file that was missing: %v", left)
	}
	// A folder that still has the name of a missing print is not empty.
	below := walkStoreOf(map[string]string{"/f": "da=167;b=5;"}, "f")
	want := walkStoreOf(map[string]string{"/f": "db=5;"})
	if left := checkDrop(t, below, "/f/a"); !left.ok || left.root != want.root {
		t.Fatalf("a folder with a missing print: %v", left)
	}
}

func TestFoldersHaveAtMostMaxEntries(t *testing.T) {
	for _, above := range []string{"", "/x", "/x/y"} {
		for many := range 4 {
			set := map[string]string{"/z/z": "fbeside"}
			if above == "" {
				delete(set, "/z/z")
			}
			for _, name := range []string{"b", "d", "f"}[:many] {
				set[above+"/"+name] = "f" + name
			}
			s := walkStoreOf(set)
			for _, name := range []string{"a", "b", "c", "d", "e", "f", "g"} {
				path := above + "/" + name
				_, there := set[path]
				if got := checkWrite(t, s, path, "new"); got.ok != (many < 3 || there) {
					t.Fatalf("a file at %q in a folder with %d entries: %v", path, many, got)
				}
				if got := checkWrite(t, s, path+"/a", "new"); above != "/x/y" && got.ok != (many < 3 && !there) {
					t.Fatalf("a file at %q in a folder with %d entries: %v", path+"/a", many, got)
				}
			}
		}
	}
}

// A write puts the text of the file and one of each folder on the way, and no others; without room for one of them nothing is put.
func TestChangesWithLittleRoom(t *testing.T) {
	sets := []map[string]string{{}, {"/x": "fhi"}, {"/a": "d", "/x": "fx"}, {"/a/x": "fx"}, {"/a/b/x": "fx"}, {"/a/b/c": "fx", "/b": "fb"}, {"/a/b/c": "fnew", "/a/b/d": "fnew", "/a/c": "fc", "/b": "fb"}, {"/a/b/c": "fx", "/a/c": "d", "/b": "f"}}
	full := 0
	for _, set := range sets {
		for _, path := range []string{"/b", "/a/c", "/a/b/c", "/q/q/q"} {
			s := walkStoreOf(set)
			put, dropped := write(t, s, path, "new"), drop(t, s, path)
			texts, left := newTexts(put.store, s.store), newTexts(dropped.store, s.store)
			if len(texts) > strings.Count(path, "/")+1 || len(left) > strings.Count(path, "/") {
				t.Fatalf("a change at %q of %v puts %q and %q", path, set, texts, left)
			}
			for room := range 6 {
				with := crowded(s, room)
				if got := checkWrite(t, with, path, "new"); got.ok != (put.ok && len(texts) <= room) {
					t.Fatalf("a write at %q of %v with room for %d more: %v", path, set, room, got)
				}
				if got := checkDrop(t, with, path); got.ok != (dropped.ok && len(left) <= room) {
					t.Fatalf("a drop at %q of %v with room for %d more: %v", path, set, room, got)
				}
				// What is in the store already needs no room.
				for _, have := range [][]string{texts, left} {
					there := crowded(walkStore{withTexts(s, append(have, "d")).store, s.root}, room)
					if got := checkWrite(t, there, path, "new"); got.ok && len(got.store) == 40 {
						full++
					}
					if got := checkDrop(t, there, path); got.ok && len(got.store) == 40 {
						full++
					}
				}
			}
		}
	}
	if full < 50 {
		t.Fatalf("only %d changes lead to full stores", full)
	}
}

// If another text has the print of one that a change puts, nothing is put.
func TestChangesWithOtherTextsOfTheSamePrint(t *testing.T) {
	sets := []map[string]string{{}, {"/x": "fhi"}, {"/a/x": "fx"}, {"/a/b/c": "fhi"}, {"/a/b/c": "fx", "/b": "fb"}, {"/a/b/c": "fhi", "/a/b/d": "f", "/a/c": "fc", "/b": "fb"}}
	many := 0
	for _, set := range sets {
		for _, path := range []string{"/b", "/a/c", "/a/b/c"} {
			s := walkStoreOf(set)
			for _, text := range newTexts(write(t, s, path, "new").store, s.store) {
				many++
				with := walkStoreOf(set, sameText(text), "fbeside")
				if got := checkWrite(t, with, path, "new"); !got.equal(stays(with)) {
					t.Fatalf("a write at %q of %v with another text of the print of %q: %v", path, set, text, got)
				}
			}
			for _, text := range newTexts(drop(t, s, path).store, s.store) {
				many++
				with := walkStoreOf(set, sameText(text), "fbeside")
				if got := checkDrop(t, with, path); !got.equal(stays(with)) {
					t.Fatalf("a drop at %q of %v with another text of the print of %q: %v", path, set, text, got)
				}
			}
		}
	}
	if many < 50 {
		t.Fatalf("only %d texts are put", many)
	}
	// Contents whose files have the same print.
	for _, two := range samePrints {
		if len(two[0]) == len(two[1]) && len(two[0]) <= 40 {
			s := walkStoreOf(map[string]string{"/a": "f" + two[0]})
			checkStays(t, s, "/b", two[1])
			if got := checkWrite(t, s, "/b", two[0]); !got.ok {
				t.Fatalf("%q twice: %v", two[0], got)
			}
		}
	}
}

func TestRootsThatAreNoFolders(t *testing.T) {
	s := walkStoreOf(map[string]string{"/a/a": "fhi", "/b": "f", "/c": "hi"}, "da=07;", "", "fda=7;", "aagjux", "aagjuw", "F", "D")
	for _, piece := range s.store {
		with := walkStore{s.store, piece.Print}
		folder := impl.TextKind(piece.Text) == 2
		for _, path := range []string{"/a", "/d", "/a/a", "/a/d", "/d/a", "/a/a/a", "/d/a/a"} {
			got := checkWrite(t, with, path, "new")
			checkDrop(t, with, path)
			if !folder {
				checkStays(t, with, path, "new")
			} else if path == "/d/a/a" && s.root != piece.Print && !got.ok {
				t.Fatalf("WriteAt(%v, %d, %q) is %v", s.store, piece.Print, path, got)
			}
		}
	}
	// 357 is the print of the folder without entries.
	roots := append([]int{0, 1, 5, 357, s.root + 1, s.root - 1, -s.root, s.root + 16777213, s.root - 16777213, s.root + 1<<32, impl.MaxPrint}, otherPrints...)
	for _, root := range roots {
		for _, store := range [][]impl.Piece{nil, {}, storeOf("d"), storeOf("fhi", "d", "df=6a383b;"), storeOf(sameText("d")), walkStoreOf(fullTree()).store} {
			if text, there := textsByPrint(store)[root]; !there || text == sameText("d") {
				checkStays(t, walkStore{store, root}, "/a", "hi")
				checkStays(t, walkStore{store, root}, "/f/a/a", "")
			}
		}
	}
}

func TestChangesAtPathsThatAreNoPaths(t *testing.T) {
	s := walkStoreOf(map[string]string{"/a/a": "fhi", "/b": "f"})
	for _, root := range []int{s.root, wantedPrint("fhi"), 5, -1} {
		for _, path := range []string{"/", "", "a", "//", "//a", "/a/", "/a//a", "/a/a/", "/A", "/a/B", "/1", "/a/a/a/a", "/a/b/c/d", "/b/", "/abcdefghi", "/a\n", "/\xff", " /b", "/b ", "/.", "/..", "b", "\\b", "/a=7;"} {
			with := walkStore{s.store, root}
			if got := write(t, with, path, "hi"); !got.equal(refused) {
				t.Fatalf("WriteAt(%v, %d, %q) is %v", s.store, root, path, got)
			}
			if got := drop(t, with, path); !got.equal(refused) {
				t.Fatalf("DropAt(%v, %d, %q) is %v", s.store, root, path, got)
			}
		}
	}
	valid := 0
	for i, path := range pathTexts() {
		parts, ok := wantedParts(path)
		if ok && len(parts) > 0 {
			valid++
		}
		if !ok || len(parts) == 0 || i%23 == 0 {
			checkWrite(t, s, path, "hi")
			checkDrop(t, s, path)
		}
	}
	if valid < 1000 {
		t.Fatalf("only %d paths", valid)
	}
}

func TestContentsThatAreNotValidAreNotWritten(t *testing.T) {
	s := walkStoreOf(map[string]string{"/a/a": "fhi", "/b": "f"})
	stores := []walkStore{s, {s.store, wantedPrint("fhi")}, {s.store, 5}, crowded(s, 0)}
	for i, content := range otherContents() {
		for j, with := range stores {
			path := []string{"/b", "/a/b", "/q/q/q", "/a", "/"}[(i+j)%5]
			if got := write(t, with, path, content); !got.equal(refused) {
				t.Fatalf("WriteAt of %q at %q is %v", content, path, got)
			}
		}
	}
	for _, content := range someContents() {
		got := write(t, s, "/a/b", content)
		want, _ := withFile(map[string]string{"/a/a": "fhi", "/b": "f"}, "/a/b", "f"+content)
		if read, ok := impl.ReadAt(got.store, got.root, "/a/b"); !ok || read != content || !got.ok || got.root != walkStoreOf(want).root {
			t.Fatalf("%q was written: %v", content, got)
		}
	}
}

func TestStoresThatAreNotValidAreNotChanged(t *testing.T) {
	stores := otherStores()
	for _, set := range []map[string]string{{}, {"/a": "fhi"}, {"/a/a": "fhi", "/b": "f"}} {
		stores = append(stores, wronged(walkStoreOf(set).store)...)
	}
	stores = append(stores, walkStoreOf(fullTree(), "fhi").store)
	for _, store := range stores {
		roots := []int{357, -1, walkStoreOf(map[string]string{"/a": "fhi"}).root, walkStoreOf(map[string]string{"/a/a": "fhi", "/b": "f"}).root, walkStoreOf(fullTree()).root}
		for _, root := range roots {
			for _, path := range []string{"/a", "/b", "/a/a", "/a/a/a", "/", ""} {
				if got := write(t, walkStore{store, root}, path, "hi"); !got.equal(refused) {
					t.Fatalf("WriteAt(%v, %d, %q) is %v", store, root, path, got)
				}
				if got := drop(t, walkStore{store, root}, path); !got.equal(refused) {
					t.Fatalf("DropAt(%v, %d, %q) is %v", store, root, path, got)
				}
			}
		}
	}
}

// Folders that lead to themselves can be changed: the ones on the way become others, and what was there stays.
func TestChangesOfLoops(t *testing.T) {
	s := walkStore{storeOf("da=2e5911;"), 3037457}
	inner := "da=2e5911;b=6a383b;"
	outer := wantedFolderText([]impl.Entry{{Name: "a", Print: wantedPrint(inner)}})
	if got := checkWrite(t, s, "/a/b", "hi"); !got.equal(changed{storeOf("da=2e5911;", "fhi", inner, outer), wantedPrint(outer), true}) {
		t.Fatalf("a file in a folder that leads to itself: %v", got)
	}
	for _, path := range []string{"/a", "/a/a", "/a/a/a"} {
		if got := checkDrop(t, s, path); !got.equal(changed{storeOf("da=2e5911;", "d"), 357, true}) {
			t.Fatalf("a folder that leads to itself without %q: %v", path, got)
		}
		if got := checkWrite(t, s, path, "hi"); !got.equal(stays(s)) {
			t.Fatalf("a file in place of the folder %q: %v", path, got)
		}
	}
}

func TestResultsOfChangesAreNew(t *testing.T) {
	for _, s := range changeStores() {
		for _, path := range []string{"/a", "/b", "/a/b", "/f/x", "/q/q/q"} {
			for _, change := range []func([]impl.Piece) ([]impl.Piece, int, bool){
				impl.EmptyRoot,
				func(store []impl.Piece) ([]impl.Piece, int, bool) { return impl.WriteAt(store, s.root, path, "hi") },
				func(store []impl.Piece) ([]impl.Piece, int, bool) { return impl.DropAt(store, s.root, path) },
			} {
				given := append(slices.Clone(s.store), impl.Piece{Text: "spare"})
				first, _, _ := change(given[:len(s.store)])
				want := slices.Clone(first)
				second, _, _ := change(given[:len(s.store)])
				clear(second[:cap(second)])
				if !slices.Equal(first, want) || !slices.Equal(given[:len(s.store)], s.store) || given[len(s.store)].Text != "spare" {
					t.Fatalf("a result of a change at %q from %d on shares memory", path, s.root)
				}
				clear(given)
				if !slices.Equal(first, want) {
					t.Fatalf("a result of a change at %q from %d on shares memory with its argument", path, s.root)
				}
			}
		}
	}
}
