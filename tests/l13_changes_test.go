package tests

import (
	"maps"
	"math"
	"slices"
	"strings"
	"sync"
	"testing"

	"loop.example/proofarchive/impl"
)

// files are texts, or contents, by their paths.
type files = map[string]string

// twoRoots is a store with two roots.
type twoRoots struct {
	store []impl.Piece
	a, b  int
}

// changesOf returns the changes of a text with spaces between them: + before the path of FileNew, * of FileOther, - of FileGone.
func changesOf(text string) []impl.Change {
	var list []impl.Change
	for _, word := range strings.Fields(text) {
		list = append(list, impl.Change{Path: word[1:], Kind: strings.Index("+*-", word[:1])})
	}
	return list
}

// wantedChanges returns what happened between two sets of files, in another way than the program does: with maps.
func wantedChanges(first, second files) []impl.Change {
	var list []impl.Change
	for _, path := range inOrder(first) {
		if _, there := second[path]; !there {
			list = append(list, impl.Change{Path: path, Kind: 2})
		}
	}
	for _, path := range inOrder(second) {
		if old, there := first[path]; !there {
			list = append(list, impl.Change{Path: path, Kind: 0})
		} else if old != second[path] {
			list = append(list, impl.Change{Path: path, Kind: 1})
		}
	}
	return list
}

// turnedChanges returns changes in the other direction.
func turnedChanges(list []impl.Change) []impl.Change {
	var gone []impl.Change
	others := files{}
	kinds := map[string]int{}
	for _, change := range list {
		if change.Kind == 0 {
			gone = append(gone, impl.Change{Path: change.Path, Kind: 2})
			continue
		}
		others[change.Path] = ""
		kinds[change.Path] = map[int]int{1: 1, 2: 0}[change.Kind]
	}
	for _, path := range inOrder(others) {
		gone = append(gone, impl.Change{Path: path, Kind: kinds[path]})
	}
	return gone
}

// checkChanges compares the changes between two roots with those that there should be, in both directions.
func checkChanges(t *testing.T, r twoRoots, want []impl.Change) {
	t.Helper()
	if got := impl.ChangesOf(r.store, r.a, r.b); !slices.Equal(got, want) {
		t.Fatalf("ChangesOf(%v, %d, %d) is %v, not %v", r.store, r.a, r.b, got, want)
	}
	if got := impl.ChangesOf(r.store, r.b, r.a); !slices.Equal(got, turnedChanges(want)) {
		t.Fatalf("ChangesOf(%v, %d, %d) is %v, not %v", r.store, r.b, r.a, got, turnedChanges(want))
	}
}

// contentIn returns the content of the file to which a path leads from a root, in another way than the program does.
func contentIn(texts map[int]string, root int, path string) (string, bool) {
	parts, ok := wantedParts(path)
	for _, name := range parts {
		entries, _ := wantedRead(texts[root])
		below, there := mapOf(entries)[name]
		if !there {
			return "", false
		}
		root = below
	}
	content, file := wantedFile(texts[root])
	return content, ok && file
}

// textsOfChange returns the texts that a change puts, the new root's first, and whether nothing but missing room can be in its way.
func textsOfChange(texts map[int]string, root int, change impl.Change, other int) ([]string, bool) {
	parts, ok := wantedParts(change.Path)
	if _, there := texts[root]; !there || !ok || len(parts) == 0 {
		return nil, false
	}
	if change.Kind == 2 {
		put, leads := textsOfDrop(texts, root, parts)
		if leads && len(put) == 0 {
			put = []string{"d"}
		}
		return put, leads
	}
	content, file := contentIn(texts, other, change.Path)
	if !file || change.Kind != 0 && change.Kind != 1 {
		return nil, false
	}
	return textsOfWrite(texts, root, parts, content)
}

// wantedCarry returns what CarryChanges returns for a valid store, in another way than the program does: with a map of texts.
func wantedCarry(s walkStore, list []impl.Change, other int) changed {
	if len(list) > 30 {
		return refused
	}
	return wantedAll(s, list, other)
}

// wantedAll returns what carrying any number of changes leads to.
func wantedAll(s walkStore, list []impl.Change, other int) changed {
	texts, root := textsByPrint(s.store), s.root
	for _, change := range list {
		put, ok := textsOfChange(texts, root, change, other)
		for _, text := range put {
			print := printOrNone(text)
			if old, there := texts[print]; there && old != text {
				ok = false
			}
			texts[print] = text
		}
		if !ok || len(texts) > 40 {
			return stays(s)
		}
		root = printOrNone(put[0])
	}
	return changed{storeOf(slices.Collect(maps.Values(texts))...), root, true}
}

// carry carries changes, and checks that nothing is written to the store and the changes that are given, nor to the memory behind them.
func carry(t *testing.T, s walkStore, list []impl.Change, other int) changed {
	t.Helper()
	whole := append(slices.Clone(list), impl.Change{Path: "spare", Kind: 7}, impl.Change{Path: "/a", Kind: 2})
	before := slices.Clone(whole)
	c := changeOf(t, s, func(store []impl.Piece) (c changed) {
		c.store, c.root, c.ok = impl.CarryChanges(store, s.root, whole[:len(list)], other)
		return c
	})
	if !slices.Equal(whole, before) {
		t.Fatalf("carrying %v writes to them: %v", before, whole)
	}
	return c
}

// checkCarry compares carried changes with what is wanted, and checks that the last one is there.
func checkCarry(t *testing.T, s walkStore, list []impl.Change, other int) changed {
	t.Helper()
	got, want := carry(t, s, list, other), wantedCarry(s, list, other)
	if !got.equal(want) || len(got.store) > 0 && !impl.StoreValid(got.store) {
		t.Fatalf("CarryChanges(%v, %d, %v, %d) is %v, not %v", s.store, s.root, list, other, got, want)
	}
	if got.ok {
		checkLast(t, got, list, other)
	}
	return got
}

// checkLast checks that the file of the last one of changes that were carried is there, or gone.
func checkLast(t *testing.T, got changed, list []impl.Change, other int) {
	t.Helper()
	if len(list) == 0 {
		return
	}
	last := list[len(list)-1]
	content, file := impl.ReadAt(got.store, got.root, last.Path)
	want, there := "", false
	if last.Kind != impl.FileGone {
		want, there = impl.ReadAt(got.store, other, last.Path)
	}
	if content != want || file != there || file == (last.Kind == impl.FileGone) {
		t.Fatalf("after %v there is %q, %v in %v, not %q, %v", list, content, file, got, want, there)
	}
}

// checkCarried checks that changes lead to a root, and that all pieces and the files of a root stay.
func checkCarried(t *testing.T, s walkStore, list []impl.Change, other, root int) {
	t.Helper()
	got := checkCarry(t, s, list, other)
	if !got.ok || got.root != root {
		t.Fatalf("CarryChanges(%v, %d, %v, %d) is %v, not %d", s.store, s.root, list, other, got, root)
	}
	checkFilesStay(t, s, got.store)
}

// checkNotCarried checks that changes are not possible.
func checkNotCarried(t *testing.T, s walkStore, list []impl.Change, other int) {
	t.Helper()
	if got := checkCarry(t, s, list, other); !got.equal(stays(s)) {
		t.Fatalf("CarryChanges(%v, %d, %v, %d) is %v", s.store, s.root, list, other, got)
	}
}

// rootPairs returns stores with two roots: all pieces of changeStores and numbers that are not in them, and pairs of sets of files. No test writes to them, so they are made once.
var rootPairs = sync.OnceValue(func() []twoRoots {
	var list []twoRoots
	alike := walkStoreOf(files{"/a/a": "fhi", "/a/b": "f", "/b/a": "fhi", "/b/b": "d", "/b/c": "f", "/c/a": "fho", "/c/b": "hi"})
	for _, s := range append(changeStores(), alike) {
		roots := []int{-1, 5, 357, s.root + 16777213, -s.root}
		for _, piece := range s.store {
			roots = append(roots, piece.Print)
		}
		for i, a := range roots {
			for _, b := range roots[:i+1] {
				list = append(list, twoRoots{s.store, a, b})
			}
		}
	}
	for _, sets := range setPairs() {
		store, a, b := bothSets(sets[0], sets[1])
		list = append(list, twoRoots{store, a, b})
	}
	return list
})

// setPairs returns pairs of sets of files whose texts all fit into one store: other ones, and ones with one file more, one less, and one that is another one. They are made once, too.
var setPairs = sync.OnceValue(func() [][2]files {
	sets := smallSets()
	var list [][2]files
	for i, set := range sets {
		for _, step := range []int{1, 7, 20, 45, 90} {
			list = append(list, [2]files{set, sets[(i+step)%len(sets)]})
		}
		paths := inOrder(set)
		for j, path := range paths {
			if (i+j)%3 == 0 {
				other := maps.Clone(set)
				other[path] = "f" + strings.Repeat("z", j)
				list = append(list, [2]files{set, other}, [2]files{withoutPath(set, path), other})
			}
		}
		if i%10 == 0 {
			list = append(list, [2]files{set, set}, [2]files{set, {}}, [2]files{{}, set})
		}
	}
	return slices.DeleteFunc(list, func(sets [2]files) bool {
		store, _, _ := bothSets(sets[0], sets[1])
		return len(store) > 40
	})
})

func TestTheKindsOfChanges(t *testing.T) {
	if impl.FileNew != 0 || impl.FileOther != 1 || impl.FileGone != 2 {
		t.Fatal(impl.FileNew, impl.FileOther, impl.FileGone)
	}
}

func TestKnownChanges(t *testing.T) {
	some := files{"/a": "f1", "/b/x": "f2", "/b/y": "f3", "/c": "f4"}
	known := []struct {
		a, b    files
		changes string
	}{
		{files{}, files{}, ""},
		{some, some, ""},
		{files{}, some, "+/a +/b/x +/b/y +/c"},
		{some, files{}, "-/a -/b/x -/b/y -/c"},
		{files{"/a": "f1"}, files{"/a": "f2"}, "*/a"},
		{files{"/a": "f1"}, files{"/b": "f1"}, "-/a +/b"},
		{files{"/b": "f1"}, files{"/a": "f1"}, "-/b +/a"},
		{files{"/a": "f1", "/b": "f2"}, files{"/a": "f2", "/b": "f1"}, "*/a */b"},
		{files{"/a": "f1", "/b": "f2"}, files{"/a": "f1", "/b": "f1"}, "*/b"},
		// A content is another one also if it is empty, a beginning of the other one, or as long; and an empty file is one.
		{files{"/a": "f"}, files{}, "-/a"},
		{files{}, files{"/a": "f"}, "+/a"},
		{files{"/a": "f"}, files{"/a": "f1"}, "*/a"},
		{files{"/a": "f1"}, files{"/a": "f"}, "*/a"},
		{files{"/a": "fhi"}, files{"/a": "fhi "}, "*/a"},
		{files{"/a": "fhi"}, files{"/a": "fho"}, "*/a"},
		{files{"/a": "f"}, files{"/a": "f"}, ""},
		// A folder in the place of a file, and a file in the place of a folder.
		{files{"/a": "f1"}, files{"/a/y": "f1"}, "-/a +/a/y"},
		{files{"/a": "f1"}, files{"/a/a/a": "f1", "/a/b": "f1"}, "-/a +/a/a/a +/a/b"},
		{files{"/a/y": "f1", "/a/z": "f2"}, files{"/a": "f1"}, "-/a/y -/a/z +/a"},
		{files{"/b/a": "f1", "/c": "f"}, files{"/b/a/c": "f1", "/c": "f"}, "-/b/a +/b/a/c"},
		{files{"/a": "f1", "/b/b": "f2"}, files{"/a/a": "f1", "/b": "f2"}, "-/a -/b/b +/a/a +/b"},
		// First what is gone, in the order of the first root, and then all others in that of the second one.
		{files{"/a": "f1", "/b": "f2", "/z": "f3"}, files{"/a": "f2", "/aa": "f1", "/y": "f"}, "-/b -/z */a +/aa +/y"},
		{files{"/x/b": "f1", "/x/c": "f2", "/y": "f3"}, files{"/b": "f", "/x/a": "f1", "/x/c": "f3"}, "-/x/b -/y +/b +/x/a */x/c"},
		{some, files{"/a": "f9", "/b/x": "f2", "/b/z": "f3", "/d/d/d": "f4"}, "-/b/y -/c */a +/b/z +/d/d/d"},
		// A name that is the beginning of another one.
		{files{"/a/z": "f1", "/a0": "f2", "/aa/a": "f3"}, files{"/a/z": "f2", "/aa/a": "f1", "/aa/b": "f"}, "-/a0 */a/z */aa/a +/aa/b"},
		{files{"/a": "f1", "/aa": "f2"}, files{"/a/a": "f1", "/a0": "f2"}, "-/a -/aa +/a/a +/a0"},
		{files{"/a/b/c": "f1", "/a0/z": "f1"}, files{"/a/b0": "f1", "/a0/z": "f1"}, "-/a/b/c +/a/b0"},
		// Folders without files and texts that are neither folders nor files are nothing.
		{files{"/a": "d", "/b": "f1"}, files{"/b": "f1"}, ""},
		{files{"/a": "hi"}, files{"/a": "fhi"}, "+/a"},
		{files{"/a": "fhi"}, files{"/a": "hi"}, "-/a"},
		{files{"/a": "d"}, files{"/a": "f"}, "+/a"},
		{files{"/a": "d"}, files{"/a/b": "f"}, "+/a/b"},
		{files{"/a": "dx=1;"}, files{}, ""},
		{files{"/a": "f1", "/b": "dx=1;"}, files{"/a": "f1", "/b/c/d/e": "fdeep"}, ""},
		// The print of a file as a root, and of a text that is neither.
		{files{"": "fhi"}, files{"/a": "fhi"}, "+/a"},
		{files{"/a": "fhi"}, files{"": "fhi"}, "-/a"},
		{files{"": "fhi"}, files{"": "fho"}, ""},
		{files{"": "fhi"}, files{}, ""},
		{files{"": "hi"}, some, "+/a +/b/x +/b/y +/c"},
	}
	for _, x := range known {
		for _, more := range [][]string{nil, {"d", "fbeside", "dbeside=1;", "a"}} {
			store, a, b := bothSets(x.a, x.b, more...)
			checkChanges(t, twoRoots{store, a, b}, changesOf(x.changes))
			if got := wantedChanges(wantedFiles(walkStore{store, a}), wantedFiles(walkStore{store, b})); !slices.Equal(got, changesOf(x.changes)) {
				t.Fatalf("the other way finds %v between %v and %v", got, x.a, x.b)
			}
		}
	}
}

func TestChangesOfAllPairsOfRoots(t *testing.T) {
	kinds := map[int]int{}
	for _, r := range rootPairs() {
		want := wantedChanges(wantedFiles(walkStore{r.store, r.a}), wantedFiles(walkStore{r.store, r.b}))
		checkChanges(t, r, want)
		for _, change := range want {
			kinds[change.Kind]++
		}
	}
	if min(kinds[0], kinds[1], kinds[2]) < 300 {
		t.Fatalf("only so many changes: %v", kinds)
	}
}

// P73
func TestTheSameIsTheSameInBothDirections(t *testing.T) {
	same, not := 0, 0
	for _, r := range rootPairs() {
		checkSame(t, r.store, r.a, r.a, true)
		checkSame(t, r.store, r.b, r.b, true)
		if many := len(impl.ChangesOf(r.store, r.a, r.a)) + len(impl.ChangesOf(r.store, r.b, r.b)); many != 0 {
			t.Fatalf("%d changes between %d or %d of %v and itself", many, r.a, r.b, r.store)
		}
		nothing := len(impl.ChangesOf(r.store, r.a, r.b)) == 0
		checkSame(t, r.store, r.a, r.b, nothing)
		if !nothing {
			not++
		} else if r.a != r.b {
			same++
		}
	}
	if same < 500 || not < 1000 {
		t.Fatalf("%d pairs of roots are the same, and %d are not", same, not)
	}
}

// P77
func TestChangesCanBeTurned(t *testing.T) {
	many := 0
	for _, r := range rootPairs() {
		list, turned := impl.ChangesOf(r.store, r.a, r.b), impl.ChangesOf(r.store, r.b, r.a)
		if len(list) != len(turned) || !slices.Equal(turned, turnedChanges(list)) || !slices.Equal(list, turnedChanges(turned)) {
			t.Fatalf("between %d and %d of %v there are %v, and turned %v", r.a, r.b, r.store, list, turned)
		}
		for _, change := range list {
			back := impl.Change{Path: change.Path, Kind: []int{impl.FileGone, impl.FileOther, impl.FileNew}[change.Kind]}
			if !slices.Contains(turned, back) {
				t.Fatalf("%v of %v is not turned in %v", change, list, turned)
			}
			many++
		}
	}
	if many < 2000 {
		t.Fatalf("only %d changes", many)
	}
}

// P79
func TestEveryChangeHasOneKind(t *testing.T) {
	kinds := [3]int{}
	for _, r := range rootPairs() {
		list := impl.ChangesOf(r.store, r.a, r.b)
		together := 0
		for kind := range kinds {
			many := impl.CountKind(list, kind)
			together += many
			kinds[kind] += many
		}
		if together != len(list) {
			t.Fatalf("%d of the changes %v have kinds", together, list)
		}
	}
	if min(kinds[0], kinds[1], kinds[2]) < 300 {
		t.Fatalf("only so many changes: %v", kinds)
	}
}

func TestCountKind(t *testing.T) {
	numbers := []int{0, 1, 2, 3, 4, 7, -1, -2, 255, 256, 257, 258, 65536, 1 << 32, 1<<32 + 1, 1<<32 + 2, math.MaxInt, math.MinInt, math.MinInt + 1, math.MinInt + 2}
	for _, kind := range numbers {
		for _, none := range [][]impl.Change{nil, {}} {
			if got := impl.CountKind(none, kind); got != 0 {
				t.Fatalf("%d of no changes are of the kind %d", got, kind)
			}
		}
	}
	known := []struct {
		text string
		many [3]int
	}{
		{"+/a", [3]int{1, 0, 0}}, {"*/a", [3]int{0, 1, 0}}, {"-/a", [3]int{0, 0, 1}}, {"+/a +/a +/a", [3]int{3, 0, 0}}, {"-/a */b +/c */d -/e -/f", [3]int{1, 2, 3}}, {"-/ +a */A -", [3]int{1, 1, 2}},
		{strings.Repeat("+/a -/b ", 30), [3]int{30, 0, 30}}, {strings.Repeat("*/a ", 1000), [3]int{0, 1000, 0}},
	}
	for _, x := range known {
		for _, kind := range numbers {
			want := 0
			if kind >= 0 && kind < 3 {
				want = x.many[kind]
			}
			if got := impl.CountKind(changesOf(x.text), kind); got != want {
				t.Fatalf("%d of %q are of the kind %d, not %d", got, x.text, kind, want)
			}
		}
	}
	// Changes of other kinds are counted, too, also those of paths that are none.
	var list []impl.Change
	for i, kind := range numbers {
		list = append(list, slices.Repeat([]impl.Change{{Path: "/A", Kind: kind}}, i)...)
	}
	for i, kind := range numbers {
		if got := impl.CountKind(list, kind); got != i {
			t.Fatalf("%d of %v are of the kind %d, not %d", got, list, kind, i)
		}
	}
	if got := impl.CountKind(list, 5); got != 0 {
		t.Fatalf("%d of %v are of the kind 5", got, list)
	}
}

func TestChangesOfRootsThatAreNotInTheStore(t *testing.T) {
	for _, s := range changeStores() {
		roots := append([]int{0, 1, 5, 357, 359, s.root + 1, s.root - 1, -s.root, -s.root - 1, s.root + 16777213, s.root - 16777213, s.root + 1<<32, impl.MaxPrint}, otherPrints...)
		for i, root := range roots {
			if _, there := textsByPrint(s.store)[root]; there {
				continue
			}
			checkChanges(t, twoRoots{s.store, root, s.root}, wantedChanges(nil, wantedFiles(s)))
			checkChanges(t, twoRoots{s.store, root, root}, nil)
			if other := roots[len(roots)-1-i%8]; root != other {
				checkChanges(t, twoRoots{s.store, root, other}, nil)
			}
		}
	}
	for _, root := range append([]int{0, 1, 357}, otherPrints...) {
		checkChanges(t, twoRoots{nil, root, 357}, nil)
		checkChanges(t, twoRoots{[]impl.Piece{}, root, root}, nil)
	}
}

func TestChangesWithMissingPieces(t *testing.T) {
	fewer, more := 0, 0
	for i, sets := range setPairs() {
		if i%40 != 0 {
			continue
		}
		store, a, b := bothSets(sets[0], sets[1])
		whole := wantedChanges(contentsOf(sets[0]), contentsOf(sets[1]))
		checkChanges(t, twoRoots{store, a, b}, whole)
		for _, left := range manyLeft(store) {
			want := wantedChanges(wantedFiles(walkStore{left, a}), wantedFiles(walkStore{left, b}))
			checkChanges(t, twoRoots{left, a, b}, want)
			if len(want) < len(whole) {
				fewer++
			} else if !slices.Equal(want, whole) {
				more++
			}
		}
	}
	if fewer < 100 || more < 20 {
		t.Fatalf("with missing pieces there are fewer changes %d times, and others %d times", fewer, more)
	}
}

// Another text with the print of one that is missing is no file and no folder.
func TestChangesWithOtherTextsInPlaceOfMissingOnes(t *testing.T) {
	a, b := files{"/a": "f1", "/b/x": "f2", "/b/y": "f3"}, files{"/a": "f2", "/b/x": "f3", "/c": "f4"}
	store, first, second := bothSets(a, b)
	for i, piece := range store {
		other := storeOf(append(textsOf(without(store, i)), sameText(piece.Text))...)
		checkChanges(t, twoRoots{other, first, second}, wantedChanges(wantedFiles(walkStore{other, first}), wantedFiles(walkStore{other, second})))
	}
}

func TestChangesOfFoldersThatLeadToThemselves(t *testing.T) {
	s := walkStore{storeOf("da=581e14;x=6a383b;", "fhi", "d", "df=6a383b;", "da=7c1c87;x=6a383b;"), 5774868}
	checkChanges(t, twoRoots{s.store, 357, s.root}, changesOf("+/a/a/x +/a/x +/x"))
	checkChanges(t, twoRoots{s.store, wantedPrint("df=6a383b;"), s.root}, changesOf("-/f +/a/a/x +/a/x +/x"))
	checkChanges(t, twoRoots{s.store, s.root, s.root}, nil)
	for _, s := range loops() {
		for _, piece := range s.store {
			want := wantedChanges(wantedFiles(s), wantedFiles(walkStore{s.store, piece.Print}))
			checkChanges(t, twoRoots{s.store, s.root, piece.Print}, want)
		}
	}
}

// manyFiles returns files at all paths of three of some names, all with the same content.
func manyFiles(text string, names ...string) files {
	at := files{}
	for _, path := range allPaths(names...) {
		if strings.Count(path, "/") == 3 {
			at[path] = text
		}
	}
	return at
}

// Two roots can have more changes than can be carried.
func TestMoreChangesThanCanBeCarried(t *testing.T) {
	a, b := manyFiles("fone", "a", "b", "c"), manyFiles("fone", "a", "b", "d")
	c, d := manyFiles("ftwo", "a", "b", "c"), manyFiles("fone", "x", "y", "z")
	for i, x := range []struct {
		other files
		many  [3]int
	}{{a, [3]int{0, 0, 0}}, {b, [3]int{19, 0, 19}}, {c, [3]int{0, 27, 0}}, {d, [3]int{27, 0, 27}}} {
		store, first, second := bothSets(a, x.other)
		list := impl.ChangesOf(store, first, second)
		checkChanges(t, twoRoots{store, first, second}, wantedChanges(contentsOf(a), contentsOf(x.other)))
		for kind, many := range x.many {
			if got := impl.CountKind(list, kind); got != many {
				t.Fatalf("%d changes of the kind %d, not %d", got, kind, many)
			}
		}
		if got := checkCarry(t, walkStore{store, first}, list, second); i%2 == 1 && !got.equal(refused) {
			t.Fatalf("%d changes are carried: %v", len(list), got)
		}
	}
}

// P17: sets of files, which are the roots that writes and drops lead to.
func TestChangesLeadFromOneRootToTheOtherOne(t *testing.T) {
	many, not := 0, 0
	for _, sets := range setPairs() {
		store, a, b := bothSets(sets[0], sets[1])
		for _, r := range []twoRoots{{store, a, b}, {store, b, a}} {
			got := checkCarry(t, walkStore{store, r.a}, impl.ChangesOf(store, r.a, r.b), r.b)
			if !got.ok {
				not++
				continue
			}
			many++
			if got.root != r.b {
				t.Fatalf("from %d of %v to %d: %v", r.a, sets, r.b, got)
			}
			checkFilesStay(t, walkStore{store, r.a}, got.store)
			checkFilesStay(t, walkStore{store, r.b}, got.store)
		}
	}
	if many < 1000 || not > many/4 {
		t.Fatalf("%d roots are reached, and %d are not", many, not)
	}
}

// history writes and drops files from the empty root on, as a number tells, and returns the store and all roots on the way.
func history(t *testing.T, seed int) ([]impl.Piece, []int) {
	t.Helper()
	store, root, _ := impl.EmptyRoot(nil)
	roots, paths := []int{root}, allPaths("a", "b", "c")
	for step := 0; step < 60 && len(store) < 24; step++ {
		seed = (seed*1103515245 + 12345) % (1 << 31)
		path, s := paths[seed>>8%39], walkStore{store, root}
		got := changed{}
		if seed>>16%3 == 0 {
			got = drop(t, s, path)
		} else {
			got = write(t, s, path, []string{"", "one", "two"}[seed>>20%3])
		}
		store, root = got.store, got.root
		if !slices.Contains(roots, root) {
			roots = append(roots, root)
		}
	}
	return store, roots
}

// P17: all pairs of roots that were made from the empty one by writes and drops.
func TestChangesLeadFromEveryRootToEveryOther(t *testing.T) {
	many, not := 0, 0
	for seed := range 40 {
		store, roots := history(t, seed*7919)
		for _, a := range roots {
			for _, b := range roots {
				list := impl.ChangesOf(store, a, b)
				got := carry(t, walkStore{store, a}, list, b)
				if !got.ok {
					not++
					continue
				}
				many++
				if got.root != b || !impl.SameFiles(got.store, got.root, b) {
					t.Fatalf("%v from %d of %v to %d: %v", list, a, store, b, got)
				}
				checkLast(t, got, list, b)
			}
		}
	}
	if many < 1500 || not > many/4 {
		t.Fatalf("%d roots are reached, and %d are not", many, not)
	}
}

// P17: known ways, among them files that become folders and folders that become files.
func TestKnownChangesAreCarried(t *testing.T) {
	known := []struct{ a, b files }{
		{files{}, files{}},
		{files{}, files{"/a": "f"}},
		{files{}, files{"/a/b/c": "f1", "/b/x": "f2", "/c": "f3"}},
		{files{"/a": "f1"}, files{"/a/y": "f1"}},
		{files{"/a": "f1"}, files{"/a/a/a": "f1", "/a/b": "f1"}},
		{files{"/a/y": "f1", "/a/z": "f2"}, files{"/a": "f1", "/b": "f"}},
		{files{"/b/a": "f1", "/c": "f"}, files{"/b/a/c": "f1", "/c": "f"}},
		{files{"/a": "f1", "/b/b": "f2"}, files{"/a/a": "f1", "/b": "f2"}},
		{files{"/a": "f1", "/b": "f2"}, files{"/a": "f2", "/b": "f1"}},
		{files{"/a": "f1", "/b": "f2", "/c": "f3"}, files{"/d": "f1", "/e": "f2", "/f": "f3"}},
		{files{"/x/a": "f1", "/x/b": "f2", "/x/c": "f3", "/y": "f", "/z": "f"}, files{"/x/a": "f1", "/x/b": "f9", "/x/d": "f3", "/w": "f", "/z/z": "f"}},
		{files{"/a/b/c": "f1"}, files{"/a/b/d": "f1"}},
		{files{"/a/b/c": "f1", "/a/b/d": "f2"}, files{"/a/b": "f3"}},
		{files{"/a/b": "f1", "/a/c": "f2", "/b": "f"}, files{"/b": "f"}},
	}
	for _, x := range known {
		for _, more := range [][]string{nil, {"d"}, {"d", "fbeside", "dbeside=1;", "a"}} {
			store, a, b := bothSets(x.a, x.b, more...)
			checkCarried(t, walkStore{store, a}, impl.ChangesOf(store, a, b), b, b)
			checkCarried(t, walkStore{store, b}, impl.ChangesOf(store, b, a), a, a)
			checkCarried(t, walkStore{store, a}, impl.ChangesOf(store, a, 5), 5, 357)
		}
	}
}

// carryPaths returns some of the paths at which a store is changed, all those of two roots' files, and the ones above and below them.
func carryPaths(store []impl.Piece, a, b int) []string {
	paths := []string{"", "/", "a", "/a/", "/A", "/a/b/c/d", "/q", "/q/q"}
	for _, root := range []int{a, b} {
		for path := range wantedWalks(store, root) {
			paths = append(paths, path, strings.TrimSuffix(path, "/")+"/a")
		}
	}
	slices.Sort(paths)
	return slices.Compact(paths)
}

// P78: every single change, between pieces of stores and roots that are not there.
func TestCarriedChangesAreThere(t *testing.T) {
	many, not := map[int]int{}, 0
	for i, r := range rootPairs() {
		if i%5 != 0 && i < 4000 {
			continue
		}
		for _, path := range carryPaths(r.store, r.a, r.b) {
			for kind := range 3 {
				s, list := walkStore{r.store, r.a}, []impl.Change{{Path: path, Kind: kind}}
				got := carry(t, s, list, r.b)
				if !got.ok && !got.equal(stays(s)) {
					t.Fatalf("CarryChanges(%v, %d, %v, %d) is %v", r.store, r.a, list, r.b, got)
				}
				if !got.ok {
					not++
					continue
				}
				many[kind]++
				checkLast(t, got, list, r.b)
			}
		}
	}
	if min(many[0], many[1], many[2]) < 300 || not < 3000 {
		t.Fatalf("so many changes are possible: %v, and %d are not", many, not)
	}
}

// P78: pairs of changes, of which the second one may be possible only after the first one.
func TestPairsOfChanges(t *testing.T) {
	only, twice := 0, 0
	for i, sets := range setPairs() {
		if i%10 != 0 {
			continue
		}
		store, a, b := bothSets(sets[0], sets[1])
		s, paths := walkStore{store, a}, carryPaths(store, a, b)
		for turn := i; turn < i+9*len(paths)*len(paths); turn += 11 {
			one := impl.Change{Path: paths[turn/9%len(paths)], Kind: turn % 3}
			two := impl.Change{Path: paths[turn/9/len(paths)%len(paths)], Kind: turn / 3 % 3}
			got := checkCarry(t, s, []impl.Change{one, two}, b)
			if got.ok && !wantedCarry(s, []impl.Change{two}, b).ok {
				only++
			}
			if got.ok && one.Path == two.Path {
				twice++
			}
		}
	}
	if only < 20 || twice < 10 {
		t.Fatalf("%d changes are possible only after others, and %d twice", only, twice)
	}
}

// P78: without changes the root is as it was, whatever it is.
func TestWithoutChangesNothingChanges(t *testing.T) {
	for _, s := range changeStores() {
		roots := append([]int{s.root, 0, 1, 5, 357, -s.root, s.root + 16777213, s.root + 1<<32, impl.MaxPrint}, otherPrints...)
		for _, piece := range s.store {
			roots = append(roots, piece.Print)
		}
		for i, root := range roots {
			with := walkStore{s.store, root}
			for _, none := range [][]impl.Change{nil, {}} {
				if got := checkCarry(t, with, none, roots[len(roots)-1-i]); !got.equal(changed{s.store, root, true}) {
					t.Fatalf("without changes of %d in %v: %v", root, s.store, got)
				}
			}
		}
	}
	for _, root := range append([]int{0, 1, 357}, otherPrints...) {
		if got := carry(t, walkStore{nil, root}, nil, -1); !got.equal(changed{nil, root, true}) {
			t.Fatalf("without changes of %d in the store without pieces: %v", root, got)
		}
	}
}

// exampleRoots returns a store with two roots, between which many changes are possible and many are not.
func exampleRoots(more ...string) twoRoots {
	store, a, b := bothSets(files{"/a": "f1", "/b/x": "f2", "/b/y": "f3", "/c/c/c": "f4"}, files{"/a/y": "f1", "/b/x": "f3", "/c": "f5"}, more...)
	return twoRoots{store, a, b}
}

func TestChangesThatCannotBeCarried(t *testing.T) {
	r := exampleRoots()
	s := walkStore{r.store, r.a}
	wrong := []string{
		// No paths, and /.
		"+", "*", "-", "+/", "*/", "-/", "+a", "*a", "-a", "+/a/", "-/a/", "*//", "-//a", "-/A", "+/B/x", "*/b//x", "-/b/x/", "-/b/x/y/z", "+/abcdefghi", "-b/x",
		// What leads nowhere is not dropped; what the other root does not have as a file is not written.
		"-/q", "-/b/q", "-/b/x/y", "-/q/q/q", "-/a/y", "-/c/d", "-/c/c/c/c", "+/q", "*/q", "+/a", "*/a", "+/b", "*/b", "+/b/y", "*/b/y", "+/c/c/c", "*/c/c/c", "+/b/x/x",
		// A file on the way, and a folder in the place.
		"+/a/y", "*/a/y", "+/c", "*/c",
		// The same path twice, what is above a dropped one, and the wrong order.
		"-/a -/a", "-/b/x -/b/x", "-/b -/b/x", "-/c/c -/c/c/c", "-/c/c/c -/c", "-/c/c/c -/c/c", "-/b/x -/b/y -/b", "-/a +/a", "+/b/x +/b/y", "+/a/y -/a", "+/c -/c/c/c", "-/a +/a/y +/a", "-/a +/a/y -/a/y -/a", "-/c +/c -/c -/c",
	}
	possible := "-/a +/b/x */a/y"
	for _, text := range wrong {
		checkNotCarried(t, s, changesOf(text), r.b)
		checkNotCarried(t, s, changesOf(text+" "+possible), r.b)
		checkNotCarried(t, s, changesOf("+/b/x "+text), r.b)
		checkNotCarried(t, s, changesOf("-/b/y "+text), r.b)
	}
	right := []string{
		possible, "-/a +/a/y", "-/a */a/y", "+/b/x", "*/b/x", "-/b/x +/b/x", "-/b/x */b/x", "*/b/x */b/x", "+/b/x +/b/x -/b/x", "-/c/c/c +/c", "-/a -/b/y -/c/c/c +/a/y */b/x +/c", "+/b/x -/b/y -/c/c/c -/a +/c +/a/y",
		// A folder is dropped with all that is in it, and written again with the other root's file alone.
		"-/b", "-/c/c", "-/c", "-/c +/c", "-/b +/b/x", "-/b -/a -/c", "-/b -/a -/c +/c -/c */c",
	}
	for _, text := range right {
		if got := checkCarry(t, s, changesOf(text), r.b); !got.ok {
			t.Fatalf("%q is not carried: %v", text, got)
		}
	}
}

func TestCarriedChangesLeadToKnownRoots(t *testing.T) {
	r := exampleRoots()
	known := []struct {
		changes string
		set     files
	}{
		{"-/a", files{"/b/x": "f2", "/b/y": "f3", "/c/c/c": "f4"}},
		{"-/c/c/c", files{"/a": "f1", "/b/x": "f2", "/b/y": "f3"}},
		{"-/b", files{"/a": "f1", "/c/c/c": "f4"}},
		{"*/b/x", files{"/a": "f1", "/b/x": "f3", "/b/y": "f3", "/c/c/c": "f4"}},
		{"+/b/x", files{"/a": "f1", "/b/x": "f3", "/b/y": "f3", "/c/c/c": "f4"}},
		{"-/a */a/y", files{"/a/y": "f1", "/b/x": "f2", "/b/y": "f3", "/c/c/c": "f4"}},
		{"-/c +/c", files{"/a": "f1", "/b/x": "f2", "/b/y": "f3", "/c": "f5"}},
		{"-/a -/b -/c", files{}},
		{"-/a -/b -/c +/a/y", files{"/a/y": "f1"}},
		{"-/b +/b/x", files{"/a": "f1", "/b/x": "f3", "/c/c/c": "f4"}},
	}
	for _, x := range known {
		checkCarried(t, walkStore{r.store, r.a}, changesOf(x.changes), r.b, walkStoreOf(x.set).root)
	}
}

// The other root's files are those in the store as it is after the changes before, in which that root, or a folder below it, may be for the first time.
func TestContentsAreReadInTheStoreAsItIsThen(t *testing.T) {
	s := walkStoreOf(files{"/a": "f1", "/b": "f2", "/c/a": "f3", "/c/b": "f4"})
	without := walkStoreOf(files{"/b": "f2", "/c/a": "f3", "/c/b": "f4"}).root
	for _, kind := range []string{"+", "*"} {
		checkNotCarried(t, s, changesOf(kind+"/b"), without)
		checkNotCarried(t, s, changesOf(kind+"/c/b"), without)
		checkCarried(t, s, changesOf("-/a "+kind+"/b"), without, without)
		checkCarried(t, s, changesOf("-/a "+kind+"/b "+kind+"/c/a -/b "+kind+"/b"), without, without)
		checkNotCarried(t, s, changesOf(kind+"/b -/a"), without)
		checkNotCarried(t, s, changesOf("-/a "+kind+"/a"), without)
		checkNotCarried(t, s, changesOf("-/b "+kind+"/b"), without)
	}
	// The other root is in the store, but its folder is not, before the first change.
	folder := "da=" + hexOf("f3") + ";"
	other := "dc=" + hexOf(folder) + ";d=" + hexOf("f1") + ";"
	with := walkStoreOf(files{"/a": "f1", "/b": "f2", "/c/a": "f3", "/c/b": "f4"}, other)
	for _, kind := range []string{"+", "*"} {
		checkNotCarried(t, with, changesOf(kind+"/c/a"), wantedPrint(other))
		checkNotCarried(t, with, changesOf("-/a "+kind+"/c/a"), wantedPrint(other))
		checkNotCarried(t, with, changesOf(kind+"/c/a -/c/b"), wantedPrint(other))
		want := walkStoreOf(files{"/a": "f1", "/b": "f2", "/c/a": "f3"}).root
		checkCarried(t, with, changesOf("-/c/b "+kind+"/c/a"), wantedPrint(other), want)
		checkCarried(t, with, changesOf("-/b "+kind+"/d -/c/b "+kind+"/c/a"), wantedPrint(other), walkStoreOf(files{"/a": "f1", "/c/a": "f3", "/d": "f1"}).root)
	}
	// The files are still those of the other root, and not of the one to which the changes lead.
	checkNotCarried(t, s, changesOf("-/a +/b"), 5)
	checkNotCarried(t, s, changesOf("-/a +/b"), -1)
}

func TestThirtyAndMoreChanges(t *testing.T) {
	r := exampleRoots()
	s := walkStore{r.store, r.a}
	want := walkStoreOf(files{"/a": "f1", "/b/x": "f3", "/b/y": "f3", "/c/c/c": "f4"}).root
	back := walkStoreOf(files{"/b/x": "f3", "/b/y": "f3", "/c/c/c": "f4"}).root
	for many := 1; many <= 30; many++ {
		checkCarried(t, s, changesOf(strings.Repeat("*/b/x ", many)), r.b, want)
		checkNotCarried(t, s, changesOf(strings.Repeat("*/b/x ", many-1)+"-/q"), r.b)
		checkNotCarried(t, s, changesOf("-/q"+strings.Repeat(" */b/x", many-1)), r.b)
	}
	checkCarried(t, s, changesOf(strings.Repeat("*/b/x ", 29)+"-/a"), r.b, back)
	checkCarried(t, s, changesOf(strings.Repeat("-/b/x +/b/x ", 15)), r.b, want)
	for _, many := range []int{31, 32, 33, 40, 60, 62, 255, 256, 257, 286, 287, 65536, 65537, 65566} {
		for _, text := range []string{"*/b/x", "-/q", "-/a", "+"} {
			list := slices.Repeat(changesOf(text), many)
			for _, root := range []int{r.a, 357, 5, -1, wantedPrint("f1")} {
				if got := carry(t, walkStore{r.store, root}, list, r.b); !got.equal(refused) {
					t.Fatalf("%d times %q of %d: %v", many, text, root, got)
				}
			}
		}
		for _, kind := range []int{-1, 3} {
			if got := carry(t, s, slices.Repeat([]impl.Change{{Path: "/a", Kind: kind}}, many), r.b); !got.equal(refused) {
				t.Fatalf("%d changes of the kind %d: %v", many, kind, got)
			}
		}
		if got := carry(t, walkStore{nil, 0}, make([]impl.Change, many), 0); !got.equal(refused) {
			t.Fatalf("%d changes of a store without pieces: %v", many, got)
		}
	}
}

func TestChangesOfOtherKinds(t *testing.T) {
	r := exampleRoots()
	s := walkStore{r.store, r.a}
	for _, kind := range []int{3, 4, 5, 7, 12, -1, -2, -3, 254, 255, 256, 257, 258, 65536, 65537, 65538, 1 << 32, 1<<32 + 1, 1<<32 + 2, -1 << 32, math.MaxInt, math.MinInt, math.MinInt + 1, math.MinInt + 2} {
		for _, path := range []string{"/a", "/b/x", "/b", "/c", "/q", "/a/y", "/", "", "/A"} {
			other := impl.Change{Path: path, Kind: kind}
			checkNotCarried(t, s, []impl.Change{other}, r.b)
			for _, text := range []string{"*/b/x", "-/a", "-/a +/a/y", "-/b/y -/c +/c"} {
				list := changesOf(text)
				for i := 0; i <= len(list); i++ {
					checkNotCarried(t, s, slices.Insert(slices.Clone(list), i, other), r.b)
				}
				if got := checkCarry(t, s, list, r.b); !got.ok {
					t.Fatalf("%q is not carried: %v", text, got)
				}
			}
		}
	}
}

// If one change is not possible all before it are not carried, however many these are.
func TestNothingIsCarriedIfOneChangeIsNotPossible(t *testing.T) {
	many := 0
	for i, sets := range setPairs() {
		list := wantedChanges(contentsOf(sets[0]), contentsOf(sets[1]))
		if i%20 != 0 || len(list) == 0 {
			continue
		}
		store, a, b := bothSets(sets[0], sets[1])
		s := walkStore{store, a}
		if !checkCarry(t, s, list, b).ok {
			continue
		}
		for j := 0; j <= len(list); j++ {
			for _, wrong := range changesOf("-/q +/q */ - +/q/q") {
				many++
				checkNotCarried(t, s, slices.Insert(slices.Clone(list), j, wrong), b)
			}
			if j < len(list) {
				wrong := slices.Clone(list)
				wrong[j].Kind = 3
				checkNotCarried(t, s, wrong, b)
			}
		}
	}
	if many < 1000 {
		t.Fatalf("only %d changes are not possible", many)
	}
}

// A store that becomes full before the last change, or is full before the first one.
func TestCarriedChangesWithLittleRoom(t *testing.T) {
	ok, not, full := 0, 0, 0
	for i, sets := range setPairs() {
		list := wantedChanges(contentsOf(sets[0]), contentsOf(sets[1]))
		if i%25 != 0 || len(list) == 0 {
			continue
		}
		store, a, b := bothSets(sets[0], sets[1])
		// All changes lead to a root that is there already, and one more to another one.
		more := append(slices.Clone(list), impl.Change{Path: list[len(list)-1].Path, Kind: 2})
		for room := range 8 {
			s := crowded(walkStore{store, a}, room)
			all, with := checkCarry(t, s, list, b), checkCarry(t, s, more, b)
			if all.ok && all.root != b {
				t.Fatalf("%v from %d of %v to %d: %v", list, a, s.store, b, all)
			}
			if all.ok {
				ok++
			} else {
				not++
			}
			if all.ok && len(all.store) == 40 && !with.ok {
				full++
			}
		}
	}
	if ok < 50 || not < 50 || full < 10 {
		t.Fatalf("%d times there is room, %d times not, and %d times not for the last change", ok, not, full)
	}
}

func TestTheStoreIsFullBeforeTheLastChange(t *testing.T) {
	store, a, b := bothSets(files{"/a": "f1", "/b": "f2", "/c": "f3"}, files{"/a": "f4", "/b": "f5", "/c": "f6"})
	list := changesOf("*/a */b */c")
	// The last change leads to the other root, which is there already, so that the first two need room alone.
	for room := range 4 {
		s := crowded(walkStore{store, a}, room)
		if got := checkCarry(t, s, list, b); got.ok != (room >= 2) {
			t.Fatalf("with room for %d: %v", room, got)
		}
		// Another last change needs room.
		for _, last := range []string{"-/a", "-/b", "-/c"} {
			if got := checkCarry(t, s, append(changesOf("*/a */b"), changesOf(last)...), b); got.ok != (room >= 3) {
				t.Fatalf("with room for %d and %q last: %v", room, last, got)
			}
		}
		if got := checkCarry(t, s, changesOf("*/a */b */b"), b); got.ok != (room >= 2) {
			t.Fatalf("with room for %d and the same change twice: %v", room, got)
		}
	}
}

func TestCarriedChangesWithOtherTextsOfTheSamePrint(t *testing.T) {
	many := 0
	for i, sets := range setPairs() {
		if i%30 != 0 {
			continue
		}
		store, a, b := bothSets(sets[0], sets[1])
		list := wantedChanges(contentsOf(sets[0]), contentsOf(sets[1]))
		got := wantedCarry(walkStore{store, a}, list, b)
		if !got.ok || len(got.store) == 40 {
			continue
		}
		for _, text := range newTexts(got.store, store) {
			many++
			with := walkStore{storeOf(append(textsOf(store), otherText(text))...), a}
			checkNotCarried(t, with, list, b)
		}
	}
	if many < 50 {
		t.Fatalf("only %d texts are put", many)
	}
}

func TestChangesOfFoldersWithMaxEntries(t *testing.T) {
	for _, above := range []string{"", "/x", "/x/y"} {
		a, b := files{}, files{}
		for _, name := range []string{"b", "d", "f"} {
			a[above+"/"+name] = "f" + name
		}
		for _, name := range []string{"a", "d", "g"} {
			b[above+"/"+name] = "fnew"
		}
		store, first, second := bothSets(a, b)
		s, turned := walkStore{store, first}, walkStore{store, second}
		checkCarried(t, s, impl.ChangesOf(store, first, second), second, second)
		checkCarried(t, turned, impl.ChangesOf(store, second, first), first, first)
		// In another order a folder would have too many entries between.
		at := func(text string) []impl.Change { return changesOf(strings.ReplaceAll(text, "/", above+"/")) }
		for _, text := range []string{"+/a", "+/g", "*/d +/a", "+/a -/b", "-/b +/a +/g", "-/b +/a +/g -/f", "-/b -/d -/f +/a +/g +/d +/a +/b"} {
			checkNotCarried(t, s, at(text), second)
		}
		for _, text := range []string{"-/b +/a -/f +/g */d", "-/f +/a -/b +/g +/d", "*/d -/f +/g -/b +/a", "-/b -/d -/f +/a +/g +/d", "-/b -/f */d */a */g"} {
			checkCarried(t, s, at(text), second, second)
		}
		checkCarried(t, s, at("*/d"), second, walkStoreOf(files{above + "/b": "fb", above + "/d": "fnew", above + "/f": "ff"}).root)
	}
}

// No change is possible from a root that is no folder in the store, and nothing can be written from an other one that is none.
func TestChangesOfRootsThatAreNoFolders(t *testing.T) {
	r := exampleRoots("fhi", "hi", "", "d", "da=07;", "aagjux")
	roots := append([]int{0, 1, 5, wantedPrint("fhi"), wantedPrint("f1"), wantedPrint("hi"), wantedPrint("da=07;"), -r.a, r.a + 1, r.a + 16777213, r.a - 16777213, r.a + 1<<32, impl.MaxPrint}, otherPrints...)
	for _, root := range roots {
		for _, text := range []string{"-/a", "*/b/x", "+/b/x", "-/b/x", "+/a/y", "-/a +/a/y", "-/", "+/", "*/", "-", "+/q", "*/b/x -/a"} {
			checkNotCarried(t, walkStore{r.store, root}, changesOf(text), r.b)
			if strings.ContainsAny(text, "+*") {
				checkNotCarried(t, walkStore{r.store, r.a}, changesOf(text), root)
				checkNotCarried(t, walkStore{r.store, r.a}, changesOf("-/b/y "+text), root)
			}
		}
		// What is dropped does not need the other root.
		checkCarried(t, walkStore{r.store, r.a}, changesOf("-/a -/b/x"), root, walkStoreOf(files{"/b/y": "f3", "/c/c/c": "f4"}).root)
	}
	// The folder without entries is a root to which files are written.
	checkCarried(t, walkStore{r.store, 357}, changesOf("+/a/y */b/x +/c"), r.b, r.b)
	checkNotCarried(t, walkStore{r.store, 357}, changesOf("-/a"), r.b)
}

// The other root may be the one that is changed: what it has stays, and what it does not have is not written.
func TestChangesFromTheSameRoot(t *testing.T) {
	for i, set := range smallSets() {
		s := walkStoreOf(set)
		if i%4 != 0 || len(s.store) > 36 {
			continue
		}
		var all []impl.Change
		for _, path := range inOrder(set) {
			all = append(all, impl.Change{Path: path, Kind: len(all) % 2})
			list := []impl.Change{{Path: path, Kind: 2}, {Path: path, Kind: len(all) % 2}}
			checkCarried(t, s, list, s.root, s.root)
		}
		checkCarried(t, s, all, s.root, s.root)
		checkNotCarried(t, s, append(all, impl.Change{Path: "/q", Kind: 0}), s.root)
		checkNotCarried(t, s, append(slices.Clone(all), impl.Change{Path: "/q/a", Kind: 1}), s.root)
	}
}

func TestChangesOfStoresThatAreNotValid(t *testing.T) {
	check := func(store []impl.Piece, roots []int) {
		t.Helper()
		if impl.StoreValid(store) {
			t.Fatalf("%v is valid", store)
		}
		for i, a := range roots {
			b := roots[len(roots)-1-i]
			checkChanges(t, twoRoots{store, a, b}, nil)
			for _, list := range [][]impl.Change{nil, {}, changesOf("-/a"), changesOf("*/a"), changesOf("+/b/x"), changesOf("-/a +/a/y"), changesOf("-"), {{Path: "/a", Kind: 3}}, make([]impl.Change, 31)} {
				if got := carry(t, walkStore{store, a}, list, b); !got.equal(refused) {
					t.Fatalf("CarryChanges(%v, %d, %v, %d) is %v", store, a, list, b, got)
				}
			}
		}
	}
	for _, store := range otherStores() {
		roots := []int{0, 1, 357, -1}
		for _, piece := range store[:min(4, len(store))] {
			roots = append(roots, piece.Print)
		}
		check(store, roots)
	}
	r := exampleRoots("x", "aagjuw")
	for _, store := range wronged(r.store) {
		check(store, []int{r.a, r.b, -1, r.a})
	}
	beyond, a, b := bothSets(fullTree(), files{"/a": "f1", "/b/x": "f2"})
	check(beyond, []int{a, b, 357, a})
}

func TestResultsOfChangesBetweenRootsAreNew(t *testing.T) {
	for i, r := range rootPairs() {
		if i%17 != 0 && i < 4000 {
			continue
		}
		given, whole := withRoom(r.store)
		before := slices.Clone(whole)
		first := impl.ChangesOf(given, r.a, r.b)
		want := slices.Clone(first)
		second := impl.ChangesOf(given, r.a, r.b)
		clear(second[:cap(second)])
		if !slices.Equal(first, want) || !slices.Equal(whole, before) || !slices.Equal(impl.ChangesOf(given, r.a, r.b), want) {
			t.Fatalf("the changes between %d and %d of %v share memory, or are written to the store", r.a, r.b, r.store)
		}
		spoil(whole)
		if !slices.Equal(first, want) {
			t.Fatalf("the changes between %d and %d of %v share memory with the store", r.a, r.b, r.store)
		}
	}
}

func TestResultsOfCarriedChangesAreNew(t *testing.T) {
	r := exampleRoots()
	for _, text := range []string{"", "-/a", "*/b/x", "-/a +/a/y", "-/q", "*/b/x -/q", "-/a -/b/y -/c/c/c +/a/y */b/x +/c"} {
		for _, root := range []int{r.a, 5} {
			given, whole := withRoom(r.store)
			list := append(changesOf(text), impl.Change{Path: "spare", Kind: 7})
			before, changes := slices.Clone(whole), slices.Clone(list)
			first, _, _ := impl.CarryChanges(given, root, list[:len(list)-1], r.b)
			want := slices.Clone(first)
			second, _, _ := impl.CarryChanges(given, root, list[:len(list)-1], r.b)
			spoil(second)
			if !slices.Equal(first, want) || !slices.Equal(whole, before) || !slices.Equal(list, changes) {
				t.Fatalf("a result of %q from %d shares memory, or is written to an argument", text, root)
			}
			spoil(whole)
			clear(list)
			if !slices.Equal(first, want) {
				t.Fatalf("a result of %q from %d shares memory with an argument", text, root)
			}
		}
	}
	// CountKind and ChangesOf write to none of their arguments, either.
	list := changesOf("-/a */b +/c -/d")
	before := slices.Clone(list)
	for kind := range 4 {
		impl.CountKind(list[:3], kind)
	}
	if !slices.Equal(list, before) {
		t.Fatalf("CountKind writes to %v", before)
	}
}
