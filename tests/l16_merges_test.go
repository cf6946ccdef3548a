package tests

import (
	"maps"
	"math"
	"slices"
	"strconv"
	"strings"
	"sync"
	"testing"

	"loop.example/proofarchive/impl"
)

// threeRoots is a store with the root that was there before, and those of both sides.
type threeRoots struct {
	store        []impl.Piece
	before, a, b int
}

// turned returns the same roots with both sides exchanged.
func (r threeRoots) turned() threeRoots {
	return threeRoots{r.store, r.before, r.b, r.a}
}

// merged is what MergeRoots returns.
type merged struct {
	changed
	told []string
}

func (m merged) equal(other merged) bool {
	return m.changed.equal(other.changed) && slices.Equal(m.told, other.told)
}

// mergeStays is what is returned when a merge is not possible, and mergeRefused when the store is not valid.
func mergeStays(r threeRoots) merged {
	return merged{changed{r.store, r.a, false}, nil}
}

var mergeRefused = merged{refused, nil}

// setOf returns the texts at paths that a text with spaces between them tells.
func setOf(text string) files {
	set := files{}
	for _, one := range strings.Fields(text) {
		path, at, _ := strings.Cut(one, "=")
		set[path] = at
	}
	return set
}

// threeSets returns a store with three sets of texts at paths, and the roots of all.
func threeSets(sets [3]files, more ...string) threeRoots {
	store, a, b := bothSets(sets[1], sets[2], more...)
	before := walkStoreOf(sets[0], textsOf(store)...)
	return threeRoots{before.store, before.root, a, b}
}

// wantedMergePrint returns what MergePrint returns, in another way than the program does: by how many numbers there are beside the one before.
func wantedMergePrint(before, a, b int) (int, bool) {
	others := map[int]bool{}
	for _, n := range []int{before, a, b} {
		if n < -1 || n > 16777212 {
			return -2, false
		}
		if n != before {
			others[n] = true
		}
	}
	switch len(others) {
	case 0:
		return before, true
	case 1:
		return slices.Collect(maps.Keys(others))[0], true
	}
	return -2, false
}

// printAt returns the print of the file at a path, and -1 if there is none, in another way than the program does.
func printAt(contents files, path string) int {
	content, there := contents[path]
	if !there {
		return -1
	}
	return wantedPrint("f" + content)
}

// bothPaths returns the paths of the first side's files in order, and then those that the second side alone has.
func bothPaths(a, b files) []string {
	alone := maps.Clone(b)
	for path := range a {
		delete(alone, path)
	}
	return append(inOrder(a), inOrder(alone)...)
}

// wantedMerge returns what MergeRoots returns for a valid store, in another way than the program does: with maps of files and of texts.
func wantedMerge(r threeRoots) merged {
	before, a, b := wantedFiles(walkStore{r.store, r.before}), wantedFiles(walkStore{r.store, r.a}), wantedFiles(walkStore{r.store, r.b})
	var drops, writes []impl.Change
	var told []string
	for _, path := range bothPaths(a, b) {
		first := printAt(a, path)
		print, ok := wantedMergePrint(printAt(before, path), first, printAt(b, path))
		if !ok {
			told = append(told, path)
		} else if print == -1 && first != -1 {
			drops = append(drops, impl.Change{Path: path, Kind: 2})
		} else if print != first {
			writes = append(writes, impl.Change{Path: path, Kind: 0})
		}
	}
	got := wantedAll(walkStore{r.store, r.a}, append(drops, writes...), r.b)
	if !got.ok {
		return mergeStays(r)
	}
	return merged{got, told}
}

// mergedSet returns the set of files to which two sides lead, and the paths that are told, in another way than both: file by file, without a store.
func mergedSet(sets [3]files) (files, []string) {
	set, all := files{}, files{}
	for _, one := range sets {
		maps.Copy(all, one)
	}
	told := map[string]bool{}
	for path := range all {
		// What no set has is the empty text, which none has at a path.
		before, a, b := sets[0][path], sets[1][path], sets[2][path]
		text := a
		if a == before {
			text = b
		} else if b != before && a != b {
			told[path] = true
		}
		if text != "" {
			set[path] = text
		}
	}
	paths := slices.DeleteFunc(bothPaths(sets[1], sets[2]), func(path string) bool { return !told[path] })
	return set, paths
}

// canBe reports whether a set of files can be those of a root.
func canBe(set files) bool {
	with, ok := files{}, true
	for path, text := range set {
		if with, ok = withFile(with, path, text); !ok {
			return false
		}
	}
	return true
}

// mergeOf merges roots, and checks that nothing is written to the store that is given, nor to the memory behind it.
func mergeOf(t *testing.T, r threeRoots) merged {
	t.Helper()
	var told []string
	c := changeOf(t, walkStore{r.store, r.a}, func(store []impl.Piece) (c changed) {
		c.store, c.root, told, c.ok = impl.MergeRoots(store, r.before, r.a, r.b)
		return c
	})
	return merged{c, told}
}

// checkMerge compares a merge with what is wanted.
func checkMerge(t *testing.T, r threeRoots) merged {
	t.Helper()
	got, want := mergeOf(t, r), wantedMerge(r)
	if !got.equal(want) || len(got.store) > 0 && !impl.StoreValid(got.store) {
		t.Fatalf("MergeRoots(%v, %d, %d, %d) is %v, not %v", r.store, r.before, r.a, r.b, got, want)
	}
	return got
}

// checkMerged checks that a merge leads to a root, that some paths are told, and that all pieces and the files of all roots stay.
func checkMerged(t *testing.T, r threeRoots, root int, told ...string) {
	t.Helper()
	got := checkMerge(t, r)
	if !got.ok || got.root != root || !slices.Equal(got.told, told) {
		t.Fatalf("MergeRoots(%v, %d, %d, %d) is %v, not %d and %q", r.store, r.before, r.a, r.b, got, root, told)
	}
	for _, old := range []int{r.before, r.a, r.b} {
		checkFilesStay(t, walkStore{r.store, old}, got.store)
	}
}

// checkNotMerged checks that a merge is not possible.
func checkNotMerged(t *testing.T, r threeRoots) {
	t.Helper()
	if got := checkMerge(t, r); !got.equal(mergeStays(r)) {
		t.Fatalf("MergeRoots(%v, %d, %d, %d) is %v", r.store, r.before, r.a, r.b, got)
	}
}

// checkSets checks that a merge of sets of files leads to the merged set, exactly if that can be the files of a root, and returns whether it can. There has to be enough room.
func checkSets(t *testing.T, sets [3]files, more ...string) bool {
	t.Helper()
	r := threeSets(sets, more...)
	set, told := mergedSet(sets)
	if !canBe(set) {
		checkNotMerged(t, r)
		return false
	}
	checkMerged(t, r, walkStoreOf(set).root, told...)
	return true
}

// fileAt returns the print of the file to which a path leads, and -1 if it leads to none.
func fileAt(store []impl.Piece, root int, path string) int {
	if _, file := impl.ReadAt(store, root, path); !file {
		return -1
	}
	print, _ := impl.WalkTo(store, root, path)
	return print
}

// checkPromise checks what is promised of a merge that was possible (P20), and returns how many files were as MergePrint tells them.
func checkPromise(t *testing.T, r threeRoots, got merged) int {
	t.Helper()
	paths := map[string]bool{}
	for _, root := range []int{r.before, r.a, r.b} {
		for _, path := range impl.AllFiles(r.store, root) {
			paths[path] = true
		}
	}
	for _, path := range impl.AllFiles(got.store, got.root) {
		if !paths[path] {
			t.Fatalf("the file %q of %v comes from none of %v", path, got, r)
		}
	}
	for path := range paths {
		before, a, b := fileAt(r.store, r.before, path), fileAt(r.store, r.a, path), fileAt(r.store, r.b, path)
		print, ok := impl.MergePrint(before, a, b)
		told := slices.Contains(got.told, path)
		if told == ok || told && (a == before || b == before || a == b) {
			t.Fatalf("%q has the prints %d, %d and %d, and is told in %v of %v: %v", path, before, a, b, got, r, told)
		}
		if told {
			print = a
		}
		if now := fileAt(got.store, got.root, path); now != print {
			t.Fatalf("%q has the prints %d, %d and %d, and has %d in %v of %v", path, before, a, b, now, got, r)
		}
	}
	return len(paths) - len(got.told)
}

// mergeNumbers returns prints, -1 for no file, and numbers that are neither.
func mergeNumbers() []int {
	list := []int{-1, 0, 1, 2, 5, 7, 255, 256, 257, 357, 65536, impl.MaxPrint - 1, impl.MaxPrint}
	return append(list, numbersOfNoFile...)
}

// numbersOfNoFile are neither prints nor -1.
var numbersOfNoFile = []int{impl.MaxPrint + 1, impl.MaxPrint + 2, 1 << 24, 1 << 31, 1 << 32, 1<<32 - 1, 1<<32 + 5, 1 << 62, math.MaxInt, -2, -3, -5, -255, -256, -357, -impl.MaxPrint, -1 << 24, -1 << 32, -1<<32 + 5, math.MinInt, math.MinInt + 1}

func TestKnownMergePrints(t *testing.T) {
	known := []struct {
		before, a, b, print int
	}{
		// All equal, one side changed, both to the same, both to different ones.
		{1, 1, 1, 1}, {1, 2, 1, 2}, {1, 1, 2, 2}, {1, 2, 2, 2}, {1, 2, 3, -2}, {1, 3, 2, -2}, {2, 1, 3, -2}, {3, 1, 2, -2}, {3, 2, 2, 2}, {3, 2, 3, 2}, {3, 3, 2, 2},
		// New on one side, on both alike and on both differently.
		{-1, 2, -1, 2}, {-1, -1, 2, 2}, {-1, 2, 2, 2}, {-1, 2, 3, -2}, {-1, 3, 2, -2},
		// Gone on one side, on both, and on one side while the other one changed it.
		{1, -1, 1, -1}, {1, 1, -1, -1}, {1, -1, -1, -1}, {1, -1, 2, -2}, {1, 2, -1, -2}, {-1, -1, -1, -1},
		// The least print and the greatest one.
		{0, 0, 0, 0}, {0, 1, 0, 1}, {0, 0, 1, 1}, {1, 0, 1, 0}, {1, 1, 0, 0}, {1, 0, 0, 0}, {-1, 0, -1, 0}, {-1, -1, 0, 0}, {0, -1, 0, -1}, {0, 0, -1, -1}, {0, -1, -1, -1}, {0, -1, 1, -2}, {0, 1, -1, -2}, {-1, 0, 1, -2}, {1, 0, -1, -2}, {1, -1, 0, -2},
		{impl.MaxPrint, impl.MaxPrint, impl.MaxPrint, impl.MaxPrint}, {1, impl.MaxPrint, 1, impl.MaxPrint}, {1, 1, impl.MaxPrint, impl.MaxPrint}, {impl.MaxPrint, 1, impl.MaxPrint, 1}, {impl.MaxPrint, impl.MaxPrint, 1, 1}, {-1, impl.MaxPrint, -1, impl.MaxPrint}, {impl.MaxPrint, -1, impl.MaxPrint, -1}, {impl.MaxPrint, 0, -1, -2}, {0, impl.MaxPrint, -1, -2}, {-1, 0, impl.MaxPrint, -2}, {0, impl.MaxPrint - 1, impl.MaxPrint, -2},
	}
	for _, x := range known {
		if got, ok := impl.MergePrint(x.before, x.a, x.b); got != x.print || ok != (x.print != -2) {
			t.Fatalf("MergePrint(%d, %d, %d) is %d, %v", x.before, x.a, x.b, got, ok)
		}
	}
}

func TestMergePrintsOfAllNumbers(t *testing.T) {
	numbers := mergeNumbers()
	for n := -1; n < 4; n++ {
		for m := range 125 {
			before, a, b := m%5-1+n, m/5%5-1+n, m/25-1+n
			want, possible := wantedMergePrint(before, a, b)
			if got, ok := impl.MergePrint(before, a, b); got != want || ok != possible {
				t.Fatalf("MergePrint(%d, %d, %d) is %d, %v", before, a, b, got, ok)
			}
		}
	}
	for _, before := range numbers {
		for _, a := range numbers {
			for _, b := range numbers {
				want, possible := wantedMergePrint(before, a, b)
				if got, ok := impl.MergePrint(before, a, b); got != want || ok != possible {
					t.Fatalf("MergePrint(%d, %d, %d) is %d, %v", before, a, b, got, ok)
				}
			}
		}
	}
}

// P87
func TestTheOrderOfSidesDoesNotMatter(t *testing.T) {
	possible := 0
	for _, before := range mergeNumbers() {
		for _, a := range mergeNumbers() {
			for _, b := range mergeNumbers() {
				print, ok := impl.MergePrint(before, a, b)
				if turned, also := impl.MergePrint(before, b, a); print != turned || ok != also {
					t.Fatalf("MergePrint(%d, %d, %d) is %d, %v, and turned %d, %v", before, a, b, print, ok, turned, also)
				}
				if ok {
					possible++
				}
			}
		}
	}
	if possible < 400 {
		t.Fatalf("only %d are possible", possible)
	}
	for _, before := range []int{-1, 0, 1, 357, impl.MaxPrint} {
		for _, other := range []int{-1, 0, 1, 5, 357, 65536, impl.MaxPrint - 1, impl.MaxPrint} {
			first, ok := impl.MergePrint(before, before, other)
			second, also := impl.MergePrint(before, other, before)
			if first != other || second != other || !ok || !also {
				t.Fatalf("one side alone changed %d to %d: %d, %v, and turned %d, %v", before, other, first, ok, second, also)
			}
		}
	}
}

func TestMergePrintsOfNumbersThatAreNoPrints(t *testing.T) {
	for _, wrong := range numbersOfNoFile {
		for _, x := range []int{-1, 0, 1, impl.MaxPrint, wrong, -2, math.MinInt} {
			for _, y := range []int{-1, 0, 1, impl.MaxPrint, wrong} {
				for _, three := range [][3]int{{wrong, x, y}, {x, wrong, y}, {x, y, wrong}} {
					if got, ok := impl.MergePrint(three[0], three[1], three[2]); got != -2 || ok {
						t.Fatalf("MergePrint of %v is %d, %v", three, got, ok)
					}
				}
			}
		}
	}
}

func TestKnownMerges(t *testing.T) {
	some := "/a=f1 /b/x=f2 /b/y=f3 /c=f4"
	known := []struct{ before, a, b, merged, told string }{
		{"", "", "", "", ""},
		{some, some, some, some, ""},
		// One side changed nothing.
		{some, some, "", "", ""},
		{some, "", some, "", ""},
		{"", some, "", some, ""},
		{"", "", some, some, ""},
		{some, some, "/a=f9 /b/x=f2 /d=f5", "/a=f9 /b/x=f2 /d=f5", ""},
		{some, "/a=f9 /b/x=f2 /d=f5", some, "/a=f9 /b/x=f2 /d=f5", ""},
		// Both changed alike.
		{some, "/a=f9 /b/x=f2 /d=f5", "/a=f9 /b/x=f2 /d=f5", "/a=f9 /b/x=f2 /d=f5", ""},
		{some, "", "", "", ""},
		{"", some, some, some, ""},
		// New files, also beside each other in folders that are new, too.
		{"/a=f1", "/a=f1 /b=f2", "/a=f1 /c=f3", "/a=f1 /b=f2 /c=f3", ""},
		{"/a=f1", "/a=f1 /b/x=f2", "/a=f1 /b/y=f3", "/a=f1 /b/x=f2 /b/y=f3", ""},
		{"", "/b/x=f2", "/b/y/z=f3", "/b/x=f2 /b/y/z=f3", ""},
		{"", "/a/b/c=f1", "/a/b/a=f1", "/a/b/a=f1 /a/b/c=f1", ""},
		// Changed files.
		{some, "/a=f9 /b/x=f2 /b/y=f3 /c=f4", "/a=f1 /b/x=f8 /b/y=f3 /c=f4", "/a=f9 /b/x=f8 /b/y=f3 /c=f4", ""},
		{some, "/a=f1 /b/x=f7 /b/y=f3 /c=f4", "/a=f1 /b/x=f2 /b/y=f8 /c=f4", "/a=f1 /b/x=f7 /b/y=f8 /c=f4", ""},
		{"/a=f1 /b=f2", "/a=f2 /b=f2", "/a=f1 /b=f1", "/a=f2 /b=f1", ""},
		// Files that are gone, also with the folders above them.
		{some, "/b/x=f2 /b/y=f3 /c=f4", "/a=f1 /b/x=f2 /c=f4", "/b/x=f2 /c=f4", ""},
		{some, "/a=f1 /b/x=f2 /c=f4", "/a=f1 /b/y=f3 /c=f4", "/a=f1 /c=f4", ""},
		{some, "/a=f1 /b/x=f2", "/b/y=f3 /c=f4", "", ""},
		{"/a/b/c=f1 /d=f2", "/a/b/c=f1 /d=f3", "/d=f2", "/d=f3", ""},
		{"/a/b/c=f1", "", "/a/b/c=f1", "", ""},
		{"/a/b/c=f1", "/a/b/c=f1", "", "", ""},
		// Gone on one side, and changed or new beside it on the other one.
		{some, "/a=f1 /c=f4", "/a=f1 /b/x=f2 /b/y=f3 /b/z=f5 /c=f4", "/a=f1 /b/z=f5 /c=f4", ""},
		{some, "/a=f1 /b/x=f2 /b/y=f3 /b/z=f5 /c=f4", "/a=f1 /c=f4", "/a=f1 /b/z=f5 /c=f4", ""},
		// New on both sides.
		{"", "/a=f1", "/a=f1", "/a=f1", ""},
		{"", "/a=f1", "/a=f2", "/a=f1", "/a"},
		{"/b=f3", "/a/a=f1 /b=f3", "/a/a=f2 /b=f3", "/a/a=f1 /b=f3", "/a/a"},
		{"", "/a=f", "/a=f1", "/a=f", "/a"},
		// Changed on both sides.
		{"/a=f1", "/a=f2", "/a=f3", "/a=f2", "/a"},
		{"/a=f1", "/a=f2", "/a=f2", "/a=f2", ""},
		{"/a=f", "/a=f2", "/a=f22", "/a=f2", "/a"},
		{"/a=f1", "/a=f", "/a=f3", "/a=f", "/a"},
		// Gone on one side and changed on the other one.
		{"/a=f1", "", "/a=f2", "", "/a"},
		{"/a=f1", "/a=f2", "", "/a=f2", "/a"},
		{"/a/b/c=f1 /d=f", "/d=f", "/a/b/c=f2 /d=f", "/d=f", "/a/b/c"},
		{"/a/b/c=f1 /d=f", "/a/b/c=f2 /d=f", "/d=f", "/a/b/c=f2 /d=f", "/a/b/c"},
		{some, "/b/x=f9 /c=f4", "/a=f5 /b/y=f3 /c=f4", "/b/x=f9 /c=f4", "/b/x /a"},
		// Several are told: first all of the first side, and then those that the second side alone has.
		{"/a=f1 /b=f1 /c=f1", "/a=f2 /b=f2 /c=f2", "/a=f3 /b=f3 /c=f3", "/a=f2 /b=f2 /c=f2", "/a /b /c"},
		{"/a=f1 /b=f1 /c=f1", "/b=f2", "/a=f3 /b=f3 /c=f3", "/b=f2", "/b /a /c"},
		{"/a=f1 /b=f1 /c=f1", "/c=f2", "/a=f3 /b=f3", "/c=f2", "/c /a /b"},
		{"/a=f1 /b=f1 /c=f1", "/a=f3 /b=f3", "/c=f2", "/a=f3 /b=f3", "/a /b /c"},
		{"/a/z=f1 /a0=f1 /aa/a=f1", "/a0=f2 /aa/a=f2", "/a/z=f3 /a0=f3 /aa/a=f3", "/a0=f2 /aa/a=f2", "/a0 /aa/a /a/z"},
		{"/a/z=f1 /a0=f1 /aa/a=f1", "/a/z=f2 /a0=f2 /aa/a=f2", "/a/z=f3 /a0=f3 /aa/a=f3", "/a/z=f2 /a0=f2 /aa/a=f2", "/a/z /a0 /aa/a"},
		{"/x/b=f1 /x/c=f1", "/x/b=f2 /z=f4", "/w=f5 /x/b=f3 /x/c=f6 /z=f7", "/w=f5 /x/b=f2 /z=f4", "/x/b /z /x/c"},
		// Some are told, and all others are as they should be.
		{some, "/a=f9 /b/x=f8 /b/y=f3 /d=f5", "/a=f7 /b/x=f2 /b/y=f6 /c=f4", "/a=f9 /b/x=f8 /b/y=f6 /d=f5", "/a"},
		{some, "/a=f9 /b/x=f8 /b/y=f3 /c=f4", "/a=f7 /b/x=f6 /c=f5", "/a=f9 /b/x=f8 /c=f5", "/a /b/x"},
		// A file that is a folder on one side then, and the other way round.
		{"/x=f1", "/x=f1", "/x/y=f2", "/x/y=f2", ""},
		{"/x=f1", "/x/y=f2", "/x=f1", "/x/y=f2", ""},
		{"/x/y=f1", "/x/y=f1", "/x=f2", "/x=f2", ""},
		{"/x/y=f1", "/x=f2", "/x/y=f1", "/x=f2", ""},
		{"/x/y=f1 /x/z=f2", "/x/y=f1 /x/z=f2", "/x=f1", "/x=f1", ""},
		{"/x/y/z=f1", "/x/y/z=f1", "/x/y=f1", "/x/y=f1", ""},
		{"/x/y/z=f1", "/x/y/z=f1 /a=f2", "/x=f1", "/a=f2 /x=f1", ""},
		{"/a/b=f1", "/a/b=f1 /c=f3", "/a/b/c=f2", "/a/b/c=f2 /c=f3", ""},
		// Dropped files make room for new ones.
		{"/b=f1 /d=f2 /f=f3", "/b=f1 /d=f2 /f=f3", "/a=f4 /d=f2 /f=f3", "/a=f4 /d=f2 /f=f3", ""},
		{"/b=f1 /d=f2 /f=f3", "/b=f1 /d=f9 /f=f3", "/a=f4 /d=f2 /g=f5", "/a=f4 /d=f9 /g=f5", ""},
		{"/b=f1 /d=f2", "/b=f1 /d=f2 /e=f6", "/c=f3 /d=f2", "/c=f3 /d=f2 /e=f6", ""},
		// What is neither a file nor above one stays with the first side, and comes from no other one.
		{"", "/e=d /x=hi", "/a=f1", "/a=f1 /e=d /x=hi", ""},
		{"", "/a=f1", "/e=d /x=hi", "/a=f1", ""},
		{"/e=d /x=hi", "/e=d /x=hi", "", "/e=d /x=hi", ""},
		{"/e=d /x=hi", "", "/e=d /x=hi", "", ""},
		{"/e/x=f1 /e/y=d", "/e/x=f1 /e/y=d", "", "/e/y=d", ""},
		{"/e/x=f1", "/e=d", "/e/x=f1 /e/y=f2", "/e/y=f2", ""},
		{"/x=hi", "/x=f1", "/x=hi", "/x=f1", ""},
		{"/x=hi", "/x=f1", "/x=f2", "/x=f1", "/x"},
		{"/x=f1", "/x=hi", "/x=f1", "/x=hi", ""},
		{"/x=f1", "/x=d", "/x=f2", "/x=d", "/x"},
		{"/x=f1", "/x=f2", "/x=hi", "/x=f2", "/x"},
		{"/a/b/c/d=f1", "/a/b/c/d=f2", "/a/b/c/d=f3", "/a/b/c/d=f2", ""},
	}
	for _, x := range known {
		sets := [3]files{setOf(x.before), setOf(x.a), setOf(x.b)}
		for _, more := range [][]string{nil, {"d"}, {"d", "fbeside", "dbeside=1;", "a"}} {
			r := threeSets(sets, more...)
			checkMerged(t, r, walkStoreOf(setOf(x.merged)).root, strings.Fields(x.told)...)
		}
	}
}

func TestMergesThatAreNotPossible(t *testing.T) {
	known := []struct{ before, a, b string }{
		// A file of one side where the other one has a folder, or above one that it has.
		{"", "/x=f1", "/x/y=f2"}, {"", "/x/y=f2", "/x=f1"}, {"", "/x/y/z=f2", "/x=f1"}, {"", "/x=f1", "/x/y/z=f2"}, {"", "/a/x/y=f1", "/a/x=f1"}, {"/x/y=f1", "/x/y=f2", "/x=f3"}, {"/x=f1", "/x=f2", "/x/y=f3"},
		{"/x/y=f1", "/x/y=f1 /x/z=f2", "/x=f3"}, {"/x/y=f1", "/x=f3", "/x/y=f1 /x/z=f2"}, {"/x=f1", "/x/y=f2", "/x/y/z=f3"},
		// Also if paths are told beside it.
		{"/a=f1", "/a=f2 /x=f1", "/a=f3 /x/y=f2"}, {"/z=f1", "/x/y=f2", "/x=f1 /z=f3"},
		// Folders that are empty on the first side, and texts that are neither files nor folders.
		{"", "/x=d", "/x=f1"}, {"", "/x=hi", "/x=f1"}, {"", "/x=hi", "/x/y=f1"}, {"", "/x/y=d", "/x=f1"}, {"/x/y=f1 /x/z=d", "/x/y=f1 /x/z=d", "/x=f1"}, {"/x=d", "/x=d", "/x=f1"}, {"/x=hi", "/x=hi", "/x=f1"},
		// More than MaxEntries entries.
		{"", "/a=f1 /b=f1 /c=f1", "/d=f1"}, {"", "/a=f1 /b=f1", "/c=f1 /d=f1"}, {"/a=f1 /b=f1", "/a=f1 /b=f1 /c=f1", "/a=f1 /b=f1 /d=f1"}, {"", "/x/a=f1 /x/b=f1", "/x/c=f1 /x/d=f1"}, {"", "/x/y/a=f1 /x/y/b=f1 /x/y/d=f1", "/x/y/c=f1"},
		{"", "/a=f1 /b/b=f1 /c/c/c=f1", "/d=f1"}, {"/a=f1 /b=f1 /c=f1", "/a=f2 /b=f1 /c=f1", "/b=f1 /c=f1 /d=f1"}, {"", "/a=d /b=hi /c=f1", "/d=f1"}, {"/a=f1", "/a=f2 /b=f1 /c=f1", "/d=f1"},
	}
	for _, x := range known {
		sets := [3]files{setOf(x.before), setOf(x.a), setOf(x.b)}
		for _, more := range [][]string{nil, {"d"}, {"d", "fbeside", "dbeside=1;", "a"}} {
			checkNotMerged(t, threeSets(sets, more...))
		}
	}
}

// setsOfPaths returns three sets with a state for each of some paths, as a number tells: no file, or one of two contents.
func setsOfPaths(paths []string, number int) [3]files {
	sets := [3]files{{}, {}, {}}
	for _, path := range paths {
		for i := range sets {
			if text := []string{"", "f1", "f2"}[number%3]; text != "" {
				sets[i][path] = text
			}
			number /= 3
		}
	}
	return sets
}

// P20: every way in which one file, two files and three files can be changed by two sides.
func TestFilesThatTwoSidesChange(t *testing.T) {
	for _, path := range []string{"/x", "/a/x", "/a/b/x"} {
		for number := range 64 {
			sets := [3]files{{}, {}, {}}
			for i, n := range []int{number % 4, number / 4 % 4, number / 16} {
				if n > 0 {
					sets[i][path] = []string{"", "f", "f1", "f2"}[n]
				}
			}
			checkSets(t, sets)
			for _, set := range sets {
				set["/b"], set["/c/c"] = "fbeside", "f1"
			}
			checkSets(t, sets)
		}
	}
	for _, paths := range [][]string{{"/a", "/b"}, {"/x/a", "/x/b"}, {"/b/a", "/c"}, {"/b", "/c/a"}, {"/x/y/a", "/x/y/b"}, {"/x/y/a", "/x/z"}} {
		for number := range 729 {
			checkSets(t, setsOfPaths(paths, number))
		}
	}
	for i, paths := range [][]string{{"/a", "/b", "/c"}, {"/b/a", "/b/b", "/c/a"}, {"/a/z", "/a0", "/aa/a"}} {
		for number := 5 * i; number < 19683; number += 17 {
			checkSets(t, setsOfPaths(paths, number))
		}
	}
}

// A name that is that of a file, or of a folder, in each of three sets.
func TestFilesAndFoldersWithTheSameName(t *testing.T) {
	states := []string{"", "/x=f1", "/x=f2", "/x/y=f1", "/x/y=f2", "/x/z=f1", "/x/y/z=f1", "/x/y=f1 /x/z=f2", "/w=f1 /x/y/z=f2"}
	possible, not := 0, 0
	for _, before := range states {
		for _, a := range states {
			for _, b := range states {
				sets := [3]files{setOf(before), setOf(a), setOf(b)}
				if checkSets(t, sets) {
					possible++
				} else {
					not++
				}
				for _, set := range sets {
					set["/z"] = "f1"
				}
				sets[2]["/z"] = "f3"
				checkSets(t, sets, "d", "fbeside")
			}
		}
	}
	if possible < 300 || not < 200 {
		t.Fatalf("%d merges are possible, and %d are not", possible, not)
	}
}

// Folders without entries and texts of neither, in each of three sets, with files or without.
func TestMergesOfFoldersWithoutEntries(t *testing.T) {
	states := []string{"", "/x=f1", "/x=f2", "/x=d", "/x=hi", "/x/y=d", "/x/y=f1", "/x/y=f1 /x/z=d", "/x/y=d /x/z=f1", "/x/y=hi", "/x/y=f1 /x/z=hi"}
	possible, not := 0, 0
	for _, before := range states {
		for _, a := range states {
			for _, b := range states {
				if checkMerge(t, threeSets([3]files{setOf(before), setOf(a), setOf(b)})).ok {
					possible++
				} else {
					not++
				}
			}
		}
	}
	if possible < 600 || not < 200 {
		t.Fatalf("%d merges are possible, and %d are not", possible, not)
	}
}

// changedSet returns a set of files after some changes that a number tells.
func changedSet(set files, seed, many int) files {
	paths := allPaths("a", "b", "c")
	for range many {
		seed = (seed*1103515245 + 12345) % (1 << 31)
		path := paths[seed>>8%39]
		if there := inOrder(set); seed>>14%2 == 0 && len(there) > 0 {
			path = there[seed>>8%len(there)]
		}
		if seed>>16%3 == 0 {
			set = withoutPath(set, path)
		} else {
			set, _ = withFile(set, path, []string{"f", "fone", "ftwo", "fthree"}[seed>>20%4])
		}
	}
	return set
}

// mergeSets returns sets of files, and what two sides made of them, whose texts leave some room in a store. They are made once.
var mergeSets = sync.OnceValue(func() [][3]files {
	var list [][3]files
	for i, set := range smallSets() {
		for j := range 5 {
			seed := 7919*i + 104729*j
			sets := [3]files{set, changedSet(set, seed, 1+(i+j)%5), changedSet(set, seed+1, 1+(i+2*j)%4)}
			list = append(list, sets)
		}
	}
	return slices.DeleteFunc(list, func(sets [3]files) bool {
		return len(threeSets(sets).store) > 32
	})
})

// P20: sets of files, and what two sides made of them.
func TestMergedSetsOfFiles(t *testing.T) {
	possible, not, told := 0, 0, 0
	for _, sets := range mergeSets() {
		r := threeSets(sets)
		got := checkMerge(t, r)
		set, paths := mergedSet(sets)
		if !canBe(set) {
			checkNotMerged(t, r)
		}
		if !got.ok {
			not++
			continue
		}
		possible++
		if len(got.told) > 0 {
			told++
		}
		checkMerged(t, r, walkStoreOf(set).root, paths...)
		checkPromise(t, r, got)
	}
	if possible < 800 || not < 20 || told < 200 {
		t.Fatalf("%d merges are possible, %d are not, and of %d paths are told", possible, not, told)
	}
}

// P20: roots that writes and drops lead to.
func TestMergedRootsHaveWhatWasNotTold(t *testing.T) {
	possible, not, told, many := 0, 0, 0, 0
	for seed := range 30 {
		store, roots := history(t, seed*7919)
		for i := range len(roots) * len(roots) * len(roots) {
			if i*31%11 != seed%11 {
				continue
			}
			r := threeRoots{store, roots[i%len(roots)], roots[i/len(roots)%len(roots)], roots[i/len(roots)/len(roots)]}
			got := mergeOf(t, r)
			if !got.ok {
				not++
				if !got.equal(mergeStays(r)) {
					t.Fatalf("MergeRoots(%v, %d, %d, %d) is %v", r.store, r.before, r.a, r.b, got)
				}
				continue
			}
			possible++
			if len(got.told) > 0 {
				told++
			}
			many += checkPromise(t, r, got)
		}
	}
	if possible < 2000 || not > possible/4 || told < 150 || many < 8000 {
		t.Fatalf("%d merges are possible, %d are not, of %d paths are told, and %d files are as they should be", possible, not, told, many)
	}
}

// P21: all pairs of roots that writes and drops lead to, of which one is also what was there before.
func TestWhatOneSideAloneChangedIsTaken(t *testing.T) {
	possible, not := 0, 0
	for seed := range 40 {
		store, roots := history(t, seed*7919)
		for i, before := range roots {
			for j, other := range roots {
				if (i+j+seed)%2 == 0 && i != j {
					continue
				}
				r := threeRoots{store, before, before, other}
				got := mergeOf(t, r)
				if got.ok {
					possible++
				} else {
					not++
				}
				if got.ok && (got.root != other || len(got.told) > 0 || !impl.SameFiles(got.store, got.root, other)) || !got.ok && !got.equal(mergeStays(r)) {
					t.Fatalf("from %d of %v one side went to %d: %v", before, store, other, got)
				}
				// What the first side alone changed is there already, and what both changed alike, too.
				for _, there := range []threeRoots{r.turned(), {store, before, other, other}} {
					if got := mergeOf(t, there); !got.equal(merged{changed{store, other, true}, nil}) {
						t.Fatalf("MergeRoots(%v, %d, %d, %d) is %v", store, before, there.a, there.b, got)
					}
				}
			}
		}
	}
	if possible < 800 || not > possible/4 {
		t.Fatalf("%d merges are possible, and %d are not", possible, not)
	}
}

// P21: sets of files.
func TestWhatOneSideAloneChangedOfSetsIsTaken(t *testing.T) {
	for i, sets := range setPairs() {
		if i%3 != 0 {
			continue
		}
		store, a, b := bothSets(sets[0], sets[1])
		got := checkMerge(t, threeRoots{store, a, a, b})
		if got.ok && (got.root != b || len(got.told) > 0) {
			t.Fatalf("from %v to %v: %v", sets[0], sets[1], got)
		}
		// Without files before, all files of both sides are new.
		checkMerge(t, threeRoots{store, 5, a, b})
	}
}

// If a merge is possible in both directions and nothing is told, it leads to the same root.
func TestMergesWithBothSidesExchanged(t *testing.T) {
	same, told := 0, 0
	for _, sets := range mergeSets() {
		r := threeSets(sets)
		got, turned := mergeOf(t, r), checkMerge(t, r.turned())
		slices.Sort(got.told)
		slices.Sort(turned.told)
		if !got.ok || !turned.ok {
			continue
		}
		if !slices.Equal(got.told, turned.told) || len(got.told) == 0 && got.root != turned.root {
			t.Fatalf("%v is merged to %v, and turned to %v", sets, got, turned)
		}
		if len(got.told) == 0 {
			same++
		} else {
			told++
		}
	}
	if same < 500 || told < 100 {
		t.Fatalf("%d roots are the same, and of %d paths are told", same, told)
	}
}

func TestMergesOfAllPieces(t *testing.T) {
	possible, not, told := 0, 0, 0
	stores := changeStores()
	for i, sets := range mergeSets() {
		if i%9 == 0 {
			r := threeSets(sets)
			stores = append(stores, walkStore{r.store, r.a})
		}
	}
	for i, s := range stores {
		roots := []int{-1, 5, 357, s.root + 16777213, -s.root}
		for _, piece := range s.store {
			roots = append(roots, piece.Print)
		}
		many := len(roots)
		for j := range 60 {
			seed := (7919*i + 104729*j) % 1000003
			r := threeRoots{s.store, roots[seed%many], roots[seed/7%many], roots[seed/91%many]}
			if j%3 == 0 {
				r.a = s.root
			} else if j%3 == 1 {
				r.b = s.root
			}
			got := checkMerge(t, r)
			if got.ok {
				possible++
			} else {
				not++
			}
			told += len(got.told)
		}
	}
	if possible < 5000 || not < 500 || told < 200 {
		t.Fatalf("%d merges are possible, %d are not, and %d paths are told", possible, not, told)
	}
}

// rootsBesideStore returns numbers that are not the prints of pieces of a store.
func rootsBesideStore(store []impl.Piece, root int) []int {
	list := append([]int{0, 1, 5, 357, root + 1, root - 1, -root, root + 16777213, root - 16777213, root + 1<<32, impl.MaxPrint}, otherPrints...)
	list = append(list, numbersOfNoFile...)
	texts := textsByPrint(store)
	return slices.DeleteFunc(list, func(n int) bool {
		_, there := texts[n]
		return there
	})
}

func TestMergesOfRootsThatAreNotInTheStore(t *testing.T) {
	r := threeSets([3]files{setOf("/a=f1 /b/x=f2 /c=f3"), setOf("/a=f1 /b/x=f4 /d=f5"), setOf("/a=f6 /b/x=f2")})
	rootOf := func(text string) int { return walkStoreOf(setOf(text)).root }
	wrong := rootsBesideStore(r.store, r.a)
	for i, none := range wrong {
		other, third := wrong[len(wrong)-1-i], wrong[i*5%len(wrong)]
		// Nothing was there before, so the files of both sides are new.
		checkMerged(t, threeRoots{r.store, none, r.a, r.b}, rootOf("/a=f1 /b/x=f4 /d=f5"), "/a", "/b/x")
		checkMerged(t, threeRoots{r.store, none, r.b, r.a}, rootOf("/a=f6 /b/x=f2 /d=f5"), "/a", "/b/x")
		checkMerged(t, threeRoots{r.store, none, r.a, r.a}, r.a)
		// The first side dropped all files: what the second one did not change is gone, and what it changed is told. New files cannot be written.
		checkMerged(t, threeRoots{r.store, r.before, none, r.b}, none, "/a")
		checkMerged(t, threeRoots{r.store, r.b, none, r.b}, none)
		checkNotMerged(t, threeRoots{r.store, r.before, none, r.a})
		// The second side dropped all files.
		checkMerged(t, threeRoots{r.store, r.before, r.a, none}, rootOf("/b/x=f4 /d=f5"), "/b/x")
		checkMerged(t, threeRoots{r.store, r.before, r.b, none}, rootOf("/a=f6"), "/a")
		checkMerged(t, threeRoots{r.store, r.b, r.b, none}, 357)
		// Two or all of them have no files.
		checkNotMerged(t, threeRoots{r.store, none, other, r.b})
		checkNotMerged(t, threeRoots{r.store, none, none, r.b})
		checkMerged(t, threeRoots{r.store, none, r.a, other}, r.a)
		checkMerged(t, threeRoots{r.store, none, r.a, none}, r.a)
		checkMerged(t, threeRoots{r.store, r.before, none, other}, none)
		checkMerged(t, threeRoots{r.store, r.before, none, none}, none)
		checkMerged(t, threeRoots{r.store, none, other, third}, other)
		checkMerged(t, threeRoots{r.store, none, none, none}, none)
		checkMerged(t, threeRoots{nil, none, other, third}, other)
		checkMerged(t, threeRoots{[]impl.Piece{}, third, none, none}, none)
	}
}

// The print of a file, or of a text that is neither, is a root without files, to which nothing can be written. The folder without entries is one to which files can be written.
func TestMergesOfRootsWithoutFiles(t *testing.T) {
	r := threeSets([3]files{setOf("/a=f1 /b=f2"), setOf("/a=f3 /b=f2 /c=f4"), {}}, "fhi", "hi", "", "da=07;", "aagjux", "dz=167;")
	for _, text := range []string{"f1", "fhi", "hi", "", "da=07;", "aagjux", "dz=167;", "d"} {
		none := wantedPrint(text)
		checkMerged(t, threeRoots{r.store, none, r.a, none}, r.a)
		checkMerged(t, threeRoots{r.store, r.before, none, none}, none)
		checkMerged(t, threeRoots{r.store, r.before, none, r.before}, none)
		checkMerged(t, threeRoots{r.store, none, none, none}, none)
		checkMerged(t, threeRoots{r.store, r.before, r.a, none}, walkStoreOf(setOf("/a=f3 /c=f4")).root, "/a")
		checkMerged(t, threeRoots{r.store, none, r.before, r.a}, walkStoreOf(setOf("/a=f1 /b=f2 /c=f4")).root, "/a")
		checkMerged(t, threeRoots{r.store, 5, r.a, none}, r.a)
		if text == "d" {
			checkMerged(t, threeRoots{r.store, none, none, r.a}, r.a)
			checkMerged(t, threeRoots{r.store, r.before, none, r.a}, walkStoreOf(setOf("/c=f4")).root, "/a")
			continue
		}
		if text == "dz=167;" {
			checkMerged(t, threeRoots{r.store, none, none, r.before}, wantedPrint("da="+hexOf("f1")+";b="+hexOf("f2")+";z=167;"))
			continue
		}
		checkNotMerged(t, threeRoots{r.store, none, none, r.before})
		checkNotMerged(t, threeRoots{r.store, 5, none, r.a})
		checkNotMerged(t, threeRoots{r.store, r.before, none, r.a})
	}
	// What a root without files names stays beside what is written, as the first side has it.
	want := wantedPrint("da=" + hexOf("f1") + ";b=" + hexOf("f2") + ";c=167;")
	with := threeSets([3]files{{}, setOf("/c=dq=5;"), setOf("/a=f1 /b=f2")})
	checkMerged(t, with, walkStoreOf(setOf("/a=f1 /b=f2 /c=dq=5;")).root)
	missing := threeRoots{storeOf(append(textsOf(with.store), "dc=167;")...), 357, wantedPrint("dc=167;"), with.b}
	checkMerged(t, missing, want)
	// A name of a print that is not in the store is in the way of a file.
	checkNotMerged(t, threeRoots{storeOf(append(textsOf(with.store), "da=167;")...), 357, wantedPrint("da=167;"), with.b})
}

func TestMergesWithMissingPieces(t *testing.T) {
	fewer, possible := 0, 0
	for i, sets := range mergeSets() {
		if i%43 != 0 {
			continue
		}
		r := threeSets(sets)
		whole := checkMerge(t, r)
		for _, left := range manyLeft(r.store) {
			got := checkMerge(t, threeRoots{left, r.before, r.a, r.b})
			if got.ok {
				possible++
			}
			if got.ok && whole.ok && (got.root != whole.root || !slices.Equal(got.told, whole.told)) {
				fewer++
			}
		}
	}
	if fewer < 100 || possible < 300 {
		t.Fatalf("with missing pieces %d merges are possible, and %d are other ones", possible, fewer)
	}
}

// The prints of all files are those in the store that is given, also if a text is put later that one of the roots misses.
func TestPrintsAreThoseInTheGivenStore(t *testing.T) {
	folderOf := func(files ...string) string {
		text := "d"
		for _, file := range files {
			name, of, _ := strings.Cut(file, "=")
			text += name + "=" + hexOf(of) + ";"
		}
		return text
	}
	// Dropping /m/a puts the folder that only has the file /m/b, and that one of the roots also has at another name, before or after m.
	folder, full := folderOf("b=f4"), folderOf("a=f3", "b=f4")
	two, other, more := folderOf("b=f4", "x=f5"), folderOf("b=f9"), folderOf("b=f4", "z=f1")
	type known struct {
		before, a, b []string
		merged, told string
	}
	var list []known
	for _, name := range []string{"c", "n"} {
		with := func(of string, rest ...string) []string {
			return slices.Sorted(slices.Values(append(rest, name+"="+of)))
		}
		at := "/" + name
		list = append(list,
			known{with(folder, "m="+full), with(two, "m="+full), with(other, "m="+more), at + "/b=f4 " + at + "/x=f5 /m/b=f4 /m/z=f1", at + "/b"},
			known{[]string{"m=" + full}, with(other, "m="+full), with(folder), at + "/b=f9", ""},
			known{[]string{"m=" + full}, []string{"m=" + full, "x=f1"}, with(folder, "x=f1"), "/x=f1", ""},
			known{[]string{"m=" + full}, []string{"m=" + full, "x=f1"}, with(folder, "a=f3", "x=f1"), "/a=f3 /x=f1", ""},
			known{[]string{"m=" + full}, with(folder, "m="+full), with(other, "m="+more), at + "/b=f9 /m/b=f4 /m/z=f1", ""},
			known{[]string{"m=" + full}, with(folder, "m="+full), []string{"m=" + more}, at + "/b=f4 /m/b=f4 /m/z=f1", ""})
	}
	for _, x := range list {
		before, a, b := folderOf(x.before...), folderOf(x.a...), folderOf(x.b...)
		store := storeOf(before, a, b, full, two, other, more, "f1", "f3", "f4", "f5", "f9")
		r := threeRoots{store, wantedPrint(before), wantedPrint(a), wantedPrint(b)}
		if _, there := impl.GetText(store, wantedPrint(folder)); there {
			t.Fatalf("%q is in %v", folder, store)
		}
		checkMerged(t, r, walkStoreOf(setOf(x.merged)).root, strings.Fields(x.told)...)
		got := checkMerge(t, r)
		if _, there := impl.GetText(got.store, wantedPrint(folder)); !there {
			t.Fatalf("%q is not in %v", folder, got)
		}
	}
}

// contentsAlike returns pairs of contents that are alike: with the same print, and of files whose prints differ by a power of two or have the same last digits.
func contentsAlike() [][2]string {
	pairs := [][2]string{{"hi", otherText("hi")}, {"", otherText("")}, {"f", otherText("f")}, {"da=7;", otherText("da=7;")}}
	for _, modulus := range []int{1 << 8, 1 << 12, 1 << 16, 100, 1000, 10000} {
		seen := map[int]string{}
		for n := 0; ; n++ {
			content := "n" + strconv.Itoa(n*n)
			last := wantedPrint("f"+content) % modulus
			if old, there := seen[last]; there && old != content {
				pairs = append(pairs, [2]string{old, content})
				break
			}
			seen[last] = content
		}
	}
	return pairs
}

func TestMergesOfFilesThatAreAlike(t *testing.T) {
	for _, pair := range contentsAlike() {
		for number := range 27 {
			sets := [3]files{{"/b": "f1"}, {"/b": "f1"}, {"/b": "f1"}}
			for i, n := range []int{number % 3, number / 3 % 3, number / 9} {
				if n > 0 {
					sets[i]["/a/a"] = "f" + pair[n-1]
				}
			}
			checkSets(t, sets)
		}
	}
}

func TestMergesOfFoldersThatLeadToThemselves(t *testing.T) {
	for _, s := range loops() {
		with := walkStore{storeOf(append(textsOf(s.store), "f1", "f2", "dx="+hexOf("f1")+";", "dx="+hexOf("f2")+";", "d")...), s.root}
		for _, before := range with.store {
			for _, other := range with.store {
				for _, r := range []threeRoots{{with.store, before.Print, s.root, other.Print}, {with.store, before.Print, other.Print, s.root}, {with.store, s.root, before.Print, other.Print}} {
					checkMerge(t, r)
				}
			}
		}
	}
	// The files are at /x, /a/x and /a/a/x, and each of them is changed for itself.
	loop := "da=581e14;x=6a383b;"
	r := threeSets([3]files{setOf("/x=fhi /a/x=fhi /a/a/x=fhi"), setOf("/x=fhi /a/x=fhi /a/a/x=fhi"), setOf("/x=fnew /a/a/x=fhi")}, loop)
	got := checkMerge(t, threeRoots{r.store, r.before, wantedPrint(loop), r.b})
	if files := wholeContents(got.store, got.root); !got.ok || len(got.told) > 0 || !maps.Equal(files, map[string]string{"/x": "new", "/a/a/x": "hi"}) {
		t.Fatalf("a loop is merged to %v with %v", got, files)
	}
	checkMerged(t, threeRoots{r.store, wantedPrint(loop), r.a, r.b}, r.b)
	checkMerged(t, threeRoots{r.store, r.b, r.b, wantedPrint(loop)}, r.a)
}

// Another text with the print of one that is missing is no file and no folder, and is in the way of one that is put.
func TestMergesWithOtherTextsOfTheSamePrint(t *testing.T) {
	many := 0
	for i, sets := range mergeSets() {
		if i%23 != 0 {
			continue
		}
		r := threeSets(sets)
		got := checkMerge(t, r)
		for j, piece := range r.store {
			if (i+j)%3 != 0 {
				continue
			}
			other := storeOf(append(textsOf(without(r.store, j)), otherText(piece.Text))...)
			checkMerge(t, threeRoots{other, r.before, r.a, r.b})
		}
		if !got.ok || len(got.store) == 40 {
			continue
		}
		for _, text := range newTexts(got.store, r.store) {
			many++
			checkNotMerged(t, threeRoots{storeOf(append(textsOf(r.store), otherText(text))...), r.before, r.a, r.b})
		}
	}
	if many < 60 {
		t.Fatalf("only %d texts are put", many)
	}
}

// A merge is possible as long as there is room for all texts that it puts, and otherwise nothing is put, and nothing is told.
func TestMergesWithLittleRoom(t *testing.T) {
	possible, not, full := 0, 0, 0
	for i, sets := range mergeSets() {
		if i%11 != 0 {
			continue
		}
		r := threeSets(sets)
		got := checkMerge(t, r)
		texts := newTexts(got.store, r.store)
		if !got.ok {
			continue
		}
		for room := range len(texts) + 2 {
			with := crowded(walkStore{r.store, r.a}, room)
			now := checkMerge(t, threeRoots{with.store, r.before, r.a, r.b})
			if now.ok != (room >= len(texts)) {
				t.Fatalf("%v puts %q, and with room for %d: %v", sets, texts, room, now)
			}
			if !now.ok {
				not++
				continue
			}
			possible++
			if now.root != got.root || !slices.Equal(now.told, got.told) {
				t.Fatalf("%v is merged to %v, and with room for %d to %v", sets, got, room, now)
			}
			if len(now.store) == 40 {
				full++
			}
		}
		// What is there already needs no room.
		with := crowded(walkStore{got.store, got.root}, 0)
		checkMerged(t, threeRoots{with.store, r.before, r.a, r.b}, got.root, got.told...)
	}
	if possible < 100 || not < 100 || full < 60 {
		t.Fatalf("%d merges are possible, %d are not, and %d lead to full stores", possible, not, full)
	}
}

func TestKnownMergesWithLittleRoom(t *testing.T) {
	known := []struct {
		before, a, b string
		texts        int
		told         string
	}{
		{"/a=f1", "/a=f2", "/a=f3", 0, "/a"}, {"/a=f1", "/a=f1", "/a=f3", 0, ""}, {"/a=f1 /b=f1", "/a=f2 /b=f1", "/a=f1 /b=f3", 1, ""}, {"/a=f1 /b=f1", "/a=f2 /b=f1", "/a=f3 /b=f4", 1, "/a"},
		{"/x/a=f1 /x/b=f1", "/x/a=f2 /x/b=f1", "/x/a=f1 /x/b=f3", 2, ""}, {"/a=f1 /b=f1 /c=f1", "/a=f1 /b=f1 /c=f2", "/a=f3 /b=f3 /c=f1", 2, ""}, {"/a=f1 /b=f1 /c=f1", "/a=f1 /b=f1 /c=f2", "", 2, "/c"}, {"/a=f1", "/a=f1", "", 0, ""},
		{"/a=f1 /b=f1", "/a=f1", "/b=f1", 1, ""}, {"/a=f1 /x/y/z=f1", "/a=f2 /x/y/z=f1", "/a=f3 /x/y/z=f4", 1, "/a"}, {"/x/y/z=f1 /x/y/w=f2", "/x/y/z=f1 /x/y/w=f3", "/x/y/z=f4 /x/y/w=f5", 3, "/x/y/w"},
	}
	for _, x := range known {
		sets := [3]files{setOf(x.before), setOf(x.a), setOf(x.b)}
		r, told := threeSets(sets), strings.Fields(x.told)
		set, _ := mergedSet(sets)
		for room := range x.texts + 3 {
			with := threeRoots{crowded(walkStore{r.store, r.a}, room).store, r.before, r.a, r.b}
			if room < x.texts {
				checkNotMerged(t, with)
			} else {
				checkMerged(t, with, walkStoreOf(set).root, told...)
			}
		}
	}
}

func TestMergesOfFoldersWithMaxEntries(t *testing.T) {
	for _, above := range []string{"", "/x", "/x/y"} {
		at := func(text string) files { return setOf(strings.ReplaceAll(text, "/", above+"/")) }
		known := []struct{ before, a, b string }{
			{"/b=f1 /d=f1 /f=f1", "/b=f1 /d=f2 /f=f1", "/a=f1 /c=f1 /d=f1"}, {"/b=f1 /d=f1 /f=f1", "/b=f1 /d=f1 /f=f1", "/a=f1 /c=f1 /e=f1"}, {"/b=f1 /d=f1 /f=f1", "/b=f1 /d=f1 /g=f1", "/a=f1 /d=f1 /f=f1"}, {"/b=f1 /d=f1 /f=f1", "/d=f1", "/a=f1 /b=f1 /f=f1"},
			{"/b=f1 /d=f1", "/a=f1 /b=f1 /d=f1", "/b=f1 /d=f1 /e=f1"}, {"/b=f1 /d=f1", "/a=f1 /b=f1 /d=f1", "/b=f1 /e=f1"}, {"/b=f1 /d=f1", "/a=f1 /b=f1 /d=f1", "/e=f1"}, {"/b=f1 /d=f1", "/a=f1 /b=f1 /d=f1", "/e=f1 /f=f1"}, {"/b=f1 /d=f1", "/a=f1 /b=f1 /d=f1", "/e=f1 /f=f1 /g=f1"},
			{"/b=f1 /d=f1", "/a=f1 /b=f2 /d=f1", "/e=f1 /f=f1"}, {"/b=f1 /d=f1", "/a=f1 /b=f2 /d=f1", "/e=f1"}, {"", "/a=f1 /b=f1 /c=f1", "/a=f1 /b=f2 /c=f1"}, {"", "/a=f1 /b=f1", "/a=f2 /c=f1"}, {"", "/a=f1 /b=f1", "/b=f2 /c=f1 /d=f1"},
		}
		for i, x := range known {
			sets := [3]files{at(x.before), at(x.a), at(x.b)}
			want := i != 4 && i != 8 && i != 9 && i != 13
			if got := checkSets(t, sets); got != want {
				t.Fatalf("%v is merged: %v", sets, got)
			}
		}
	}
}

// A merge may have more changes than can be carried at once, but there is no room for so many new roots.
func TestMergesOfManyFiles(t *testing.T) {
	a, b := manyFiles("fone", "a", "b", "c"), manyFiles("ftwo", "a", "b", "c")
	c, d := manyFiles("fone", "a", "b", "d"), manyFiles("fone", "x", "y", "z")
	none := files{}
	for _, sets := range [][3]files{{a, a, b}, {a, a, d}, {d, d, a}, {b, b, d}, {a, a, c}, {c, c, a}, {none, none, a}, {d, d, none}} {
		r := threeSets(sets)
		got := checkMerge(t, r)
		changes := len(impl.ChangesOf(r.store, r.a, r.b))
		if got.ok && got.root != r.b || changes > 30 && !got.equal(mergeStays(r)) {
			t.Fatalf("%d changes: %v", changes, got)
		}
		checkMerged(t, r.turned(), r.b)
		checkMerged(t, threeRoots{r.store, r.before, r.a, r.a}, r.a)
	}
	// All files are told, also more than can be carried.
	r := threeSets([3]files{c, a, b})
	checkMerged(t, threeRoots{r.store, 5, r.a, r.b}, r.a, inOrder(a)...)
	checkMerged(t, threeRoots{r.store, 5, r.b, r.a}, r.b, inOrder(a)...)
	checkMerged(t, threeRoots{r.store, r.a, 5, r.b}, 5, inOrder(a)...)
	// In each folder both sides have two new files, and each of them changed one that the other one dropped.
	many := [3]files{{}, {}, {}}
	for path := range a {
		for i, names := range []string{"ef", "abe", "abf"} {
			for _, name := range names {
				many[i][path[:4]+"/"+string(name)] = "f" + strconv.Itoa(i)
			}
		}
	}
	told := bothPaths(many[1], many[2])
	if with := threeSets(many); len(told) != 36 {
		t.Fatalf("%d paths: %q", len(told), told)
	} else {
		checkMerged(t, with, with.a, told...)
	}
}

func TestStoresThatAreNotValidAreNotMerged(t *testing.T) {
	check := func(store []impl.Piece, roots ...int) {
		t.Helper()
		if impl.StoreValid(store) {
			t.Fatalf("%v is valid", store)
		}
		for i, before := range roots {
			for j, a := range roots {
				r := threeRoots{store, before, a, roots[(i+2*j)%len(roots)]}
				if got := mergeOf(t, r); !got.equal(mergeRefused) {
					t.Fatalf("MergeRoots(%v, %d, %d, %d) is %v", store, r.before, r.a, r.b, got)
				}
			}
		}
	}
	for _, store := range otherStores() {
		roots := []int{0, 357, -1}
		for _, piece := range store[:min(3, len(store))] {
			roots = append(roots, piece.Print)
		}
		check(store, roots...)
	}
	r := threeSets([3]files{setOf("/a=f1 /b/x=f2"), setOf("/a=f3 /b/x=f2"), setOf("/a=f4 /b/x=f5")}, "x", "aagjuw")
	for _, store := range wronged(r.store) {
		check(store, r.before, r.a, r.b, -1, 5)
	}
	beyond, a, b := bothSets(fullTree(), files{"/a": "f1", "/b/x": "f2"})
	check(beyond, a, b, 357, 5)
}

func TestResultsOfMergesAreNew(t *testing.T) {
	for i, sets := range mergeSets() {
		if i%13 != 0 {
			continue
		}
		r := threeSets(sets)
		for _, three := range []threeRoots{r, {r.store, 5, r.a, r.b}, {r.store, r.before, 5, r.b}, {r.store, r.a, r.a, r.a}, {crowded(walkStore{r.store, r.a}, 0).store, r.before, r.a, r.b}} {
			given, whole := withRoom(three.store)
			before := slices.Clone(whole)
			first, _, told, _ := impl.MergeRoots(given, three.before, three.a, three.b)
			want, wantTold := slices.Clone(first), slices.Clone(told)
			second, _, again, _ := impl.MergeRoots(given, three.before, three.a, three.b)
			spoil(second)
			clear(again[:cap(again)])
			if !slices.Equal(first, want) || !slices.Equal(told, wantTold) || !slices.Equal(whole, before) {
				t.Fatalf("a result of MergeRoots(%v, %d, %d, %d) shares memory, or is written to the store", three.store, three.before, three.a, three.b)
			}
			spoil(whole)
			if !slices.Equal(first, want) || !slices.Equal(told, wantTold) {
				t.Fatalf("a result of MergeRoots(%v, %d, %d, %d) shares memory with the store", three.store, three.before, three.a, three.b)
			}
		}
	}
}
