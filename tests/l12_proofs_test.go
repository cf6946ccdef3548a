package tests

import (
	"maps"
	"regexp"
	"slices"
	"strings"
	"testing"

	"loop.example/proofarchive/impl"
)

var textPattern = regexp.MustCompile(`\A[ -~]{0,60}\z`)

// keptPrints has what printOrNone has returned, because big numbers are slow and the same texts come again and again.
var keptPrints = map[string]int{}

// printOrNone returns the print of a text, and -1 for one that is not valid, in another way than the program does.
func printOrNone(text string) int {
	print, kept := keptPrints[text]
	if !kept {
		print = -1
		if textPattern.MatchString(text) {
			print = wantedPrint(text)
		}
		keptPrints[text] = print
	}
	return print
}

// keptTexts has what otherText has returned.
var keptTexts = map[string]string{}

// otherText returns another text with the print of a text (sameText).
func otherText(text string) string {
	if _, kept := keptTexts[text]; !kept {
		keptTexts[text] = sameText(text)
	}
	return keptTexts[text]
}

// leadsUp tells whether texts are on the way of names from a root, in another way than the program does: from the last one up.
func leadsUp(root int, parts, proof []string) bool {
	for i := len(proof) - 1; i > 0; i-- {
		entries, _ := wantedRead(proof[i-1])
		if !slices.Contains(entries, impl.Entry{Name: parts[i-1], Print: printOrNone(proof[i])}) {
			return false
		}
	}
	return printOrNone(proof[0]) == root
}

// wantedRight tells whether texts prove that a path leads somewhere.
func wantedRight(root int, path string, proof []string) bool {
	parts, ok := wantedParts(path)
	return ok && len(proof) == len(parts)+1 && leadsUp(root, parts, proof)
}

// wantedAbsent tells whether texts prove that a path leads nowhere.
func wantedAbsent(root int, path string, proof []string) bool {
	parts, ok := wantedParts(path)
	if !ok || len(proof) < 1 || len(proof) > len(parts) || !leadsUp(root, parts, proof) {
		return false
	}
	entries, folder := wantedRead(proof[len(proof)-1])
	_, there := mapOf(entries)[parts[len(proof)-1]]
	return folder && !there
}

// wantedWay returns the texts to which all beginnings of a path lead, as far as they lead somewhere, in another way than the program does: by all paths of the root.
func wantedWay(s walkStore, path string) []string {
	parts, ok := wantedParts(path)
	if !ok {
		return nil
	}
	walks, texts := wantedWalks(s.store, s.root), textsByPrint(s.store)
	var way []string
	for many := range len(parts) + 1 {
		if print, leads := walks["/"+strings.Join(parts[:many], "/")]; leads {
			way = append(way, texts[print])
		}
	}
	return way
}

// wantedProofs returns what proves that a path leads somewhere, and what proves that it leads nowhere.
func wantedProofs(s walkStore, path string) (proof, absence []string) {
	way := wantedWay(s, path)
	parts, _ := wantedParts(path)
	if len(way) == 0 || len(way) > len(parts) {
		return way, nil
	}
	entries, folder := wantedRead(way[len(way)-1])
	if _, named := mapOf(entries)[parts[len(way)-1]]; named || !folder {
		return nil, nil
	}
	return nil, way
}

// checkProofs compares the proofs of a path with those that it should have.
func checkProofs(t *testing.T, s walkStore, path string, proof, absence []string) {
	t.Helper()
	if got := impl.PathProof(s.store, s.root, path); !slices.Equal(got, proof) {
		t.Fatalf("PathProof(%v, %d, %q) is %q, not %q", s.store, s.root, path, got, proof)
	}
	if got := impl.AbsenceProof(s.store, s.root, path); !slices.Equal(got, absence) {
		t.Fatalf("AbsenceProof(%v, %d, %q) is %q, not %q", s.store, s.root, path, got, absence)
	}
}

// checkTexts compares what texts prove with what they should prove: that a path leads somewhere, with the content of a file, or that it leads nowhere.
func checkTexts(t *testing.T, root int, path string, proof []string, right bool, content string, file, absent bool) {
	t.Helper()
	if got := impl.ProofRight(root, path, proof); got != right {
		t.Fatalf("ProofRight(%d, %q, %q) is %v", root, path, proof, got)
	}
	if got, ok := impl.ProofContent(root, path, proof); got != content || ok != file {
		t.Fatalf("ProofContent(%d, %q, %q) is %q, %v", root, path, proof, got, ok)
	}
	if got := impl.AbsenceRight(root, path, proof); got != absent {
		t.Fatalf("AbsenceRight(%d, %q, %q) is %v", root, path, proof, got)
	}
}

// checkAnyTexts does this for any texts, and tells whether they prove something.
func checkAnyTexts(t *testing.T, root int, path string, proof []string) bool {
	t.Helper()
	right, absent := wantedRight(root, path, proof), wantedAbsent(root, path, proof)
	content, file := "", false
	if right {
		content, file = wantedFile(proof[len(proof)-1])
	}
	checkTexts(t, root, path, proof, right, content, file, absent)
	return right || absent
}

// checkNothing checks that texts prove nothing.
func checkNothing(t *testing.T, root int, path string, proof []string) {
	t.Helper()
	checkTexts(t, root, path, proof, false, "", false, false)
}

// proofStores returns stores with roots: changeStores, and some of which the folders have names of which the pieces are missing, and the same texts at several places.
func proofStores() []walkStore {
	return append(changeStores(),
		walkStoreOf(map[string]string{"/a/b": "fsame", "/b/b": "fsame", "/c/b": "fother"}), walkStoreOf(map[string]string{"/a/a/a": "fsame", "/a/b/a": "fsame", "/b/a/a": "fsame"}),
		walkStoreOf(map[string]string{"/a": "dx=5;", "/b/a": "dx=5;y=6a383b;", "/b/b/c": "d"}), walkStoreOf(map[string]string{"/a/b": "hi", "/b": "da=07;", "/c/a/a": ""}),
		walkStore{storeOf("da=1;b=165;c=5;", "", "d"), wantedPrint("da=1;b=165;c=5;")})
}

// proofPaths returns changePaths, and all paths that lead somewhere, each also with one and two names more.
func proofPaths(s walkStore) []string {
	paths := changePaths(s)
	for path := range wantedWalks(s.store, s.root) {
		for _, more := range []string{"/q", "/q/a", "/a0"} {
			paths = append(paths, path, strings.TrimSuffix(path, "/")+more)
		}
	}
	slices.Sort(paths)
	return slices.Compact(paths)
}

// rootsBeside returns roots that are not the given one.
func rootsBeside(root int) []int {
	roots := append([]int{0, 1, 357, 359, root + 1, root - 1, -root, -root - 1, root + 16777213, root - 16777213, root + 1<<24, root + 1<<32, impl.MaxPrint, -1}, otherPrints...)
	for power := range 32 {
		roots = append(roots, root^1<<power)
	}
	for power := 10; power < impl.MaxPrint; power *= 10 {
		roots = append(roots, root+power, root-power, root/power, root%power)
	}
	return slices.DeleteFunc(roots, func(other int) bool { return other == root })
}

// wrongedProof returns the texts of a proof with one thing wrong each: one less, one more, turned, exchanged, empty, or not valid.
func wrongedProof(proof []string) [][]string {
	list := [][]string{nil, {}, {""}, append(slices.Clone(proof), proof...), slices.Repeat(proof, 3)}
	signs := []string{"", "d", "f", "fhi", "hi", "\n", "\xff", loopText, strings.Repeat("x", 61)}
	for i := 0; i <= len(proof); i++ {
		list = append(list, proof[:i], proof[i:])
		for _, text := range append(signs, proof...) {
			list = append(list, slices.Insert(slices.Clone(proof), i, text))
		}
	}
	for i, text := range proof {
		list = append(list, slices.Delete(slices.Clone(proof), i, i+1))
		for _, other := range slices.Concat(signs, proof, []string{text + "\n", "\n" + text, text + " ", text + ";", "f" + text, text[:max(len(text)-1, 0)], otherText(text), strings.ToUpper(text), "d" + text, turnedText(text)}) {
			with := slices.Clone(proof)
			with[i] = other
			list = append(list, with)
		}
	}
	for i := range proof {
		for j := range i {
			with := slices.Clone(proof)
			with[i], with[j] = with[j], with[i]
			list = append(list, with)
		}
	}
	turned := slices.Clone(proof)
	slices.Reverse(turned)
	return append(list, turned)
}

func turnedText(text string) string {
	signs := []byte(text)
	slices.Reverse(signs)
	return string(signs)
}

// pathsBeside returns a path, the ones above it, ones below it, ones with another name in place of each, and texts that are no paths.
func pathsBeside(path string) []string {
	parts := strings.Split(path[1:], "/")
	if path == "/" {
		parts = nil
	}
	list := []string{path, "", "/", path + "/", path + "/a", path + "/b", path + "/a/a", path + "//", path + "\n", path[1:], "/" + path, strings.ToUpper(path)}
	for i := range parts {
		list = append(list, "/"+strings.Join(parts[:i], "/"), "/"+strings.Join(parts[i:], "/"))
		for _, name := range []string{"a", "b", "c", "q"} {
			with := slices.Clone(parts)
			with[i] = name
			list = append(list, "/"+strings.Join(with, "/"))
		}
	}
	slices.Sort(list)
	return slices.Compact(list)
}

func TestKnownProofsOfPaths(t *testing.T) {
	store := storeOf("fhi", "f", "d", "hi", "", "db=6a383b;", "da=401d6a;", "dc=6a383b;", "db=e4112;", "da=df0aa4;", "dx=5;", "da=1;", "da=165;f=167;")
	none := []string(nil)
	one, two, three := []string{"da=401d6a;", "db=6a383b;", "fhi"}, []string{"da=165;f=167;"}, []string{"da=df0aa4;", "db=e4112;", "dc=6a383b;", "fhi"}
	known := []struct {
		text, path     string
		proof, absence []string
		content        string
		file           bool
	}{
		{"fhi", "/", []string{"fhi"}, none, "hi", true}, {"fhi", "/f", none, none, "", false}, {"fhi", "/hi/a", none, none, "", false},
		{"f", "/", []string{"f"}, none, "", true}, {"f", "/f", none, none, "", false},
		{"hi", "/", []string{"hi"}, none, "", false}, {"hi", "/hi", none, none, "", false}, {"", "/", []string{""}, none, "", false}, {"", "/a", none, none, "", false},
		{"d", "/", []string{"d"}, none, "", false}, {"d", "/a", none, []string{"d"}, "", false}, {"d", "/a/b/c", none, []string{"d"}, "", false}, {"d", "/d", none, []string{"d"}, "", false},
		{"da=401d6a;", "/", one[:1], none, "", false}, {"da=401d6a;", "/a", one[:2], none, "", false}, {"da=401d6a;", "/a/b", one, none, "hi", true},
		{"da=401d6a;", "/b", none, one[:1], "", false}, {"da=401d6a;", "/b/b", none, one[:1], "", false}, {"da=401d6a;", "/aa/a/b", none, one[:1], "", false},
		{"da=401d6a;", "/a/a", none, one[:2], "", false}, {"da=401d6a;", "/a/c/d", none, one[:2], "", false}, {"da=401d6a;", "/a/bb", none, one[:2], "", false},
		// A file on the way: neither that something is there nor that nothing is there can be proved.
		{"da=401d6a;", "/a/b/c", none, none, "", false}, {"da=401d6a;", "/a/b/b", none, none, "", false}, {"da=401d6a;", "/a/b/hi", none, none, "", false},
		{"da=df0aa4;", "/a/b/c", three, none, "hi", true}, {"da=df0aa4;", "/a/b", three[:3], none, "", false}, {"da=df0aa4;", "/a/b/d", none, three[:3], "", false}, {"da=df0aa4;", "/a/b/b", none, three[:3], "", false},
		{"da=df0aa4;", "/a/c", none, three[:2], "", false}, {"da=df0aa4;", "/a/c/c", none, three[:2], "", false}, {"da=df0aa4;", "/b", none, three[:1], "", false}, {"da=df0aa4;", "/b/b/c", none, three[:1], "", false},
		// A name with a print that is not in the store.
		{"dx=5;", "/x", none, none, "", false}, {"dx=5;", "/x/x", none, none, "", false}, {"dx=5;", "/a", none, []string{"dx=5;"}, "", false}, {"dx=5;", "/a/x", none, []string{"dx=5;"}, "", false},
		// The empty text, which has the print 1, is neither a file nor a folder.
		{"da=1;", "/a", []string{"da=1;", ""}, none, "", false}, {"da=1;", "/a/a", none, none, "", false}, {"da=1;", "/b", none, []string{"da=1;"}, "", false},
		// A folder without entries, and a file without bytes.
		{"da=165;f=167;", "/a", []string{"da=165;f=167;", "d"}, none, "", false}, {"da=165;f=167;", "/a/a", none, []string{"da=165;f=167;", "d"}, "", false}, {"da=165;f=167;", "/a/f/f", none, []string{"da=165;f=167;", "d"}, "", false},
		{"da=165;f=167;", "/f", []string{"da=165;f=167;", "f"}, none, "", true}, {"da=165;f=167;", "/f/f", none, none, "", false}, {"da=165;f=167;", "/d", none, two, "", false},
		// No paths.
		{"da=401d6a;", "", none, none, "", false}, {"da=401d6a;", "a", none, none, "", false}, {"da=401d6a;", "/a/", none, none, "", false}, {"da=401d6a;", "//", none, none, "", false}, {"da=401d6a;", "/A", none, none, "", false}, {"d", "/a/b/c/d", none, none, "", false}, {"d", "/abcdefghi", none, none, "", false},
	}
	for _, x := range known {
		s := walkStore{store, wantedPrint(x.text)}
		checkProofs(t, s, x.path, x.proof, x.absence)
		checkTexts(t, s.root, x.path, x.proof, len(x.proof) > 0, x.content, x.file, false)
		checkTexts(t, s.root, x.path, x.absence, false, "", false, len(x.absence) > 0)
		proof, absence := wantedProofs(s, x.path)
		if !slices.Equal(proof, x.proof) || !slices.Equal(absence, x.absence) {
			t.Fatalf("the other way finds %q and %q for %q", proof, absence, x.path)
		}
	}
}

// P14
func TestProofsOfPathsProve(t *testing.T) {
	longs := map[int]int{}
	for _, s := range proofStores() {
		for _, path := range proofPaths(s) {
			proof := impl.PathProof(s.store, s.root, path)
			if want, _ := wantedProofs(s, path); !slices.Equal(proof, want) {
				t.Fatalf("PathProof(%v, %d, %q) is %q, not %q", s.store, s.root, path, proof, want)
			}
			print, leads := impl.WalkTo(s.store, s.root, path)
			if leads != (len(proof) > 0) || leads != impl.ProofRight(s.root, path, proof) {
				t.Fatalf("%q leads to %d, %v from %d, and its proof is %q", path, print, leads, s.root, proof)
			}
			if leads && impl.PrintOf(proof[len(proof)-1]) != print {
				t.Fatalf("%q leads to %d, and its proof is %q", path, print, proof)
			}
			longs[len(proof)]++
		}
	}
	if len(longs) != 5 || longs[0] < 5000 || min(longs[1], longs[2], longs[3], longs[4]) < 60 {
		t.Fatalf("the proofs are as long as this: %v", longs)
	}
}

// P15
func TestProofsProveWhatIsRead(t *testing.T) {
	files, others := 0, 0
	for _, s := range proofStores() {
		for _, path := range proofPaths(s) {
			content, file := impl.ReadAt(s.store, s.root, path)
			proof := impl.PathProof(s.store, s.root, path)
			if got, ok := impl.ProofContent(s.root, path, proof); got != content || ok != file {
				t.Fatalf("%q from %d is read as %q, %v, and the proof %q proves %q, %v", path, s.root, content, file, proof, got, ok)
			}
			if file {
				files++
			} else if len(proof) > 0 {
				others++
			}
		}
	}
	if files < 80 || others < 200 {
		t.Fatalf("only %d files are proved, and %d others", files, others)
	}
	for _, content := range someContents() {
		s := walkStoreOf(map[string]string{"/a": "f" + content, "/b/c": "f" + content, "/c": content})
		for _, path := range []string{"/a", "/b/c"} {
			if got, ok := impl.ProofContent(s.root, path, impl.PathProof(s.store, s.root, path)); !ok || got != content {
				t.Fatalf("%q is at %q, and %q, %v is proved", content, path, got, ok)
			}
		}
		want, file := wantedFile(content)
		if got, ok := impl.ProofContent(s.root, "/c", impl.PathProof(s.store, s.root, "/c")); ok != file || got != want {
			t.Fatalf("%q is the text at /c, and %q, %v is proved", content, got, ok)
		}
	}
}

// P16
func TestWhatIsNotThereCanBeProved(t *testing.T) {
	longs, through := map[int]int{}, 0
	for _, s := range proofStores() {
		for _, path := range proofPaths(s) {
			absence := impl.AbsenceProof(s.store, s.root, path)
			if _, want := wantedProofs(s, path); !slices.Equal(absence, want) {
				t.Fatalf("AbsenceProof(%v, %d, %q) is %q, not %q", s.store, s.root, path, absence, want)
			}
			_, leads := impl.WalkTo(s.store, s.root, path)
			if impl.AbsenceRight(s.root, path, absence) != (len(absence) > 0) || leads && len(absence) > 0 {
				t.Fatalf("%q leads somewhere from %d: %v, and its proof of absence is %q", path, s.root, leads, absence)
			}
			longs[len(absence)]++
			if !leads && len(absence) == 0 {
				through++
			}
		}
	}
	if len(longs) != 4 || longs[1] < 2000 || longs[2] < 600 || longs[3] < 100 || through < 3000 {
		t.Fatalf("the proofs of absence are as long as this: %v, and %d paths have none of both", longs, through)
	}
}

// P14, P15 and P16 for sets of files: a path leads somewhere exactly if it is that of a file or above one, and all others are proved to be absent, but for those through files.
func TestProofsOfSetsOfFiles(t *testing.T) {
	for _, set := range smallSets() {
		s := walkStoreOf(set, "d", "fbeside")
		for _, path := range append(allPaths("a", "b", "d"), "/") {
			text, file := set[path]
			folder, through := path == "/", false
			for one := range set {
				folder = folder || strings.HasPrefix(one, path+"/")
				through = through || strings.HasPrefix(path, one+"/")
			}
			proof, absence := impl.PathProof(s.store, s.root, path), impl.AbsenceProof(s.store, s.root, path)
			content, ok := impl.ProofContent(s.root, path, proof)
			if ok != file || file && "f"+content != text || impl.ProofRight(s.root, path, proof) != (file || folder) || (len(proof) > 0) != (file || folder) {
				t.Fatalf("%q of %v has the proof %q of %q, %v", path, set, proof, content, ok)
			}
			if absent := !file && !folder && !through; impl.AbsenceRight(s.root, path, absence) != absent || (len(absence) > 0) != absent {
				t.Fatalf("%q of %v has the proof of absence %q", path, set, absence)
			}
		}
	}
}

func TestEveryPieceHasProofs(t *testing.T) {
	for _, s := range proofStores() {
		paths := proofPaths(s)
		for _, piece := range s.store {
			with := walkStore{s.store, piece.Print}
			for i, path := range paths {
				if i > 30 && i%7 != 0 {
					continue
				}
				proof, absence := wantedProofs(with, path)
				checkProofs(t, with, path, proof, absence)
			}
			checkProofs(t, with, "/", []string{piece.Text}, nil)
			content, file := wantedFile(piece.Text)
			checkTexts(t, piece.Print, "/", []string{piece.Text}, true, content, file, false)
		}
	}
	// These stores have also pieces that are neither files nor folders, and the least and the greatest print.
	for _, store := range someStores() {
		for _, piece := range store {
			checkProofs(t, walkStore{store, piece.Print}, "/", []string{piece.Text}, nil)
			checkProofs(t, walkStore{store, piece.Print}, "/a", nil, nil)
			checkTexts(t, piece.Print, "/", []string{piece.Text}, true, "", false, false)
			checkNothing(t, piece.Print, "/a", []string{piece.Text})
		}
	}
}

// P74
func TestNobodyProvesForAnotherRoot(t *testing.T) {
	many := 0
	for _, s := range proofStores() {
		for _, path := range proofPaths(s) {
			proof := impl.PathProof(s.store, s.root, path)
			if len(proof) == 0 {
				continue
			}
			many++
			for _, root := range rootsBeside(s.root) {
				checkTexts(t, root, path, proof, false, "", false, false)
			}
			for _, more := range append([]string{"", "d", "fhi", "\n", loopText}, proof...) {
				for i := 0; i <= len(proof); i++ {
					checkNothing(t, s.root, path, slices.Insert(slices.Clone(proof), i, more))
				}
			}
		}
	}
	if many < 300 {
		t.Fatalf("only %d proofs", many)
	}
}

// P75
func TestProvedContentsAreContents(t *testing.T) {
	proved, wrong := 0, 0
	for _, s := range []walkStore{walkStoreOf(map[string]string{"/a/b": "fhi", "/b": "f", "/c": "d"}), walkStoreOf(map[string]string{"/a/b/a": "fone", "/a/b/b": "ftwo", "/b": "fone"}), walkStoreOf(map[string]string{"": "fhi"}), walkStoreOf(map[string]string{"/a": "fda=7;", "/b": "da=7;"})} {
		for _, path := range walkPaths(s.store) {
			proof := impl.PathProof(s.store, s.root, path)
			for _, other := range append(wrongedProof(proof), proof) {
				content, ok := impl.ProofContent(s.root, path, other)
				if !impl.ProofRight(s.root, path, other) {
					wrong++
					if ok || content != "" {
						t.Fatalf("the wrong proof %q proves %q, %v", other, content, ok)
					}
					continue
				}
				if read, file := impl.ReadFile(other[len(other)-1]); file != ok || read != content {
					t.Fatalf("%q proves %q, %v", other, content, ok)
				}
				if ok {
					proved++
				}
			}
		}
	}
	if proved < 30 || wrong < 4000 {
		t.Fatalf("only %d contents are proved, and %d proofs are wrong", proved, wrong)
	}
}

// P76
func TestNobodyProvesBoth(t *testing.T) {
	many := 0
	for _, s := range proofStores() {
		for _, path := range proofPaths(s) {
			absence := impl.AbsenceProof(s.store, s.root, path)
			if !impl.AbsenceRight(s.root, path, absence) {
				continue
			}
			many++
			checkTexts(t, s.root, path, absence, false, "", false, true)
			for _, root := range rootsBeside(s.root) {
				checkNothing(t, root, path, absence)
			}
		}
	}
	if many < 2000 {
		t.Fatalf("only %d proofs of absence", many)
	}
}

// What proves that a path leads to a folder proves also that what the folder does not name is not there, and the other way round.
func TestProofsOfOnePathForAnotherOne(t *testing.T) {
	one := []string{"da=401d6a;", "db=6a383b;", "fhi"}
	root := wantedPrint(one[0])
	known := []struct {
		path   string
		many   int
		right  bool
		absent bool
	}{
		{"/", 1, true, false}, {"/a", 1, false, false}, {"/b", 1, false, true}, {"/b/a", 1, false, true}, {"/b/a/b", 1, false, true}, {"/a/b", 1, false, false}, {"/a/c", 1, false, false}, {"/aa", 1, false, true},
		{"/", 2, false, false}, {"/a", 2, true, false}, {"/b", 2, false, false}, {"/a/b", 2, false, false}, {"/a/a", 2, false, true}, {"/a/c", 2, false, true}, {"/a/c/b", 2, false, true}, {"/a/b/c", 2, false, false},
		// The last folder does not have the next name, but it is not on the way.
		{"/b/a", 2, false, false}, {"/b/c", 2, false, false}, {"/aa/c", 2, false, false}, {"/q/c/c", 2, false, false},
		{"/a/b", 3, true, false}, {"/a/b/c", 3, false, false}, {"/a/b/b", 3, false, false}, {"/a/c", 3, false, false}, {"/a/c/b", 3, false, false}, {"/b/b", 3, false, false}, {"/b/b/c", 3, false, false}, {"/a", 3, false, false}, {"/", 3, false, false},
		{"/", 0, false, false}, {"/a", 0, false, false}, {"/b", 0, false, false}, {"/b/a/b", 0, false, false},
		{"", 1, false, false}, {"/b/", 1, false, false}, {"b", 1, false, false}, {"/B", 1, false, false}, {"/b/b/b/b", 1, false, false}, {"/a/b/", 3, false, false}, {"a/b", 3, false, false}, {"//a/b", 3, false, false}, {"/a/c/", 2, false, false},
	}
	for _, x := range known {
		content := ""
		if x.right && x.many == 3 {
			content = "hi"
		}
		checkTexts(t, root, x.path, one[:x.many], x.right, content, content != "", x.absent)
	}
}

func TestOtherPathsWithTheSameLastText(t *testing.T) {
	s := walkStoreOf(map[string]string{"/a/b": "fsame", "/b/c": "fsame", "/c": "fsame"})
	paths := []string{"/a/b", "/b/c", "/c"}
	for _, path := range paths {
		for _, other := range paths {
			proof := impl.PathProof(s.store, s.root, other)
			content, same := "", path == other
			if same {
				content = "same"
			}
			checkTexts(t, s.root, path, proof, same, content, same, false)
			// Also with as many texts, all of them from the store.
			if len(proof) == 3 {
				mixed := []string{proof[0], impl.PathProof(s.store, s.root, "/a")[1], proof[2]}
				right := path == "/a/b"
				checkTexts(t, s.root, path, mixed, right, strings.Repeat("same", strings.Count(path, "/a/b")), right, false)
			}
		}
	}
	// Where two names of a folder have the same print one proof is that of both paths.
	twice := walkStoreOf(map[string]string{"/a/b": "fsame", "/b/b": "fsame", "/c/b": "fother"})
	proof := impl.PathProof(twice.store, twice.root, "/a/b")
	checkProofs(t, twice, "/b/b", proof, nil)
	checkTexts(t, twice.root, "/b/b", proof, true, "same", true, false)
	checkNothing(t, twice.root, "/c/b", proof)
	checkTexts(t, twice.root, "/b/c", proof[:2], false, "", false, true)
	checkNothing(t, twice.root, "/c/c", proof[:2])
}

// The same text may be at several places of a way, and has to be there as often as it is named.
func TestTheSameTextAtSeveralPlaces(t *testing.T) {
	loop := walkStore{storeOf(loopText), wantedPrint(loopText)}
	for _, parts := range namesOfPaths([]string{"a", "ab", "b", "q"}) {
		path := "/" + strings.Join(parts, "/")
		missing := slices.Index(parts, "q")
		for many := range 7 {
			right, absent := missing == -1 && many == len(parts)+1, missing >= 0 && many == missing+1
			checkTexts(t, loop.root, path, slices.Repeat([]string{loopText}, many), right, "", false, absent)
			if right {
				checkProofs(t, loop, path, slices.Repeat([]string{loopText}, many), nil)
			}
			if absent {
				checkProofs(t, loop, path, nil, slices.Repeat([]string{loopText}, many))
			}
		}
	}
	for _, s := range loops() {
		for _, path := range proofPaths(s) {
			proof, absence := wantedProofs(s, path)
			checkProofs(t, s, path, proof, absence)
		}
	}
}

// wrongStores returns stores with roots of which the proofs are changed.
func wrongStores() []walkStore {
	return []walkStore{
		walkStoreOf(map[string]string{}), walkStoreOf(map[string]string{"": "fhi"}), walkStoreOf(map[string]string{"": "hi"}), walkStoreOf(map[string]string{"": ""}), walkStoreOf(map[string]string{"/a": "fhi", "/b": "d", "/c": ""}),
		walkStoreOf(map[string]string{"/a/b": "fsame", "/b/b": "fsame", "/c/b": "fother"}), walkStoreOf(map[string]string{"/a/b/c": "fhi", "/b": "f"}), walkStoreOf(map[string]string{"/a/a/b": "d", "/b/a": "hi"}),
		walkStoreOf(map[string]string{"/a/b": loopText}), {storeOf("da=581e14;x=6a383b;", "fhi"), 5774868},
	}
}

func TestWrongProofs(t *testing.T) {
	right, wrong := 0, 0
	for _, s := range wrongStores() {
		for i, path := range proofPaths(s) {
			proof, absence := wantedProofs(s, path)
			for _, texts := range [][]string{proof, absence} {
				if len(texts) == 0 || i > 24 && i%9 != 0 {
					continue
				}
				for _, other := range append(wrongedProof(texts), texts) {
					for _, beside := range pathsBeside(path) {
						for _, root := range []int{s.root, -1} {
							if checkAnyTexts(t, root, beside, other) {
								right++
							} else {
								wrong++
							}
						}
					}
				}
			}
		}
	}
	if right < 2000 || wrong < 100000 {
		t.Fatalf("%d proofs are right, and %d are wrong", right, wrong)
	}
}

// All lists of at most four of some texts as proofs of some paths, from the prints of these texts and another number on.
func TestAllShortProofs(t *testing.T) {
	texts := []string{"da=401d6a;", "db=6a383b;", "fhi", "\n", "", "da=2e5911;", "d"}
	lists := [][]string{nil}
	for begin, long := 0, 0; long < 4; long++ {
		end := len(lists)
		for ; begin < end; begin++ {
			for _, text := range texts {
				lists = append(lists, append(slices.Clone(lists[begin]), text))
			}
		}
	}
	roots := []int{5}
	for _, text := range texts {
		roots = append(roots, printOrNone(text))
	}
	right := 0
	for _, path := range []string{"/", "/a", "/b", "/a/a", "/a/b", "/b/a", "/q/a", "/a/a/a", "/a/b/a", "/a/b/b", "/a/a/q", "", "//", "/a/a/a/a"} {
		for _, proof := range lists {
			for _, root := range roots {
				if checkAnyTexts(t, root, path, proof) {
					right++
				}
			}
		}
	}
	if right < 40 {
		t.Fatalf("only %d proofs are right", right)
	}
}

// PrintOf is -1 for a text that is not valid, so the root -1 has each of them as its text; but no folder names one.
func TestProofsOfTextsThatAreNotValid(t *testing.T) {
	for _, text := range otherTexts() {
		checkTexts(t, -1, "/", []string{text}, true, "", false, false)
		for _, path := range []string{"/a", "/a/b/c", "", "//"} {
			checkNothing(t, -1, path, []string{text})
			checkNothing(t, -1, path, []string{text, text})
			checkNothing(t, -1, path, []string{text, "d"})
		}
		for _, root := range append([]int{0, 1, 357, printOrNone("da=7;"), wantedPrint(text)}, otherPrints...) {
			if root != -1 {
				checkNothing(t, root, "/", []string{text})
				checkNothing(t, root, "/a", []string{text})
			}
		}
		// Also where a folder has no print for the name, or one that would be that of the text.
		inner := []impl.Entry{{Name: "a", Print: wantedPrint(text)}, {Name: "b", Print: 0}, {Name: "c", Print: impl.MaxPrint}}
		for _, folder := range []string{wantedFolderText(inner), "d", "da=1;", "fhi", "hi", ""} {
			for _, name := range []string{"a", "b", "c", "q"} {
				checkNothing(t, printOrNone(folder), "/"+name, []string{folder, text})
				checkNothing(t, printOrNone(folder), "/"+name+"/a", []string{folder, text})
				checkNothing(t, printOrNone(folder), "/"+name+"/a", []string{folder, text, text})
			}
		}
	}
	for _, content := range otherContents() {
		checkTexts(t, printOrNone("f"+content), "/", []string{"f" + content}, true, "", false, false)
	}
	// No file and no folder, though they begin like one.
	for _, text := range []string{"f\n", "fhi\n", "da=7;\n", "d\n", "f\x00", "d\xff", "f" + strings.Repeat("x", 60), "da=7;" + strings.Repeat("b", 56)} {
		checkTexts(t, -1, "/", []string{text}, true, "", false, false)
		checkNothing(t, -1, "/q", []string{text})
		checkNothing(t, -1, "/a", []string{text, text})
	}
}

// What counts is prints: another text with the same print is proved, too, as the last one.
func TestOtherTextsWithTheSamePrint(t *testing.T) {
	s := walkStoreOf(map[string]string{"/a/b": "fbada", "/b": "d"})
	proof := impl.PathProof(s.store, s.root, "/a/b")
	checkTexts(t, s.root, "/a/b", []string{proof[0], proof[1], "fadae"}, true, "adae", true, false)
	checkTexts(t, s.root, "/a/b", []string{proof[0], proof[1], otherText("fbada")}, true, "", false, false)
	checkTexts(t, s.root, "/a", []string{proof[0], otherText(proof[1])}, true, "", false, false)
	checkTexts(t, s.root, "/", []string{otherText(proof[0])}, true, "", false, false)
	// On the way they are no folders.
	checkNothing(t, s.root, "/a/b", []string{proof[0], otherText(proof[1]), "fbada"})
	checkNothing(t, s.root, "/a/b", []string{otherText(proof[0]), proof[1], "fbada"})
	checkNothing(t, s.root, "/c", []string{otherText(proof[0])})
	checkNothing(t, s.root, "/b/c", []string{proof[0], otherText("d")})
	checkTexts(t, s.root, "/b/c", []string{proof[0], "d"}, false, "", false, true)
	// Two folders with the same print.
	one, two := "da=6a383b;", "db=6a383b;q=64389b;"
	root := wantedPrint(one)
	if root != wantedPrint(two) {
		t.Fatalf("the prints of %q and %q", one, two)
	}
	checkTexts(t, root, "/a", []string{one, "fhi"}, true, "hi", true, false)
	checkTexts(t, root, "/b", []string{two, "fhi"}, true, "hi", true, false)
	checkTexts(t, root, "/a", []string{two}, false, "", false, true)
	checkTexts(t, root, "/b", []string{one}, false, "", false, true)
	checkNothing(t, root, "/a", []string{two, "fhi"})
	checkNothing(t, root, "/b", []string{one, "fhi"})
	checkProofs(t, walkStore{storeOf(two, "fhi"), root}, "/a", nil, []string{two})
	checkProofs(t, walkStore{storeOf(one, "fhi"), root}, "/a", []string{one, "fhi"}, nil)
	// In a store another text with the print of one on the way leads no further.
	other := walkStore{storeOf("da="+hexOf("dx=5;")+";b=165;", otherText("dx=5;"), otherText("d")), wantedPrint("da=" + hexOf("dx=5;") + ";b=165;")}
	checkProofs(t, other, "/a", []string{textsByPrint(other.store)[other.root], otherText("dx=5;")}, nil)
	for _, path := range []string{"/a/a", "/a/x", "/b/a", "/b/b/b"} {
		checkProofs(t, other, path, nil, nil)
	}
}

func hexOf(text string) string {
	return impl.HexText(wantedPrint(text))
}

func TestProofsWithMissingPieces(t *testing.T) {
	none := 0
	for _, s := range append(wrongStores(), walkStoreOf(fullTree()), walkStoreOf(map[string]string{"/a": "f1", "/b/a": "f2", "/b/b/a": "f3", "/b/b/b": "f", "/c/a": "f5", "/c/b": "f2"})) {
		paths := proofPaths(s)
		for _, store := range manyLeft(s.store) {
			left := walkStore{store, s.root}
			for i, path := range paths {
				if i > 40 && i%11 != 0 {
					continue
				}
				proof, absence := wantedProofs(left, path)
				checkProofs(t, left, path, proof, absence)
				if whole, absent := wantedProofs(s, path); len(whole)+len(absent) > len(proof)+len(absence) {
					none++
				}
			}
		}
	}
	if none < 1000 {
		t.Fatalf("only %d paths have fewer proofs with missing pieces", none)
	}
}

// Without a piece on the way there are no proofs, also none of absence, and also not if only the last text is missing.
func TestKnownProofsWithMissingPieces(t *testing.T) {
	way := []string{"da=df0aa4;", "db=e4112;", "dc=6a383b;", "fhi"}
	root := wantedPrint(way[0])
	for many := range 4 {
		s := walkStore{storeOf(slices.Delete(slices.Clone(way), many, many+1)...), root}
		for i, path := range []string{"/", "/a", "/a/b", "/a/b/c"} {
			if i < many {
				checkProofs(t, s, path, way[:i+1], nil)
			} else {
				checkProofs(t, s, path, nil, nil)
			}
		}
		for i, path := range []string{"/q/b/c", "/a/q/c", "/a/b/q"} {
			if i < many {
				checkProofs(t, s, path, nil, way[:i+1])
			} else {
				checkProofs(t, s, path, nil, nil)
			}
		}
	}
}

// A file on the way, and a text that is neither, ends it, whatever its content is.
func TestProofsThroughFiles(t *testing.T) {
	inner := "da=6a383b;"
	s := walkStoreOf(map[string]string{"/a": "f" + inner, "/b/a": "f" + inner, "/b/b": "hi", "/c": "da=06a383b;"}, "fhi", inner)
	for _, path := range []string{"/a/a", "/a/q", "/a/a/a", "/b/a/a", "/b/a/q", "/b/b/a", "/b/b/hi", "/c/a", "/c/q", "/c/a/a"} {
		checkProofs(t, s, path, nil, nil)
		way := wantedWay(s, path)
		for i := range way {
			checkNothing(t, s.root, path, way[:i+1])
			checkNothing(t, s.root, path, append(slices.Clone(way[:i+1]), "fhi"))
		}
	}
	for _, path := range []string{"/a", "/b/a", "/b/b", "/c"} {
		checkProofs(t, s, path, wantedWay(s, path), nil)
	}
	for _, text := range []string{"fhi", "f", "hi", "", "f" + inner, "da=07;", "db=7;a=7;", "f" + strings.Repeat("x", 41)} {
		root := walkStore{storeOf(text, inner), wantedPrint(text)}
		checkProofs(t, root, "/", []string{text}, nil)
		for _, path := range []string{"/a", "/b", "/hi", "/a/a/a"} {
			checkProofs(t, root, path, nil, nil)
			checkNothing(t, root.root, path, []string{text})
			checkNothing(t, root.root, path, []string{text, "fhi"})
			checkNothing(t, root.root, path, []string{text, text})
		}
	}
}

func TestProofsOfRootsThatAreNotInTheStore(t *testing.T) {
	paths := []string{"/", "/a", "/q", "/a/b", "/a/a/a", "", "a"}
	for _, s := range proofStores() {
		for _, root := range rootsBeside(s.root) {
			if _, there := textsByPrint(s.store)[root]; there {
				continue
			}
			for _, path := range paths {
				checkProofs(t, walkStore{s.store, root}, path, nil, nil)
			}
		}
	}
	for _, root := range append([]int{0, 1, 357, -357}, otherPrints...) {
		for _, path := range paths {
			checkProofs(t, walkStore{nil, root}, path, nil, nil)
			checkProofs(t, walkStore{[]impl.Piece{}, root}, path, nil, nil)
			checkNothing(t, root, path, nil)
			checkNothing(t, root, path, []string{})
		}
	}
}

// At the root nothing can be absent.
func TestAbsenceAtTheRoot(t *testing.T) {
	for _, s := range proofStores() {
		text := textsByPrint(s.store)[s.root]
		if got := impl.AbsenceProof(s.store, s.root, "/"); len(got) != 0 {
			t.Fatalf("the proof of absence of / from %d is %q", s.root, got)
		}
		for _, proof := range [][]string{nil, {}, {text}, {text, text}, {""}, {"d"}, {"\n"}} {
			for _, root := range []int{s.root, 357, 1, -1} {
				if impl.AbsenceRight(root, "/", proof) {
					t.Fatalf("AbsenceRight(%d, /, %q)", root, proof)
				}
			}
		}
	}
}

func TestProofsOfPathsThatAreNoPaths(t *testing.T) {
	loop := walkStore{storeOf(loopText), wantedPrint(loopText)}
	empty := walkStore{storeOf("d"), 357}
	paths := 0
	for i, path := range pathTexts() {
		parts, valid := wantedParts(path)
		if valid && i%17 != 0 {
			continue
		}
		if !valid {
			checkProofs(t, loop, path, nil, nil)
			checkProofs(t, empty, path, nil, nil)
		}
		for many := range 5 {
			checkAnyTexts(t, loop.root, path, slices.Repeat([]string{loopText}, many))
			checkTexts(t, 357, path, slices.Repeat([]string{"d"}, many), valid && len(parts) == 0 && many == 1, "", false, len(parts) > 0 && many == 1)
		}
		if !valid {
			paths++
			checkNothing(t, -1, path, []string{"\n"})
		}
	}
	if paths < 5000 {
		t.Fatalf("only %d texts are no paths", paths)
	}
}

func TestProofsOfStoresThatAreNotValid(t *testing.T) {
	for _, store := range otherStores() {
		roots := []int{0, 1, 357, -1}
		for _, piece := range store[:min(4, len(store))] {
			roots = append(roots, piece.Print)
		}
		for _, root := range roots {
			for _, path := range []string{"/", "/a", ""} {
				checkProofs(t, walkStore{store, root}, path, nil, nil)
			}
		}
	}
	for _, set := range []map[string]string{{}, {"/a": "fhi"}, {"/a/b": "fhi", "/b": "f"}, {"/a/a/a": "f", "/b": "hi"}} {
		s := walkStoreOf(set, "x", "fbeside", "aagjuw")
		paths := append(slices.Sorted(maps.Keys(wantedWalks(s.store, s.root))), "/q", "/a/q", "/a/a/q")
		for _, store := range wronged(s.store) {
			for _, path := range paths {
				checkProofs(t, walkStore{store, s.root}, path, nil, nil)
			}
		}
	}
	beyond := walkStoreOf(fullTree(), "fhi")
	for _, path := range []string{"/", "/a", "/a/a/a", "/q", "/a/q", "/a/a/q"} {
		checkProofs(t, beyond, path, nil, nil)
	}
}

func TestProofsInFullStores(t *testing.T) {
	s := walkStoreOf(fullTree())
	for _, path := range append(allPaths("a", "aa", "b", "q"), "/") {
		proof, absence := wantedProofs(s, path)
		checkProofs(t, s, path, proof, absence)
		if (len(proof) > 0) == strings.Contains(path, "q") || (len(absence) > 0) == (len(proof) > 0) {
			t.Fatalf("%q has the proofs %q and %q", path, proof, absence)
		}
	}
}

func TestManyTextsProveNothing(t *testing.T) {
	for _, many := range []int{5, 6, 7, 8, 255, 256, 257, 258, 65536, 65537, 65540} {
		for _, path := range []string{"/", "/a", "/a/a", "/a/a/a", "/q", "/a/q", "/a/a/q"} {
			checkNothing(t, wantedPrint(loopText), path, slices.Repeat([]string{loopText}, many))
		}
	}
}

func TestProofsOfOldRootsStay(t *testing.T) {
	many := 0
	for _, set := range smallSets() {
		s := walkStoreOf(set)
		next := write(t, s, "/a/q", "new")
		if !next.ok {
			continue
		}
		many++
		old := walkStore{next.store, s.root}
		for _, path := range append(allPaths("a", "b"), "/", "/a/q") {
			proof, absence := wantedProofs(s, path)
			checkProofs(t, old, path, proof, absence)
		}
		proof := impl.PathProof(next.store, next.root, "/a/q")
		checkTexts(t, next.root, "/a/q", proof, true, "new", true, false)
		if absence := impl.AbsenceProof(next.store, s.root, "/a/q"); !impl.AbsenceRight(s.root, "/a/q", absence) || impl.AbsenceRight(next.root, "/a/q", absence) || impl.ProofRight(s.root, "/a/q", proof) {
			t.Fatalf("the old root of %v has the proof of absence %q, and the new one has %q", set, absence, proof)
		}
	}
	if many < 40 {
		t.Fatalf("only %d writes", many)
	}
}

func TestResultsOfProofsAreNew(t *testing.T) {
	for _, s := range proofStores() {
		for _, path := range []string{"/", "/a", "/a/b", "/a/a/a", "/q", "/a/q", "/a/a/q", "/b/q"} {
			for _, prove := range []func([]impl.Piece, int, string) []string{impl.PathProof, impl.AbsenceProof} {
				given, whole := withRoom(s.store)
				before := slices.Clone(whole)
				first := prove(given, s.root, path)
				want := slices.Clone(first)
				second := prove(given, s.root, path)
				clear(second[:cap(second)])
				if !slices.Equal(first, want) || !slices.Equal(whole, before) || !slices.Equal(prove(given, s.root, path), want) {
					t.Fatalf("a proof of %q from %d shares memory, or writes to its argument", path, s.root)
				}
				spoil(whole)
				if !slices.Equal(first, want) {
					t.Fatalf("a proof of %q from %d shares memory with its argument", path, s.root)
				}
			}
		}
	}
}

func TestProofsStayWhenLookedAt(t *testing.T) {
	for _, s := range proofStores() {
		for _, path := range []string{"/", "/a", "/a/b", "/a/a/a", "/q", "/a/q", "/a/a/q", "/b/q"} {
			proof, absence := wantedProofs(s, path)
			whole := slices.Concat(proof, absence, []string{"spare", "spare"})
			before := slices.Clone(whole)
			given := whole[:len(whole)-2]
			checkAnyTexts(t, s.root, path, given)
			checkAnyTexts(t, s.root+1, path, given)
			if !slices.Equal(whole, before) {
				t.Fatalf("the proof %q of %q was written to", before, path)
			}
		}
	}
}
