package tests

import (
	"maps"
	"math"
	"math/bits"
	"slices"
	"strconv"
	"strings"
	"sync"
	"testing"

	"loop.example/proofarchive/impl"
)

// namedVersions are branches, and of how many versions they are.
type namedVersions struct {
	list []impl.Branch
	many int
}

// noManyVersions are numbers of versions that there cannot be.
var noManyVersions = []int{-1, -2, -6, -12, -13, math.MinInt, math.MinInt + 1, -1 << 32, -1<<32 + 5, 13, 14, 24, 25, 255, 256, 257, 268, 65536, 65548, 1 << 32, 1<<32 + 1, 1<<32 + 12, math.MaxInt - 1, math.MaxInt}

// newNames are words that no branch of a test has; each has its place before, between or behind those that they have.
var newNames = []string{"a00", "a12345", "a1234566", "a1234568", "a8", "a99", "a999", "aaa", "abcdefg", "abcdefgg", "abcdefgi", "ac", "b0", "c", "cccccccc", "e", "g", "y", "z0", "zz", "zzzzzzzy"}

// branchesOf returns branches with some names, and the numbers that they get by their places.
func branchesOf(names []string, number func(n int) int) []impl.Branch {
	var list []impl.Branch
	for n, name := range names {
		list = append(list, impl.Branch{Name: name, Number: number(n)})
	}
	return list
}

// choicesOfNames returns each choice of at most six of folderNames, in their order.
func choicesOfNames() [][]string {
	var list [][]string
	for chosen := range 1 << len(folderNames) {
		if bits.OnesCount(uint(chosen)) > 6 {
			continue
		}
		var names []string
		for n, name := range folderNames {
			if chosen>>n&1 == 1 {
				names = append(names, name)
			}
		}
		list = append(list, names)
	}
	return list
}

// someBranches returns valid branches with all choices of names and many numbers, and none of every number of versions. No test writes to them, so they are made once.
var someBranches = sync.OnceValue(func() []namedVersions {
	var list []namedVersions
	for many := range 13 {
		list = append(list, namedVersions{nil, many}, namedVersions{[]impl.Branch{}, many})
	}
	for i, names := range choicesOfNames() {
		many := i%12 + 1
		list = append(list, namedVersions{branchesOf(names, func(n int) int { return (n*n*7 + i*5 + n) % many }), many})
		if i%5 > 0 {
			continue
		}
		for _, many := range []int{1, 2, 11, 12} {
			list = append(list,
				namedVersions{branchesOf(names, func(int) int { return 0 }), many},
				namedVersions{branchesOf(names, func(int) int { return many - 1 }), many},
				namedVersions{branchesOf(names, func(n int) int { return n % many }), many})
		}
	}
	return list
})

// fewBranches returns some of the valid branches, of every length and of every number of versions.
func fewBranches() []namedVersions {
	var list []namedVersions
	for many := range 13 {
		list = append(list, namedVersions{nil, many}, namedVersions{[]impl.Branch{}, many})
		for long := 1; long <= 6 && many > 0; long++ {
			list = append(list, namedVersions{branchesOf(folderNames[:long], func(n int) int { return (n*5 + long) % many }), many})
			list = append(list, namedVersions{branchesOf(folderNames[12-long:], func(n int) int { return many - 1 - n%many }), many})
		}
	}
	return list
}

// manyBranches returns so many branches of the last version with names that ascend.
func manyBranches(long int, many int) []impl.Branch {
	names := []string{}
	for n := range long {
		names = append(names, "n"+strconv.Itoa(100000+n))
	}
	return branchesOf(names, func(int) int { return many - 1 })
}

// otherBranches returns branches that are not valid: valid ones with one thing wrong each, too many, and valid ones of other numbers of versions. They are made once, too.
var otherBranches = sync.OnceValue(func() []namedVersions {
	list := []namedVersions{{[]impl.Branch{{}}, 5}, {make([]impl.Branch, 3), 5}, {make([]impl.Branch, 6), 12}, {make([]impl.Branch, 7), 12}}
	for _, long := range []int{7, 8, 12, 13, 14, 255, 256, 257, 262, 65536, 65537, 65542} {
		for _, many := range []int{1, 2, 12} {
			list = append(list, namedVersions{manyBranches(long, many), many})
		}
	}
	for _, few := range fewBranches() {
		for _, many := range noManyVersions {
			list = append(list, namedVersions{few.list, many})
		}
	}
	for _, long := range []int{1, 2, 3, 6} {
		for _, many := range []int{1, 2, 5, 12} {
			list = append(list, wrongedBranches(branchesOf(folderNames[:long], func(n int) int { return n % many }), many)...)
			list = append(list, wrongedBranches(branchesOf(folderNames[12-long:], func(int) int { return many - 1 }), many)...)
		}
	}
	return list
})

// wrongedBranches returns valid branches with one thing wrong each.
func wrongedBranches(branches []impl.Branch, many int) []namedVersions {
	var list []namedVersions
	put := func(wrong []impl.Branch) {
		list = append(list, namedVersions{wrong, many})
	}
	for n, branch := range branches {
		for _, number := range numbersBeyond(many) {
			wrong := slices.Clone(branches)
			wrong[n].Number = number
			put(wrong)
		}
		for _, name := range otherNames {
			wrong := slices.Clone(branches)
			wrong[n].Name = name
			put(wrong)
		}
		put(slices.Insert(slices.Clone(branches), n, branch))
		put(slices.Insert(slices.Clone(branches), n, impl.Branch{Name: branch.Name, Number: many - 1 - branch.Number}))
		put(append(slices.Clone(branches), branch))
		if n > 0 {
			wrong := slices.Clone(branches)
			wrong[n], wrong[n-1] = wrong[n-1], wrong[n]
			put(wrong)
			wrong = slices.Clone(branches)
			wrong[n].Name = wrong[n-1].Name
			put(wrong)
			wrong = slices.Clone(branches)
			wrong[n-1].Name = wrong[n].Name
			put(wrong)
		}
	}
	return list
}

// wantedBranch tells whether a branch may be one of so many versions, in another way than the program does.
func wantedBranch(b impl.Branch, many int) bool {
	return wordPattern.MatchString(b.Name) && slices.Contains(befores(many, func(n int) int { return n }), b.Number)
}

func namesOfBranches(list []impl.Branch) []string {
	var names []string
	for _, branch := range list {
		names = append(names, branch.Name)
	}
	return names
}

// wantedBranchesValid tells whether branches are valid in another way than the program does: with their names in order, each once.
func wantedBranchesValid(list []impl.Branch, many int) bool {
	if len(list) >= 7 || many != min(max(many, 0), 12) {
		return false
	}
	valid := true
	for _, branch := range list {
		valid = valid && wantedBranch(branch, many)
	}
	names := namesOfBranches(list)
	return valid && slices.Equal(names, slices.Compact(slices.Sorted(slices.Values(names))))
}

func numbersOfBranches(list []impl.Branch) map[string]int {
	numbers := map[string]int{}
	for _, branch := range list {
		numbers[branch.Name] = branch.Number
	}
	return numbers
}

// inBranches returns the branches of a map by their names.
func inBranches(numbers map[string]int) []impl.Branch {
	return branchesOf(slices.Sorted(maps.Keys(numbers)), func(n int) int { return numbers[slices.Sorted(maps.Keys(numbers))[n]] })
}

// wantedSet returns valid branches after one was set, and whether that is possible, in another way than the program does.
func wantedSet(list []impl.Branch, many int, b impl.Branch) ([]impl.Branch, bool) {
	numbers := numbersOfBranches(list)
	numbers[b.Name] = b.Number
	if len(numbers) > 6 || !wantedBranch(b, many) {
		return list, false
	}
	return inBranches(numbers), true
}

// wantedLeft returns valid branches without a name, and whether it was there, in another way than the program does.
func wantedLeft(list []impl.Branch, name string) ([]impl.Branch, bool) {
	numbers := numbersOfBranches(list)
	_, there := numbers[name]
	delete(numbers, name)
	return inBranches(numbers), there
}

// wantedAt returns the version of a name in another way than the program does.
func wantedAt(list []impl.Branch, name string) int {
	if number, there := numbersOfBranches(list)[name]; there {
		return number
	}
	return -1
}

// roomyBranches returns branches with spare capacity behind them, and that whole memory.
func roomyBranches(list []impl.Branch) ([]impl.Branch, []impl.Branch) {
	whole := append(slices.Clone(list), slices.Repeat([]impl.Branch{{Name: "spare", Number: -7}}, 12)...)
	return whole[:len(list)], whole
}

// setBranch sets a branch, and checks that nothing is written to the branches that are given, nor to the memory behind them; they are written to before it returns.
func setBranch(t *testing.T, list []impl.Branch, many int, b impl.Branch) ([]impl.Branch, bool) {
	t.Helper()
	given, whole := roomyBranches(list)
	before := slices.Clone(whole)
	got, ok := impl.SetBranch(given, many, b)
	if !slices.Equal(whole, before) {
		t.Fatalf("setting %v of %d versions writes to %v: %v", b, many, before, whole)
	}
	clear(whole)
	return got, ok
}

// dropBranch does the same for a branch that is dropped.
func dropBranch(t *testing.T, list []impl.Branch, many int, name string) ([]impl.Branch, bool) {
	t.Helper()
	given, whole := roomyBranches(list)
	before := slices.Clone(whole)
	got, ok := impl.DropBranch(given, many, name)
	if !slices.Equal(whole, before) {
		t.Fatalf("dropping %q of %d versions writes to %v: %v", name, many, before, whole)
	}
	clear(whole)
	return got, ok
}

// checkSet compares the branches after one was set with those that there should be.
func checkSet(t *testing.T, list []impl.Branch, many int, b impl.Branch, want []impl.Branch, possible bool) []impl.Branch {
	t.Helper()
	got, ok := setBranch(t, list, many, b)
	if ok != possible || !slices.Equal(got, want) {
		t.Fatalf("SetBranch(%v, %d, %v) is %v, %v, not %v, %v", list, many, b, got, ok, want, possible)
	}
	if !impl.BranchesValid(got, many) {
		t.Fatalf("the branches %v of %d versions after one was set are not valid", got, many)
	}
	return got
}

// checkDropped compares the branches after one was dropped with those that there should be.
func checkDropped(t *testing.T, list []impl.Branch, many int, name string, want []impl.Branch, there bool) []impl.Branch {
	t.Helper()
	got, ok := dropBranch(t, list, many, name)
	if ok != there || !slices.Equal(got, want) {
		t.Fatalf("DropBranch(%v, %d, %q) is %v, %v, not %v, %v", list, many, name, got, ok, want, there)
	}
	if !impl.BranchesValid(got, many) {
		t.Fatalf("the branches %v of %d versions after one was dropped are not valid", got, many)
	}
	return got
}

// checkAt compares the version of a name with the one that it should be.
func checkAt(t *testing.T, list []impl.Branch, many int, name string, want int) {
	t.Helper()
	given, whole := roomyBranches(list)
	before := slices.Clone(whole)
	if got := impl.BranchAt(given, many, name); got != want {
		t.Fatalf("BranchAt(%v, %d, %q) is %d, not %d", list, many, name, got, want)
	}
	if !slices.Equal(whole, before) {
		t.Fatalf("looking for %q writes to %v", name, before)
	}
}

func TestLimitsOfBranches(t *testing.T) {
	if impl.MaxBranches != 6 {
		t.Fatal("a constant has another value than in the table of the document")
	}
}

func TestValidBranches(t *testing.T) {
	if len(someBranches()) < 5000 {
		t.Fatalf("only %d lists of branches", len(someBranches()))
	}
	for _, x := range slices.Concat(someBranches(), fewBranches()) {
		given, whole := roomyBranches(x.list)
		before := slices.Clone(whole)
		if !impl.BranchesValid(given, x.many) || !wantedBranchesValid(x.list, x.many) {
			t.Fatalf("%v of %d versions are valid", x.list, x.many)
		}
		if !slices.Equal(whole, before) {
			t.Fatalf("BranchesValid writes to %v", before)
		}
	}
}

func TestOtherBranchesAreNotValid(t *testing.T) {
	for _, x := range otherBranches() {
		if impl.BranchesValid(x.list, x.many) || wantedBranchesValid(x.list, x.many) {
			t.Fatalf("%v of %d versions are not valid", x.list, x.many)
		}
	}
}

func TestThereAreAtMostMaxBranches(t *testing.T) {
	for long := range 40 {
		for many := 1; many <= 12; many++ {
			if list := manyBranches(long, many); impl.BranchesValid(list, many) != (long <= 6) {
				t.Fatalf("%d branches of %d versions: %v", long, many, list)
			}
		}
	}
}

// The branches are valid of every number of versions that has all of theirs.
func TestNumbersOfVersions(t *testing.T) {
	for many := -20; many <= 40; many++ {
		if impl.BranchesValid(nil, many) != (many >= 0 && many <= 12) || impl.BranchesValid([]impl.Branch{}, many) != (many >= 0 && many <= 12) {
			t.Fatalf("no branches of %d versions", many)
		}
		for number := -3; number <= 40; number++ {
			list := []impl.Branch{{Name: "main", Number: number}}
			if impl.BranchesValid(list, many) != (number >= 0 && number < many && many <= 12) {
				t.Fatalf("%v of %d versions", list, many)
			}
		}
		for _, x := range fewBranches() {
			greatest := -1
			for _, branch := range x.list {
				greatest = max(greatest, branch.Number)
			}
			if impl.BranchesValid(x.list, many) != (greatest < many && many >= 0 && many <= 12) {
				t.Fatalf("%v of %d versions", x.list, many)
			}
		}
	}
	for _, many := range noManyVersions {
		for _, number := range []int{-1, 0, 1, 5, 11, 12, 13, many - 1, many} {
			if list := []impl.Branch{{Name: "main", Number: number}}; impl.BranchesValid(nil, many) || impl.BranchesValid(list, many) {
				t.Fatalf("branches of %d versions", many)
			}
		}
	}
}

// Of no versions there are no branches, and none can be set.
func TestBranchesOfNoVersions(t *testing.T) {
	for _, none := range [][]impl.Branch{nil, {}} {
		if !impl.BranchesValid(none, 0) {
			t.Fatal("no branches of no versions are valid")
		}
		for _, name := range slices.Concat(folderNames, newNames, otherNames) {
			for _, number := range append(numbersBeyond(0), 1, 5, 11, 12) {
				b := impl.Branch{Name: name, Number: number}
				if impl.BranchesValid([]impl.Branch{b}, 0) {
					t.Fatalf("%v of no versions is not valid", b)
				}
				checkSet(t, none, 0, b, nil, false)
			}
			checkAt(t, none, 0, name, -1)
			checkDropped(t, none, 0, name, nil, false)
		}
	}
}

// Each branch is valid or not by itself, as long as the names ascend.
func TestNumbersAndNames(t *testing.T) {
	for _, x := range fewBranches() {
		for n, branch := range x.list {
			check := func(b impl.Branch) {
				t.Helper()
				with := slices.Clone(x.list)
				with[n] = b
				if impl.BranchesValid(with, x.many) != wantedBranchesValid(with, x.many) {
					t.Fatalf("the branch %d of %v of %d versions", n, with, x.many)
				}
			}
			for number := -4; number <= 16; number++ {
				check(impl.Branch{Name: branch.Name, Number: number})
			}
			for _, number := range numbersBeyond(x.many) {
				check(impl.Branch{Name: branch.Name, Number: number})
			}
			for _, name := range slices.Concat(folderNames, newNames, otherNames) {
				check(impl.Branch{Name: name, Number: branch.Number})
			}
		}
	}
}

func TestNamesOfBranchesAreWords(t *testing.T) {
	for b := range 256 {
		sign := string([]byte{byte(b)})
		for _, name := range []string{sign, "a" + sign, sign + "a", "a" + sign + "b", "abcdefg" + sign, "a" + sign + "cdefgh", "zzzzzzz" + sign} {
			branch := impl.Branch{Name: name, Number: b % 12}
			word := wordPattern.MatchString(name)
			if impl.BranchesValid([]impl.Branch{branch}, 12) != word {
				t.Fatalf("the branch %v", branch)
			}
			if got, ok := impl.SetBranch(nil, 12, branch); ok != word || (len(got) == 1) != word {
				t.Fatalf("SetBranch of %v is %v, %v", branch, got, ok)
			}
		}
	}
	for long := range 30 {
		list := []impl.Branch{{Name: strings.Repeat("n", long), Number: 0}}
		if impl.BranchesValid(list, 1) != (long >= 1 && long <= 8) {
			t.Fatalf("a name of %d bytes", long)
		}
	}
}

func TestNamesOfBranchesAscend(t *testing.T) {
	for _, first := range folderNames {
		for _, second := range folderNames {
			for _, numbers := range [][2]int{{1, 2}, {2, 1}, {1, 1}} {
				list := []impl.Branch{{Name: first, Number: numbers[0]}, {Name: second, Number: numbers[1]}}
				if impl.BranchesValid(list, 3) != (first < second) {
					t.Fatalf("the branches %v", list)
				}
				for _, third := range folderNames {
					three := append(slices.Clone(list), impl.Branch{Name: third, Number: numbers[1]})
					if impl.BranchesValid(three, 3) != (first < second && second < third) {
						t.Fatalf("the branches %v", three)
					}
				}
			}
		}
	}
	// Six names in any order are valid in one of them alone.
	for turn := 1; turn < 6; turn++ {
		names := slices.Concat(folderNames[turn:6], folderNames[:turn])
		if impl.BranchesValid(branchesOf(names, func(n int) int { return n }), 12) {
			t.Fatalf("branches with the names %v are not valid", names)
		}
	}
}

// Several branches may be of the same version.
func TestBranchesOfTheSameVersion(t *testing.T) {
	for long := range 7 {
		for number := range 12 {
			list := branchesOf(folderNames[:long], func(int) int { return number })
			if !impl.BranchesValid(list, 12) || !impl.BranchesValid(list, number+1) || long > 0 && impl.BranchesValid(list, number) {
				t.Fatalf("%d branches of the version %d", long, number)
			}
		}
	}
}

// P84
func TestNamesOfBranchesComeOnce(t *testing.T) {
	for _, x := range someBranches() {
		for n, branch := range x.list {
			for place := range len(x.list) + 1 {
				for _, number := range []int{branch.Number, 0, x.many - 1} {
					twice := slices.Insert(slices.Clone(x.list), place, impl.Branch{Name: branch.Name, Number: number})
					if impl.BranchesValid(twice, x.many) {
						t.Fatalf("%v with %v twice is not valid", twice, branch)
					}
				}
			}
			if !impl.BranchesValid(slices.Delete(slices.Clone(x.list), n, n+1), x.many) {
				t.Fatalf("%v without %v is valid", x.list, branch)
			}
		}
		if len(x.list) > 0 && (!impl.BranchesValid(x.list[1:], x.many) || impl.BranchesValid(x.list, 0) || impl.BranchesValid(append(slices.Clone(x.list[:1]), x.list...), x.many)) {
			t.Fatalf("%v of no versions, or without the first branch, or with it twice", x.list)
		}
		if impl.BranchesValid(x.list, 0) != (len(x.list) == 0) {
			t.Fatalf("%v of no versions", x.list)
		}
	}
}

// branchesToSet returns branches to set among valid ones: with all names that these have, with new ones, and with some that are no words.
func branchesToSet(x namedVersions, i int) []impl.Branch {
	var list []impl.Branch
	names := slices.Concat(namesOfBranches(x.list), []string{folderNames[i%12], newNames[i%len(newNames)], newNames[i*i%len(newNames)], otherNames[i%len(otherNames)]})
	for n, name := range names {
		for _, number := range []int{0, x.many - 1, (i*n + n) % (x.many + 1), -1, x.many} {
			list = append(list, impl.Branch{Name: name, Number: number})
		}
	}
	return append(list, x.list...)
}

// P19
func TestSetBranchesAreFound(t *testing.T) {
	added, changed, refused := 0, 0, 0
	for i, x := range someBranches() {
		for _, b := range branchesToSet(x, i) {
			want, possible := wantedSet(x.list, x.many, b)
			got := checkSet(t, x.list, x.many, b, want, possible)
			if !possible {
				refused++
				continue
			}
			if impl.BranchAt(got, x.many, b.Name) != b.Number {
				t.Fatalf("%v was set and is not found in %v", b, got)
			}
			for _, branch := range x.list {
				if branch.Name != b.Name && impl.BranchAt(got, x.many, branch.Name) != branch.Number {
					t.Fatalf("%v was set, and %v is another one in %v", b, branch, got)
				}
			}
			left, ok := impl.DropBranch(got, x.many, b.Name)
			old, there := impl.DropBranch(x.list, x.many, b.Name)
			if !ok || !slices.Equal(left, old) {
				t.Fatalf("without %q %v is %v, and %v was %v", b.Name, got, left, x.list, old)
			}
			if again, ok := impl.SetBranch(got, x.many, b); !ok || !slices.Equal(again, got) {
				t.Fatalf("setting %v in %v again leads to %v, %v", b, got, again, ok)
			}
			if there {
				changed++
			} else {
				added++
			}
		}
	}
	if min(added, changed, refused) < 5000 {
		t.Fatalf("%d branches are added, %d changed, %d refused", added, changed, refused)
	}
}

func TestKnownPlacesOfBranches(t *testing.T) {
	list := []impl.Branch{{Name: "b", Number: 1}, {Name: "d", Number: 2}, {Name: "f", Number: 3}}
	b, d, f := list[0], list[1], list[2]
	known := []struct {
		set  impl.Branch
		want []impl.Branch
	}{
		{impl.Branch{Name: "a", Number: 4}, []impl.Branch{{Name: "a", Number: 4}, b, d, f}},
		{impl.Branch{Name: "azzzzzzz", Number: 1}, []impl.Branch{{Name: "azzzzzzz", Number: 1}, b, d, f}},
		{impl.Branch{Name: "b0", Number: 0}, []impl.Branch{b, {Name: "b0", Number: 0}, d, f}},
		{impl.Branch{Name: "c", Number: 4}, []impl.Branch{b, {Name: "c", Number: 4}, d, f}},
		{impl.Branch{Name: "e", Number: 4}, []impl.Branch{b, d, {Name: "e", Number: 4}, f}},
		{impl.Branch{Name: "f0", Number: 4}, []impl.Branch{b, d, f, {Name: "f0", Number: 4}}},
		{impl.Branch{Name: "g", Number: 4}, []impl.Branch{b, d, f, {Name: "g", Number: 4}}},
		// The name is there, with another number, and with the same one.
		{impl.Branch{Name: "b", Number: 4}, []impl.Branch{{Name: "b", Number: 4}, d, f}},
		{impl.Branch{Name: "d", Number: 0}, []impl.Branch{b, {Name: "d", Number: 0}, f}},
		{impl.Branch{Name: "f", Number: 1}, []impl.Branch{b, d, {Name: "f", Number: 1}}},
		{b, list}, {d, list}, {f, list},
	}
	for _, x := range known {
		checkSet(t, list, 5, x.set, x.want, true)
		if got, ok := wantedSet(list, 5, x.set); !ok || !slices.Equal(got, x.want) {
			t.Fatalf("the other way sets %v to %v, %v", x.set, got, ok)
		}
	}
	checkSet(t, nil, 1, impl.Branch{Name: "main", Number: 0}, []impl.Branch{{Name: "main", Number: 0}}, true)
	checkSet(t, []impl.Branch{}, 12, impl.Branch{Name: "zzzzzzzz", Number: 11}, []impl.Branch{{Name: "zzzzzzzz", Number: 11}}, true)
	// What is not possible leaves them as they are.
	for _, b := range []impl.Branch{{Name: "a", Number: 5}, {Name: "d", Number: 5}, {Name: "d", Number: -1}, {Name: "c", Number: -1}, {Name: "", Number: 1}, {Name: "D", Number: 1}, {Name: "1", Number: 1}, {}} {
		checkSet(t, list, 5, b, list, false)
	}
}

func TestMaxBranchesAndOneMore(t *testing.T) {
	for _, names := range choicesOfNames() {
		if len(names) != 6 {
			continue
		}
		full := branchesOf(names, func(n int) int { return n })
		for i, name := range slices.Concat(folderNames, newNames) {
			b := impl.Branch{Name: name, Number: 11 - i%12}
			want := slices.Clone(full)
			place, found := slices.BinarySearch(names, name)
			if found {
				want[place] = b
			}
			checkSet(t, full, 12, b, want, found)
		}
		for _, name := range names {
			checkSet(t, full, 12, impl.Branch{Name: name, Number: 12}, full, false)
		}
		// With one less there is room for one.
		got := checkSet(t, full[1:], 12, full[0], full, true)
		checkSet(t, got, 12, impl.Branch{Name: "a00", Number: 0}, full, false)
		checkSet(t, full[:5], 12, full[5], full, true)
	}
}

func TestBranchesThatAreNotValidAreNotSet(t *testing.T) {
	for _, x := range fewBranches() {
		names := slices.Concat(namesOfBranches(x.list), []string{"a00", "c", "zz"})
		for _, name := range names {
			for _, number := range numbersBeyond(x.many) {
				checkSet(t, x.list, x.many, impl.Branch{Name: name, Number: number}, x.list, false)
			}
		}
		for i, name := range otherNames {
			checkSet(t, x.list, x.many, impl.Branch{Name: name, Number: i % max(x.many, 1)}, x.list, false)
			checkSet(t, x.list, x.many, impl.Branch{Name: name, Number: x.many}, x.list, false)
		}
		checkSet(t, x.list, x.many, impl.Branch{}, x.list, false)
	}
}

// A branch in place of the wrong one would make some of these valid, but they are not valid as they are.
func TestBranchesThatAreNotValidHaveNothing(t *testing.T) {
	for _, x := range otherBranches() {
		branches := append([]impl.Branch{{Name: "a", Number: 0}, {Name: "main", Number: 0}, {Name: "zzzzzzzz", Number: x.many - 1}, {}, {Name: "A", Number: 0}, {Name: "c", Number: -1}}, x.list[:min(7, len(x.list))]...)
		for _, b := range branches {
			for _, number := range []int{b.Number, 0} {
				b := impl.Branch{Name: b.Name, Number: number}
				if got, ok := impl.SetBranch(x.list, x.many, b); ok || len(got) != 0 {
					t.Fatalf("SetBranch(%v, %d, %v) is %v, %v", x.list, x.many, b, got, ok)
				}
			}
			if got := impl.BranchAt(x.list, x.many, b.Name); got != -1 {
				t.Fatalf("BranchAt(%v, %d, %q) is %d", x.list, x.many, b.Name, got)
			}
			if got, ok := impl.DropBranch(x.list, x.many, b.Name); ok || len(got) != 0 {
				t.Fatalf("DropBranch(%v, %d, %q) is %v, %v", x.list, x.many, b.Name, got, ok)
			}
		}
	}
}

func TestOtherBranchesAreNotWrittenTo(t *testing.T) {
	for _, long := range []int{1, 2, 3, 6} {
		for _, x := range wrongedBranches(branchesOf(folderNames[:long], func(n int) int { return n % 5 }), 5) {
			for _, b := range []impl.Branch{{Name: "a", Number: 0}, {Name: "zz", Number: 4}, x.list[0]} {
				setBranch(t, x.list, 5, b)
				dropBranch(t, x.list, 5, b.Name)
				checkAt(t, x.list, 5, b.Name, -1)
			}
		}
	}
}

// P85
func TestBranchesAreFoundByNames(t *testing.T) {
	names := slices.Concat(folderNames, newNames, otherNames)
	for _, x := range someBranches() {
		for _, branch := range x.list {
			checkAt(t, x.list, x.many, branch.Name, branch.Number)
		}
		for _, name := range names {
			checkAt(t, x.list, x.many, name, wantedAt(x.list, name))
		}
	}
}

func TestKnownVersionsOfBranches(t *testing.T) {
	list := []impl.Branch{{Name: "a1", Number: 4}, {Name: "ab", Number: 0}, {Name: "abc", Number: 2}, {Name: "main", Number: 4}, {Name: "mainline", Number: 1}, {Name: "z", Number: 3}}
	known := map[string]int{
		"a1": 4, "ab": 0, "abc": 2, "main": 4, "mainline": 1, "z": 3,
		// Other names begin with these, or these with other ones.
		"a": -1, "m": -1, "mai": -1, "mainlin": -1, "a10": -1, "abcd": -1, "mainl": -1, "z0": -1, "zz": -1,
		"b": -1, "x": -1, "a0": -1, "aa": -1, "abb": -1, "abd": -1, "zzzzzzzz": -1,
		// These are no words.
		"": -1, "A1": -1, "Main": -1, "MAIN": -1, "main ": -1, " main": -1, "main\x00": -1, "mainlines": -1, "1": -1, "ab\n": -1, "\xff": -1,
	}
	for name, number := range known {
		checkAt(t, list, 5, name, number)
		if got := wantedAt(list, name); got != number {
			t.Fatalf("the other way finds %d for %q", got, name)
		}
		for _, many := range []int{6, 11, 12} {
			checkAt(t, list, many, name, number)
		}
		for _, many := range append([]int{0, 1, 2, 3, 4}, noManyVersions...) {
			checkAt(t, list, many, name, -1)
		}
		checkAt(t, nil, 5, name, -1)
		checkAt(t, nil, 0, name, -1)
		checkAt(t, []impl.Branch{}, 12, name, -1)
	}
}

// P86
func TestDroppedBranchesAreGone(t *testing.T) {
	names := slices.Concat(folderNames, newNames[:6], otherNames[:8])
	dropped := 0
	for _, x := range someBranches() {
		for _, name := range names {
			want, there := wantedLeft(x.list, name)
			got := checkDropped(t, x.list, x.many, name, want, there)
			if impl.BranchAt(got, x.many, name) != -1 {
				t.Fatalf("%q was dropped and is in %v", name, got)
			}
			if there {
				dropped++
				if len(got) != len(x.list)-1 {
					t.Fatalf("without %q %v has %d branches", name, x.list, len(got))
				}
				for _, branch := range x.list {
					if branch.Name != name && impl.BranchAt(got, x.many, branch.Name) != branch.Number {
						t.Fatalf("%q was dropped, and %v is another one in %v", name, branch, got)
					}
				}
			}
			checkDropped(t, got, x.many, name, got, false)
		}
	}
	if dropped < 10000 {
		t.Fatalf("only %d branches are dropped", dropped)
	}
}

func TestKnownDroppedBranches(t *testing.T) {
	list := []impl.Branch{{Name: "b", Number: 1}, {Name: "d", Number: 2}, {Name: "f", Number: 0}}
	b, d, f := list[0], list[1], list[2]
	checkDropped(t, list, 3, "b", []impl.Branch{d, f}, true)
	checkDropped(t, list, 3, "d", []impl.Branch{b, f}, true)
	checkDropped(t, list, 3, "f", []impl.Branch{b, d}, true)
	checkDropped(t, list[:1], 3, "b", nil, true)
	for _, name := range []string{"a", "c", "e", "g", "b0", "bb", "", "B", "b ", "1", "abcdefghi"} {
		checkDropped(t, list, 3, name, list, false)
		checkDropped(t, nil, 3, name, nil, false)
	}
	// One after the other all go.
	full := branchesOf(folderNames[:6], func(n int) int { return n })
	for turn := range 6 {
		left := slices.Clone(full)
		for n := range full {
			name := full[(n+turn)%6].Name
			left = checkDropped(t, left, 12, name, slices.DeleteFunc(slices.Clone(left), func(b impl.Branch) bool { return b.Name == name }), true)
			checkDropped(t, left, 12, name, left, false)
		}
		if len(left) != 0 {
			t.Fatalf("%v are left", left)
		}
	}
}

func TestBranchesInAnyOrder(t *testing.T) {
	for _, x := range someBranches() {
		for turn := range len(x.list) {
			var got, back []impl.Branch
			for i := range x.list {
				got, _ = impl.SetBranch(got, x.many, x.list[(i+turn)%len(x.list)])
				back, _ = impl.SetBranch(back, x.many, x.list[(2*len(x.list)-1-i-turn)%len(x.list)])
			}
			if !slices.Equal(got, x.list) || !slices.Equal(back, x.list) {
				t.Fatalf("%v is set as %v and %v", x.list, got, back)
			}
		}
	}
}

func TestResultsOfBranchesAreNew(t *testing.T) {
	for i, x := range fewBranches() {
		for _, b := range branchesToSet(x, i) {
			given, whole := roomyBranches(x.list)
			before := slices.Clone(whole)
			set, _ := impl.SetBranch(given, x.many, b)
			left, _ := impl.DropBranch(given, x.many, b.Name)
			wantSet, wantLeft := slices.Clone(set), slices.Clone(left)
			otherSet, _ := impl.SetBranch(given, x.many, b)
			otherLeft, _ := impl.DropBranch(given, x.many, b.Name)
			clear(otherSet[:cap(otherSet)])
			clear(otherLeft[:cap(otherLeft)])
			if !slices.Equal(whole, before) || !slices.Equal(set, wantSet) || !slices.Equal(left, wantLeft) {
				t.Fatalf("a result of SetBranch or DropBranch(%v, %d, %v) shares memory", x.list, x.many, b)
			}
			clear(whole)
			if !slices.Equal(set, wantSet) || !slices.Equal(left, wantLeft) {
				t.Fatalf("a result of SetBranch or DropBranch(%v, %d, %v) shares memory with its argument", x.list, x.many, b)
			}
		}
	}
}

func TestTwoBranchesSetToTheSameOnes(t *testing.T) {
	for _, x := range fewBranches() {
		if len(x.list) == 6 || x.many == 0 {
			continue
		}
		given, whole := roomyBranches(x.list)
		before := slices.Clone(whole)
		one, two := impl.Branch{Name: "zzzzzzz1", Number: 0}, impl.Branch{Name: "zzzzzzz2", Number: x.many - 1}
		first, ok := impl.SetBranch(given, x.many, one)
		second, also := impl.SetBranch(given, x.many, two)
		wantFirst, _ := wantedSet(x.list, x.many, one)
		wantSecond, _ := wantedSet(x.list, x.many, two)
		if !ok || !also || !slices.Equal(first, wantFirst) || !slices.Equal(second, wantSecond) {
			t.Fatalf("%v with %v is %v, and with %v %v", x.list, one, first, two, second)
		}
		if !slices.Equal(whole, before) {
			t.Fatalf("setting to %v writes to it: %v", before, whole)
		}
	}
}

// The names of versions go on when a version is added: branches stay valid, and the new version can have one.
func TestBranchesOfAddedVersions(t *testing.T) {
	var versions []impl.Version
	var branches []impl.Branch
	for n := range 12 {
		var ok bool
		if versions, ok = impl.AddVersion(versions, impl.Version{Root: n, Before: n - 1, Note: "n" + strconv.Itoa(n)}); !ok {
			t.Fatal(versions)
		}
		if branches, ok = impl.SetBranch(branches, len(versions), impl.Branch{Name: "main", Number: n}); !ok || impl.BranchAt(branches, len(versions), "main") != n {
			t.Fatalf("after %d versions main is not the last one of %v", n+1, branches)
		}
		if n == 3 {
			branches, _ = impl.SetBranch(branches, len(versions), impl.Branch{Name: "fix", Number: 3})
		}
		if line := impl.LineOf(versions, impl.BranchAt(branches, len(versions), "main")); len(line) != n+1 {
			t.Fatalf("the line of main is %v", line)
		}
	}
	if want := []impl.Branch{{Name: "fix", Number: 3}, {Name: "main", Number: 11}}; !slices.Equal(branches, want) {
		t.Fatalf("the branches are %v", branches)
	}
}
