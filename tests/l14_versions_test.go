package tests

import (
	"maps"
	"math"
	"slices"
	"strconv"
	"strings"
	"sync"
	"testing"

	"loop.example/proofarchive/impl"
)

// versionsAfter returns versions after the given ones, with several roots and notes.
func versionsAfter(before ...int) []impl.Version {
	var list []impl.Version
	for n, number := range before {
		version := impl.Version{Root: (7919*n*n + 13*number + 99) % 16777213, Before: number, Note: folderNames[n%len(folderNames)]}
		switch n % 5 {
		case 1:
			version.Root = 0
		case 3:
			version.Root = 16777212
		}
		list = append(list, version)
	}
	return list
}

// befores returns the numbers before so many versions, each by its own number.
func befores(many int, before func(n int) int) []int {
	var list []int
	for n := range many {
		list = append(list, before(n))
	}
	return list
}

// shapes returns ways in which so many versions may follow each other: a single line, all after the first one, several beginnings, and others.
func shapes(many int) [][]int {
	list := [][]int{
		befores(many, func(n int) int { return n - 1 }),
		befores(many, func(n int) int { return -1 }),
		befores(many, func(n int) int { return min(n-1, 0) }),
		befores(many, func(n int) int { return min(n-1, 1) }),
		befores(many, func(n int) int { return (n+1)/2 - 1 }),
		befores(many, func(n int) int { return n/2 - 1 }),
		befores(many, func(n int) int { return max(n-2, -1) }),
		befores(many, func(n int) int { return max(n-3, -1) }),
		befores(many, func(n int) int { return n%7 - 1 }),
	}
	seed := many
	for range 60 {
		list = append(list, befores(many, func(n int) int {
			seed = (seed*1103515245 + 12345) % (1 << 31)
			return seed>>8%(n+1) - 1
		}))
	}
	return list
}

// someVersions returns valid versions: at most six in all ways in which they may follow each other, and 7 to MaxVersions in many. No test writes to them, so they are made once.
var someVersions = sync.OnceValue(func() [][]impl.Version {
	all := [][]int{{}}
	for begin, long := 0, 0; long < 6; long++ {
		end := len(all)
		for ; begin < end; begin++ {
			for before := -1; before < long; before++ {
				all = append(all, append(slices.Clone(all[begin]), before))
			}
		}
	}
	for many := 7; many <= 12; many++ {
		all = append(all, shapes(many)...)
	}
	list := [][]impl.Version{nil, {}}
	for _, before := range all {
		list = append(list, versionsAfter(before...))
	}
	return list
})

// fewVersions returns some of the valid versions, of every number.
func fewVersions() [][]impl.Version {
	list := [][]impl.Version{nil, {}}
	for many := 1; many <= 12; many++ {
		for _, before := range shapes(many)[:5] {
			list = append(list, versionsAfter(before...))
		}
	}
	return list
}

// otherVersions returns versions that are not valid: valid ones with one thing wrong each, and too many. They are made once, too.
var otherVersions = sync.OnceValue(func() [][]impl.Version {
	list := [][]impl.Version{{{}}, {{}, {}, {}}, make([]impl.Version, 13), {{Before: -1}}, {{Note: "n"}}, {{Before: 1, Note: "n"}, {Before: 0, Note: "n"}}}
	for _, many := range []int{13, 14, 15, 16, 24, 255, 256, 257, 268, 65536, 65537, 65548} {
		list = append(list, versionsAfter(befores(many, func(n int) int { return n - 1 })...))
		list = append(list, versionsAfter(befores(many, func(int) int { return -1 })...))
		list = append(list, versionsAfter(befores(many, func(n int) int { return min(n-1, 3) })...))
	}
	for _, before := range [][]int{{-1}, {-1, 0}, {-1, -1}, {-1, 0, 0}, {-1, 0, 1, 1, 0, -1}, shapes(12)[0], shapes(12)[4]} {
		list = append(list, wrongedVersions(versionsAfter(before...))...)
	}
	return list
})

// wrongedVersions returns valid versions with one thing wrong each.
func wrongedVersions(versions []impl.Version) [][]impl.Version {
	var list [][]impl.Version
	for n := range versions {
		with := func(change func(v *impl.Version)) {
			wrong := slices.Clone(versions)
			change(&wrong[n])
			list = append(list, wrong)
		}
		for _, root := range otherPrints {
			with(func(v *impl.Version) { v.Root = root })
		}
		for _, number := range numbersNotBefore(n) {
			with(func(v *impl.Version) { v.Before = number })
		}
		for _, note := range otherNames {
			with(func(v *impl.Version) { v.Note = note })
		}
	}
	return list
}

// numbersNotBefore returns numbers that cannot be that of the version before the version n.
func numbersNotBefore(n int) []int {
	return []int{-2, -3, -n - 2, -13, math.MinInt, math.MinInt + 1, -1 << 32, -1<<32 - 1, n, n + 1, n + 2, n + 12, n + 255, n + 256, n + 65536, 1<<32 - 1, 1 << 32, 1<<32 + n, math.MaxInt - 1, math.MaxInt}
}

// wantedVersion tells whether a version may be the version n, in another way than the program does.
func wantedVersion(v impl.Version, n int) bool {
	return wordPattern.MatchString(v.Note) && v.Root == min(max(v.Root, 0), 16777212) && v.Before == min(max(v.Before, -1), n-1)
}

func wantedVersionsValid(list []impl.Version) bool {
	valid := len(list) < 13
	for n, version := range list {
		valid = valid && wantedVersion(version, n)
	}
	return valid
}

// wantedLine returns the line of a version in another way than the program does: all numbers are looked at, downwards.
func wantedLine(list []impl.Version, n int) []int {
	var line []int
	next := n
	for number := n; number >= 0; number-- {
		if number == next {
			line = append(line, number)
			next = list[number].Before
		}
	}
	return line
}

// wantedNearest returns the greatest number in two lines, in another way than the program does: from all numbers in each.
func wantedNearest(list []impl.Version, a, b int) int {
	first := wantedLine(list, a)
	both := slices.DeleteFunc(wantedLine(list, b), func(n int) bool { return !slices.Contains(first, n) })
	return slices.Max(append(both, -1))
}

// wantedTips returns the numbers that are before none, in another way than the program does: with a set.
func wantedTips(list []impl.Version) []int {
	tips := map[int]bool{}
	for n, version := range list {
		tips[n] = true
		delete(tips, version.Before)
	}
	return slices.Sorted(maps.Keys(tips))
}

// roomyVersions returns versions with spare capacity behind them, and that whole memory.
func roomyVersions(list []impl.Version) ([]impl.Version, []impl.Version) {
	whole := append(slices.Clone(list), slices.Repeat([]impl.Version{{Root: -7, Before: -7, Note: "spare"}}, 20)...)
	return whole[:len(list)], whole
}

// add adds a version, and checks that nothing is written to the versions that are given, nor to the memory behind them.
func add(t *testing.T, list []impl.Version, v impl.Version) ([]impl.Version, bool) {
	t.Helper()
	given, whole := roomyVersions(list)
	before := slices.Clone(whole)
	got, ok := impl.AddVersion(given, v)
	if !slices.Equal(whole, before) {
		t.Fatalf("adding %v writes to %v: %v", v, before, whole)
	}
	clear(whole)
	return got, ok
}

// checkAdded compares the versions after one was added with those that there should be.
func checkAdded(t *testing.T, list []impl.Version, v impl.Version) []impl.Version {
	t.Helper()
	want := append(slices.Clone(list), v)
	got, ok := add(t, list, v)
	if !ok || !slices.Equal(got, want) {
		t.Fatalf("AddVersion(%v, %v) is %v, %v", list, v, got, ok)
	}
	if !impl.VersionsValid(got) {
		t.Fatalf("the versions %v after one was added are not valid", got)
	}
	return got
}

// checkNotAdded checks that a version cannot be added to valid versions.
func checkNotAdded(t *testing.T, list []impl.Version, v impl.Version) {
	t.Helper()
	if got, ok := add(t, list, v); ok || !slices.Equal(got, list) {
		t.Fatalf("AddVersion(%v, %v) is %v, %v", list, v, got, ok)
	}
}

// checkNearest compares the nearest number of both versions with what is wanted, both ways round.
func checkNearest(t *testing.T, list []impl.Version, a, b, want int) {
	t.Helper()
	if got := impl.NearestBoth(list, a, b); got != want {
		t.Fatalf("NearestBoth(%v, %d, %d) is %d, not %d", list, a, b, got, want)
	}
	if got := impl.NearestBoth(list, b, a); got != want {
		t.Fatalf("NearestBoth(%v, %d, %d) is %d, not %d", list, b, a, got, want)
	}
}

func TestLimitsOfVersions(t *testing.T) {
	if impl.MaxVersions != 12 {
		t.Fatal("a constant has another value than in the table of the document")
	}
}

func TestValidVersions(t *testing.T) {
	if len(someVersions()) < 1000 {
		t.Fatalf("only %d lists of versions", len(someVersions()))
	}
	for _, list := range someVersions() {
		given, whole := roomyVersions(list)
		before := slices.Clone(whole)
		if !impl.VersionsValid(given) || !wantedVersionsValid(list) {
			t.Fatalf("%v is valid", list)
		}
		if !slices.Equal(whole, before) {
			t.Fatalf("VersionsValid writes to %v", before)
		}
	}
}

func TestOtherVersionsAreNotValid(t *testing.T) {
	for _, list := range otherVersions() {
		if impl.VersionsValid(list) || wantedVersionsValid(list) {
			t.Fatalf("%v is not valid", list)
		}
	}
}

func TestThereAreAtMostMaxVersions(t *testing.T) {
	for many := range 40 {
		for _, before := range shapes(many) {
			if list := versionsAfter(before...); impl.VersionsValid(list) != (many <= 12) {
				t.Fatalf("%d versions: %v", many, list)
			}
		}
	}
}

// Each version is valid or not by itself, wherever it stands.
func TestRootsAndNumbersAndNotes(t *testing.T) {
	notes := slices.Concat(folderNames, otherNames)
	for _, list := range fewVersions() {
		for n, version := range list {
			check := func(v impl.Version) {
				t.Helper()
				with := slices.Clone(list)
				with[n] = v
				if impl.VersionsValid(with) != wantedVersion(v, n) {
					t.Fatalf("the version %d of %v", n, with)
				}
			}
			for _, root := range append(somePrints(), otherPrints...) {
				check(impl.Version{Root: root, Before: version.Before, Note: version.Note})
			}
			for number := -4; number <= 16; number++ {
				check(impl.Version{Root: version.Root, Before: number, Note: version.Note})
			}
			for _, number := range numbersNotBefore(n) {
				check(impl.Version{Root: version.Root, Before: number, Note: version.Note})
			}
			for _, note := range notes {
				check(impl.Version{Root: version.Root, Before: version.Before, Note: note})
			}
		}
	}
}

func TestNotesAreWords(t *testing.T) {
	for _, list := range [][]impl.Version{nil, versionsAfter(-1, 0, 0), versionsAfter(shapes(11)[0]...)} {
		for _, before := range []int{-1, len(list) - 1} {
			for b := range 256 {
				sign := string([]byte{byte(b)})
				for _, note := range []string{sign, "a" + sign, sign + "a", "a" + sign + "b", "abcdefg" + sign, "a" + sign + "cdefgh"} {
					with := append(slices.Clone(list), impl.Version{Root: 5, Before: before, Note: note})
					if impl.VersionsValid(with) != wordPattern.MatchString(note) {
						t.Fatalf("the note %q in %v", note, with)
					}
				}
			}
			for long := range 30 {
				with := append(slices.Clone(list), impl.Version{Root: 5, Before: before, Note: strings.Repeat("n", long)})
				if impl.VersionsValid(with) != (long >= 1 && long <= 8) {
					t.Fatalf("a note of %d bytes in %v", long, with)
				}
			}
		}
	}
}

// Versions may be equal, and have equal roots and notes.
func TestEqualVersionsAreValid(t *testing.T) {
	for many := range 13 {
		list := slices.Repeat([]impl.Version{{Root: 7, Before: -1, Note: "same"}}, many)
		if !impl.VersionsValid(list) || len(impl.TipsOf(list)) != many {
			t.Fatalf("%v is valid", list)
		}
		for n := 1; n < many; n++ {
			list[n].Before = 0
		}
		if !impl.VersionsValid(list) {
			t.Fatalf("%v is valid", list)
		}
	}
}

// P80
func TestVersionsFollowEarlierOnes(t *testing.T) {
	for _, list := range someVersions() {
		for n := range list {
			with := slices.Clone(list)
			for number := n; number <= len(list)+1; number++ {
				with[n].Before = number
				if impl.VersionsValid(with) {
					t.Fatalf("%v is not valid: the version %d is after %d", with, n, number)
				}
			}
			for number := -1; number < n; number++ {
				with[n].Before = number
				if !impl.VersionsValid(with) {
					t.Fatalf("%v is valid: the version %d is after %d", with, n, number)
				}
			}
			with[n].Before = -2
			if impl.VersionsValid(with) {
				t.Fatalf("%v is not valid: the version %d is after -2", with, n)
			}
		}
		for many := range list {
			if !impl.VersionsValid(list[:many]) {
				t.Fatalf("the first %d of %v are valid", many, list)
			}
		}
	}
}

// P18
func TestAddedVersionsAreLast(t *testing.T) {
	many := 0
	for i, list := range someVersions() {
		if len(list) == 12 {
			continue
		}
		for before := -1; before < len(list); before++ {
			v := impl.Version{Root: (i*104729 + before + 1) % 16777213, Before: before, Note: "n" + strconv.Itoa(i)}
			got := checkAdded(t, list, v)
			want := []int{len(list)}
			if before != -1 {
				want = append(want, impl.LineOf(list, before)...)
			}
			if line := impl.LineOf(got, len(list)); !slices.Equal(line, want) {
				t.Fatalf("the line of the last one of %v is %v, not %v", got, line, want)
			}
			for n := range list {
				if old, line := impl.LineOf(list, n), impl.LineOf(got, n); !slices.Equal(old, line) {
					t.Fatalf("the line of %d was %v, and in %v it is %v", n, old, got, line)
				}
			}
			tips := slices.DeleteFunc(impl.TipsOf(list), func(n int) bool { return n == before })
			if added := impl.TipsOf(got); !slices.Equal(added, append(tips, len(list))) {
				t.Fatalf("the tips of %v are %v, and before it was added without that before it %v", got, added, tips)
			}
			many++
		}
	}
	if many < 5000 {
		t.Fatalf("only %d versions are added", many)
	}
}

func TestVersionsAreAddedOneByOne(t *testing.T) {
	for _, list := range someVersions() {
		var got []impl.Version
		for _, version := range list {
			var ok bool
			if got, ok = impl.AddVersion(got, version); !ok {
				t.Fatalf("%v of %v is not added", version, list)
			}
		}
		if !slices.Equal(got, list) {
			t.Fatalf("%v is added as %v", list, got)
		}
	}
}

func TestVersionsOfAllRootsAndNotesAreAdded(t *testing.T) {
	for _, list := range fewVersions() {
		for i, root := range append(somePrints(), otherPrints...) {
			for _, note := range []string{folderNames[i%len(folderNames)], otherNames[i%len(otherNames)]} {
				v := impl.Version{Root: root, Before: i%(len(list)+1) - 1, Note: note}
				if len(list) < 12 && wantedVersion(v, len(list)) {
					checkAdded(t, list, v)
				} else {
					checkNotAdded(t, list, v)
				}
			}
		}
	}
}

func TestKnownVersionsAreAdded(t *testing.T) {
	first, second, third := impl.Version{Root: 0, Before: -1, Note: "a"}, impl.Version{Root: 16777212, Before: 0, Note: "zzzzzzzz"}, impl.Version{Root: 5, Before: -1, Note: "a0"}
	got, ok := impl.AddVersion(nil, first)
	if !ok || !slices.Equal(got, []impl.Version{first}) {
		t.Fatal(got, ok)
	}
	got, ok = impl.AddVersion(got, second)
	if !ok || !slices.Equal(got, []impl.Version{first, second}) {
		t.Fatal(got, ok)
	}
	got, ok = impl.AddVersion(got, third)
	if !ok || !slices.Equal(got, []impl.Version{first, second, third}) {
		t.Fatal(got, ok)
	}
	again, ok := impl.AddVersion(got, third)
	if !ok || !slices.Equal(again, []impl.Version{first, second, third, third}) {
		t.Fatal(again, ok)
	}
	for _, none := range [][]impl.Version{nil, {}} {
		if got, ok := impl.AddVersion(none, second); ok || len(got) != 0 {
			t.Fatalf("a version after 0 is added to none: %v, %v", got, ok)
		}
	}
}

func TestVersionsThatAreNotValidAreNotAdded(t *testing.T) {
	for _, list := range fewVersions() {
		for _, root := range otherPrints {
			checkNotAdded(t, list, impl.Version{Root: root, Before: -1, Note: "n"})
		}
		for _, number := range numbersNotBefore(len(list)) {
			checkNotAdded(t, list, impl.Version{Root: 5, Before: number, Note: "n"})
		}
		for _, note := range otherNames {
			checkNotAdded(t, list, impl.Version{Root: 5, Before: len(list) - 1, Note: note})
		}
		checkNotAdded(t, list, impl.Version{})
	}
}

func TestMaxVersionsAndOneMore(t *testing.T) {
	for _, before := range shapes(12) {
		list := versionsAfter(before...)
		for number := -2; number <= 13; number++ {
			checkNotAdded(t, list, impl.Version{Root: 5, Before: number, Note: "n"})
		}
		// With one less there is room for one.
		for number := -1; number < 11; number++ {
			got := checkAdded(t, list[:11], impl.Version{Root: 5, Before: number, Note: "n"})
			checkNotAdded(t, got, impl.Version{Root: 5, Before: number, Note: "n"})
		}
	}
}

func TestNothingIsAddedToVersionsThatAreNotValid(t *testing.T) {
	for _, list := range otherVersions() {
		for _, v := range []impl.Version{{Root: 5, Before: -1, Note: "n"}, {Root: 5, Before: 0, Note: "n"}, {Root: 5, Before: len(list) - 1, Note: "n"}, {Root: 5, Before: len(list), Note: "n"}, {}, {Root: -1, Before: -1, Note: "n"}, list[len(list)-1]} {
			if got, ok := add(t, list, v); ok || len(got) != 0 {
				t.Fatalf("AddVersion(%v, %v) is %v, %v", list, v, got, ok)
			}
		}
	}
}

func TestTwoVersionsAddedToTheSameOnes(t *testing.T) {
	for _, list := range fewVersions() {
		if len(list) == 12 {
			continue
		}
		given, whole := roomyVersions(list)
		before := slices.Clone(whole)
		one, two := impl.Version{Root: 1, Before: -1, Note: "one"}, impl.Version{Root: 2, Before: len(list) - 1, Note: "two"}
		first, ok := impl.AddVersion(given, one)
		second, also := impl.AddVersion(given, two)
		if !ok || !also || !slices.Equal(first, append(slices.Clone(list), one)) || !slices.Equal(second, append(slices.Clone(list), two)) {
			t.Fatalf("%v with %v is %v, and with %v %v", list, one, first, two, second)
		}
		if !slices.Equal(whole, before) {
			t.Fatalf("adding to %v writes to it: %v", before, whole)
		}
	}
}

func TestResultsOfAddedVersionsAreNew(t *testing.T) {
	for _, list := range fewVersions() {
		for _, v := range []impl.Version{{Root: 5, Before: len(list) - 1, Note: "n"}, {Root: 5, Before: len(list), Note: "n"}, {Root: 5, Before: -1, Note: "N"}} {
			given, whole := roomyVersions(list)
			before := slices.Clone(whole)
			first, _ := impl.AddVersion(given, v)
			want := slices.Clone(first)
			second, _ := impl.AddVersion(given, v)
			clear(second[:cap(second)])
			if !slices.Equal(first, want) || !slices.Equal(whole, before) {
				t.Fatalf("a result of AddVersion(%v, %v) shares memory", list, v)
			}
			clear(whole)
			if !slices.Equal(first, want) {
				t.Fatalf("a result of AddVersion(%v, %v) shares memory with its argument", list, v)
			}
		}
	}
}

func TestKnownLines(t *testing.T) {
	known := []struct {
		before []int
		lines  [][]int
	}{
		{[]int{-1}, [][]int{{0}}},
		{[]int{-1, 0}, [][]int{{0}, {1, 0}}},
		{[]int{-1, -1}, [][]int{{0}, {1}}},
		{[]int{-1, 0, 1}, [][]int{{0}, {1, 0}, {2, 1, 0}}},
		{[]int{-1, 0, 0}, [][]int{{0}, {1, 0}, {2, 0}}},
		{[]int{-1, -1, 0, 1, 2, 3}, [][]int{{0}, {1}, {2, 0}, {3, 1}, {4, 2, 0}, {5, 3, 1}}},
		{[]int{-1, 0, 1, 1, 0, -1}, [][]int{{0}, {1, 0}, {2, 1, 0}, {3, 1, 0}, {4, 0}, {5}}},
		{[]int{-1, 0, 0, 2, 1, 4, 3, -1, 7, 6, 5, 9}, [][]int{{0}, {1, 0}, {2, 0}, {3, 2, 0}, {4, 1, 0}, {5, 4, 1, 0}, {6, 3, 2, 0}, {7}, {8, 7}, {9, 6, 3, 2, 0}, {10, 5, 4, 1, 0}, {11, 9, 6, 3, 2, 0}}},
	}
	for _, x := range known {
		list := versionsAfter(x.before...)
		for n, line := range x.lines {
			if got := impl.LineOf(list, n); !slices.Equal(got, line) {
				t.Fatalf("LineOf(%v, %d) is %v, not %v", list, n, got, line)
			}
			if got := wantedLine(list, n); !slices.Equal(got, line) {
				t.Fatalf("the other way finds %v as the line of %d in %v", got, n, list)
			}
		}
	}
	// A line through all versions, and versions without one before.
	for many := 1; many <= 12; many++ {
		all := befores(many, func(n int) int { return many - 1 - n })
		if got := impl.LineOf(versionsAfter(shapes(many)[0]...), many-1); !slices.Equal(got, all) {
			t.Fatalf("the line through %d versions is %v", many, got)
		}
		for n := range many {
			if got := impl.LineOf(versionsAfter(shapes(many)[1]...), n); !slices.Equal(got, []int{n}) {
				t.Fatalf("the line of %d, which has none before it, is %v", n, got)
			}
		}
	}
}

// P81
func TestLinesDescend(t *testing.T) {
	for _, list := range someVersions() {
		for n := range list {
			line := impl.LineOf(list, n)
			if !slices.Equal(line, wantedLine(list, n)) {
				t.Fatalf("LineOf(%v, %d) is %v", list, n, line)
			}
			for i := 1; i < len(line); i++ {
				if line[i] >= line[i-1] || line[i] != list[line[i-1]].Before {
					t.Fatalf("LineOf(%v, %d) is %v, and %d is before %d", list, n, line, line[i], line[i-1])
				}
			}
			if line[0] != n || list[line[len(line)-1]].Before != -1 {
				t.Fatalf("LineOf(%v, %d) is %v, with other ends", list, n, line)
			}
		}
	}
}

func TestNumbersThatAreNoVersionsHaveNoLine(t *testing.T) {
	for _, list := range someVersions() {
		for _, n := range numbersBeyond(len(list)) {
			if got := impl.LineOf(list, n); len(got) != 0 {
				t.Fatalf("LineOf(%v, %d) is %v", list, n, got)
			}
		}
	}
}

func TestOtherVersionsHaveNoLines(t *testing.T) {
	for _, list := range otherVersions() {
		for _, n := range []int{-1, 0, 1, 2, 5, 11, 12, len(list) - 1, len(list)} {
			if got := impl.LineOf(list, n); len(got) != 0 {
				t.Fatalf("LineOf(%v, %d) is %v", list, n, got)
			}
		}
	}
}

func TestKnownNearestOfBoth(t *testing.T) {
	list := versionsAfter(-1, 0, 0, 2, 1, 4, 3, -1, 7, 6, 5, 9)
	known := []struct{ a, b, nearest int }{
		{0, 0, 0}, {7, 7, 7}, {11, 11, 11},
		// One is in the line of the other one.
		{1, 0, 0}, {11, 0, 0}, {11, 2, 2}, {11, 9, 9}, {8, 7, 7}, {10, 4, 4},
		// They share the very first one alone, or more.
		{1, 2, 0}, {11, 10, 0}, {9, 5, 0}, {3, 4, 0}, {6, 10, 0},
		// They share none.
		{7, 0, -1}, {8, 0, -1}, {8, 11, -1}, {7, 10, -1}, {7, 6, -1},
	}
	for _, x := range known {
		checkNearest(t, list, x.a, x.b, x.nearest)
		if got := wantedNearest(list, x.a, x.b); got != x.nearest {
			t.Fatalf("the other way finds %d for %d and %d", got, x.a, x.b)
		}
	}
	shared := versionsAfter(-1, 0, 1, 2, 2, 3, 4, 5, 6, -1, 9, 9)
	for _, x := range [][3]int{{7, 8, 2}, {5, 6, 2}, {3, 4, 2}, {7, 4, 2}, {8, 2, 2}, {7, 1, 1}, {10, 11, 9}, {10, 9, 9}, {11, 8, -1}, {9, 0, -1}} {
		checkNearest(t, shared, x[0], x[1], x[2])
	}
	// In a single line it is the lesser one, of several beginnings there is none, and of many after the same one it is that.
	for a := range 12 {
		for b := range a {
			checkNearest(t, versionsAfter(shapes(12)[0]...), a, b, b)
			checkNearest(t, versionsAfter(shapes(12)[1]...), a, b, -1)
			checkNearest(t, versionsAfter(shapes(12)[2]...), a, b, 0)
		}
	}
}

// P82
func TestTheNearestOneIsBeforeBoth(t *testing.T) {
	some, none := 0, 0
	for _, list := range someVersions() {
		for a := range list {
			for b := range list {
				nearest := wantedNearest(list, a, b)
				checkNearest(t, list, a, b, nearest)
				if nearest == -1 {
					none++
					continue
				}
				some++
				first, second := impl.LineOf(list, a), impl.LineOf(list, b)
				if !slices.Contains(first, nearest) || !slices.Contains(second, nearest) {
					t.Fatalf("%d is not in the lines %v and %v", nearest, first, second)
				}
				if rest := impl.LineOf(list, nearest); !slices.Equal(first[len(first)-len(rest):], rest) || !slices.Equal(second[len(second)-len(rest):], rest) {
					t.Fatalf("the lines %v and %v go on from %d on as another one than %v", first, second, nearest, rest)
				}
			}
			checkNearest(t, list, a, a, a)
			for _, before := range impl.LineOf(list, a) {
				checkNearest(t, list, a, before, before)
			}
		}
	}
	if some < 5000 || none < 5000 {
		t.Fatalf("%d pairs have a nearest one, and %d have none", some, none)
	}
}

func TestNumbersThatAreNoVersionsHaveNoNearest(t *testing.T) {
	for _, list := range fewVersions() {
		beyond := numbersBeyond(len(list))
		for i, n := range beyond {
			for a := range list {
				checkNearest(t, list, a, n, -1)
			}
			checkNearest(t, list, n, n, -1)
			checkNearest(t, list, n, beyond[(i+1)%len(beyond)], -1)
		}
	}
}

func TestOtherVersionsHaveNoNearest(t *testing.T) {
	for _, list := range otherVersions() {
		for _, n := range []int{-1, 0, 1, 2, 5, 11, 12, len(list) - 1, len(list)} {
			checkNearest(t, list, n, n, -1)
			checkNearest(t, list, n, 0, -1)
			checkNearest(t, list, n, len(list)-1, -1)
		}
	}
}

func TestKnownTips(t *testing.T) {
	known := []struct{ before, tips []int }{
		{nil, nil},
		{[]int{-1}, []int{0}},
		{[]int{-1, 0}, []int{1}},
		{[]int{-1, -1}, []int{0, 1}},
		{[]int{-1, 0, 0}, []int{1, 2}},
		{[]int{-1, 0, 1}, []int{2}},
		{[]int{-1, -1, 0, 1, 2, 3}, []int{4, 5}},
		{[]int{-1, 0, 1, 1, 0, -1}, []int{2, 3, 4, 5}},
		{[]int{-1, -1, -1, 1, 1, 1}, []int{0, 2, 3, 4, 5}},
		{[]int{-1, 0, 0, 2, 1, 4, 3, -1, 7, 6, 5, 9}, []int{8, 10, 11}},
	}
	for _, x := range known {
		if got := impl.TipsOf(versionsAfter(x.before...)); !slices.Equal(got, x.tips) {
			t.Fatalf("the tips of versions after %v are %v, not %v", x.before, got, x.tips)
		}
		if got := wantedTips(versionsAfter(x.before...)); !slices.Equal(got, x.tips) {
			t.Fatalf("the other way finds the tips %v of versions after %v", got, x.before)
		}
	}
	for many := 2; many <= 12; many++ {
		all := befores(many, func(n int) int { return n })
		for shape, tips := range [][]int{all[many-1:], all, all[1:]} {
			if got := impl.TipsOf(versionsAfter(shapes(many)[shape]...)); !slices.Equal(got, tips) {
				t.Fatalf("the tips of versions after %v are %v, not %v", shapes(many)[shape], got, tips)
			}
		}
	}
}

// P83
func TestEveryVersionLeadsToATip(t *testing.T) {
	for _, list := range someVersions() {
		tips := impl.TipsOf(list)
		if !slices.Equal(tips, wantedTips(list)) || (len(tips) > 0) != (len(list) > 0) {
			t.Fatalf("the tips of %v are %v", list, tips)
		}
		below := map[int]bool{}
		for i, tip := range tips {
			if i > 0 && tip <= tips[i-1] {
				t.Fatalf("the tips %v of %v do not ascend", tips, list)
			}
			for _, n := range impl.LineOf(list, tip) {
				below[n] = true
			}
		}
		for n := range list {
			if !below[n] {
				t.Fatalf("%d of %v is in no line of the tips %v", n, list, tips)
			}
			// A tip is in no other version's line.
			for other := n + 1; other < len(list); other++ {
				if slices.Contains(tips, n) && slices.Contains(impl.LineOf(list, other), n) {
					t.Fatalf("%d of %v is a tip, and in the line of %d", n, list, other)
				}
			}
		}
	}
}

func TestOtherVersionsHaveNoTips(t *testing.T) {
	for _, list := range otherVersions() {
		if got := impl.TipsOf(list); len(got) != 0 {
			t.Fatalf("the tips of %v are %v", list, got)
		}
	}
}

func TestResultsOfLinesAndTipsAreNew(t *testing.T) {
	for _, list := range fewVersions() {
		given, whole := roomyVersions(list)
		before := slices.Clone(whole)
		for n := range list {
			line, tips := impl.LineOf(given, n), impl.TipsOf(given)
			other, others := impl.LineOf(given, n), impl.TipsOf(given)
			clear(other[:cap(other)])
			clear(others[:cap(others)])
			impl.NearestBoth(given, n, len(list)/2)
			if !slices.Equal(line, wantedLine(list, n)) || !slices.Equal(tips, wantedTips(list)) || !slices.Equal(whole, before) {
				t.Fatalf("the line of %d or the tips of %v share memory, or are written to it", n, list)
			}
		}
	}
}
