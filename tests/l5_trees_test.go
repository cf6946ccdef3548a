package tests

import (
	"math"
	"math/bits"
	"slices"
	"testing"

	"loop.example/proofarchive/impl"
)

// numbersBeyond returns numbers that are none of 0..many-1.
func numbersBeyond(many int) []int {
	return []int{-1, -2, -many, -many - 1, math.MinInt, math.MinInt + 1, many, many + 1, many + 2, 2 * many, many + 16, many + 256, 1 << 32, 1<<32 + many - 1, math.MaxInt}
}

// noMany are numbers that are none of 1..MaxLeaves.
var noMany = []int{0, -1, -2, -15, -16, math.MinInt, math.MinInt + 1, 17, 18, 31, 32, 33, 256, 257, 272, 1 << 32, 1<<32 + 1, math.MaxInt}

// treeLists returns lists of 1..MaxLeaves prints.
func treeLists() [][]int {
	prints := somePrints()
	var list [][]int
	for many := 1; many <= 16; many++ {
		list = append(list, slices.Repeat([]int{0}, many), slices.Repeat([]int{impl.MaxPrint}, many))
		var up, mixed []int
		for n := range many {
			up = append(up, n+1)
			mixed = append(mixed, (n+1)*1000003%(impl.MaxPrint+1))
		}
		list = append(list, up, mixed)
		for begin := 0; begin+many <= len(prints); begin += 5 {
			list = append(list, slices.Clone(prints[begin:begin+many]))
		}
	}
	return list
}

// wantedRoot returns the print at the top, from the top on: on its left are as many prints as possible of a power of two that is less than all.
func wantedRoot(list []int) int {
	if len(list) == 1 {
		return list[0]
	}
	left := 1 << (bits.Len(uint(len(list)-1)) - 1)
	return wantedPair(wantedRoot(list[:left]), wantedRoot(list[left:]))
}

// wantedProof returns for each level the root of the prints below the partner.
func wantedProof(list []int, n int) []int {
	var proof []int
	for below := 1; below < len(list); below *= 2 {
		begin := (n/below ^ 1) * below
		if begin >= len(list) {
			proof = append(proof, -1)
			continue
		}
		proof = append(proof, wantedRoot(list[begin:min(begin+below, len(list))]))
	}
	return proof
}

// wantedLead returns the print at the top to which valid arguments lead, and -1 for other proofs, from the top on.
func wantedLead(print, n, many int, proof []int) int {
	if len(proof) != bits.Len(uint(many-1)) {
		return -1
	}
	return leadBelow(print, n, many, proof)
}

func leadBelow(print, n, many int, proof []int) int {
	levels := len(proof)
	if levels == 0 {
		return print
	}
	left, top := 1<<(levels-1), proof[levels-1]
	if many <= left {
		if top != -1 {
			return -1
		}
		return leadBelow(print, n, many, proof[:levels-1])
	}
	if top < 0 || top > impl.MaxPrint {
		return -1
	}
	if n < left {
		return pairOrNone(leadBelow(print, n, left, proof[:levels-1]), top)
	}
	return pairOrNone(top, leadBelow(print, n-left, many-left, proof[:levels-1]))
}

func pairOrNone(a, b int) int {
	if a == -1 || b == -1 {
		return -1
	}
	return wantedPair(a, b)
}

// allProofs returns all lists of at most five numbers of a few signs, among them -1, both ends of the prints, and numbers beside them.
func allProofs() [][]int {
	signs := []int{-1, 0, 9, impl.MaxPrint, -2, impl.MaxPrint + 1}
	list := [][]int{nil}
	for begin, long := 0, 0; long < 5; long++ {
		end := len(list)
		for ; begin < end; begin++ {
			for _, sign := range signs {
				list = append(list, append(slices.Clone(list[begin]), sign))
			}
		}
	}
	return list
}

func TestLimitsOfTrees(t *testing.T) {
	if impl.MaxLeaves != 16 {
		t.Fatal("a constant has another value than in the table of the document")
	}
}

func TestKnownTrees(t *testing.T) {
	// For each number of prints: 1, 2, 3 and so on, all 0, and all MaxPrint.
	known := [][3]int{
		{1, 0, 16777212}, {217380, 3, 16664568}, {10470684, 23760, 13829021}, {15731782, 337947, 11116284},
		{9698781, 8625429, 16488872}, {4236514, 8939616, 13776135}, {12842607, 13958945, 6444472}, {10281547, 1557362, 9536141},
		{698568, 1498126, 2360140}, {7343997, 1812313, 16424616}, {15022419, 6831642, 9092953}, {819990, 11207272, 12184622},
		{182091, 15349521, 3783680}, {5324797, 2947938, 6875349}, {12970456, 8617063, 11848393}, {1736939, 11175451, 15817407},
	}
	for i, k := range known {
		var up []int
		for n := range i + 1 {
			up = append(up, n+1)
		}
		lists := [][]int{up, slices.Repeat([]int{0}, i+1), slices.Repeat([]int{impl.MaxPrint}, i+1)}
		for j, list := range lists {
			if got := impl.TreeRoot(list); got != k[j] {
				t.Fatalf("TreeRoot(%v) is %d, not %d", list, got, k[j])
			}
		}
	}
	// The least root and the greatest one.
	if impl.TreeRoot([]int{0, 16048159}) != 0 || impl.TreeRoot([]int{0, 15805141}) != impl.MaxPrint {
		t.Fatal("trees of two prints")
	}
}

func TestKnownProofs(t *testing.T) {
	known := []struct {
		many, n int
		proof   []int
	}{
		{1, 0, nil}, {2, 0, []int{2}}, {2, 1, []int{1}}, {3, 0, []int{2, 3}}, {3, 1, []int{1, 3}}, {3, 2, []int{-1, 217380}},
		{5, 4, []int{-1, -1, 15731782}}, {6, 5, []int{5, -1, 15731782}}, {7, 5, []int{5, 7, 15731782}}, {7, 6, []int{-1, 667972, 15731782}},
		{9, 0, []int{2, 442676, 6172860, 9}}, {9, 8, []int{-1, -1, -1, 10281547}}, {16, 15, []int{15, 1569156, 13391151, 10281547}},
	}
	for _, k := range known {
		var list []int
		for n := range k.many {
			list = append(list, n+1)
		}
		if got := impl.TreeProof(list, k.n); !slices.Equal(got, k.proof) {
			t.Fatalf("TreeProof(%v, %d) is %v, not %v", list, k.n, got, k.proof)
		}
		if got, want := impl.ProofRoot(k.n+1, k.n, k.many, k.proof), impl.TreeRoot(list); got != want {
			t.Fatalf("ProofRoot(%d, %d, %d, %v) is %d, not %d", k.n+1, k.n, k.many, k.proof, got, want)
		}
	}
}

// P5
func TestProofsProve(t *testing.T) {
	for _, list := range treeLists() {
		before := slices.Clone(list)
		root := impl.TreeRoot(list)
		if root != wantedRoot(list) {
			t.Fatalf("TreeRoot(%v) is %d, not %d", list, root, wantedRoot(list))
		}
		for n, print := range list {
			proof := impl.TreeProof(list, n)
			if want := wantedProof(list, n); !slices.Equal(proof, want) {
				t.Fatalf("TreeProof(%v, %d) is %v, not %v", list, n, proof, want)
			}
			if got := impl.ProofRoot(print, n, len(list), proof); got != root {
				t.Fatalf("ProofRoot(%d, %d, %d, %v) is %d, not %d", print, n, len(list), proof, got, root)
			}
			for _, other := range append(slices.Concat(somePrints(), numbersOutside), print-1, print+1) {
				if got := impl.ProofRoot(other, n, len(list), proof); other != print && got == root {
					t.Fatalf("ProofRoot(%d, %d, %d, %v) is %d as it is of %d", other, n, len(list), proof, got, print)
				}
			}
		}
		if !slices.Equal(list, before) {
			t.Fatalf("TreeRoot or TreeProof writes to %v", before)
		}
	}
}

// P56
func TestTreesNoticeEveryPrint(t *testing.T) {
	for _, list := range treeLists() {
		for n := range list {
			roots := map[int]int{}
			for _, print := range somePrints() {
				with := slices.Clone(list)
				with[n] = print
				root := impl.TreeRoot(with)
				if root < 0 || root > impl.MaxPrint {
					t.Fatalf("TreeRoot(%v) is %d", with, root)
				}
				if other, twice := roots[root]; twice {
					t.Fatalf("TreeRoot of %v with %d or with %d as its print %d is the same", list, other, print, n)
				}
				roots[root] = print
			}
		}
	}
	for _, print := range somePrints() {
		if got := impl.TreeRoot([]int{print}); got != print {
			t.Fatalf("TreeRoot of %d alone is %d", print, got)
		}
	}
}

func TestTreesNoticeTheOrderOfPrints(t *testing.T) {
	for _, list := range treeLists() {
		for n := 1; n < len(list); n++ {
			with := slices.Clone(list)
			with[n], with[n-1] = with[n-1], with[n]
			if got, want := impl.TreeRoot(with), wantedRoot(with); got != want {
				t.Fatalf("TreeRoot(%v) is %d, not %d", with, got, want)
			}
		}
	}
	if impl.TreeRoot([]int{1, 2}) == impl.TreeRoot([]int{2, 1}) {
		t.Fatal("the order of two prints")
	}
}

// P57
func TestDifferentPrintsLeadToDifferentRoots(t *testing.T) {
	for _, list := range treeLists() {
		many := len(list)
		for n := range many {
			proof := impl.TreeProof(list, n)
			prints := map[int]int{}
			for _, print := range somePrints() {
				root := impl.ProofRoot(print, n, many, proof)
				if root < 0 || root != wantedLead(print, n, many, proof) {
					t.Fatalf("ProofRoot(%d, %d, %d, %v) is %d", print, n, many, proof, root)
				}
				if other, twice := prints[root]; twice {
					t.Fatalf("ProofRoot of %d and of %d with %d, %d, %v is the same", other, print, n, many, proof)
				}
				prints[root] = print
			}
			for _, more := range slices.Concat([]int{-1, 0, 1, list[n], impl.TreeRoot(list), impl.MaxPrint}, numbersOutside) {
				long := append(slices.Clone(proof), more)
				if got := impl.ProofRoot(list[n], n, many, long); got != -1 {
					t.Fatalf("ProofRoot(%d, %d, %d, %v) with a number more is %d", list[n], n, many, long, got)
				}
			}
		}
	}
}

func TestProofsHaveANumberForEachLevel(t *testing.T) {
	for _, list := range treeLists() {
		many := len(list)
		for n, print := range list {
			proof := impl.TreeProof(list, n)
			var wrong [][]int
			for i := range proof {
				wrong = append(wrong, slices.Clone(proof[:i]), slices.Delete(slices.Clone(proof), i, i+1))
			}
			for i := range len(proof) + 1 {
				wrong = append(wrong, slices.Insert(slices.Clone(proof), i, -1), slices.Insert(slices.Clone(proof), i, 7))
			}
			for _, longer := range []int{2, 16, 256, 1000} {
				wrong = append(wrong, append(slices.Clone(proof), slices.Repeat([]int{-1}, longer)...), append(slices.Clone(proof), slices.Repeat([]int{7}, longer)...))
			}
			for _, other := range wrong {
				if got := impl.ProofRoot(print, n, many, other); got != -1 {
					t.Fatalf("ProofRoot(%d, %d, %d, %v) is %d, not -1", print, n, many, other, got)
				}
			}
		}
	}
}

func TestProofsHaveNoneOnlyWhereAPrintIsLeftOver(t *testing.T) {
	for _, list := range treeLists() {
		many := len(list)
		for n, print := range list {
			proof := impl.TreeProof(list, n)
			for i, number := range proof {
				wrong := append([]int{-1}, numbersOutside...)
				if number == -1 {
					wrong = append([]int{-2, print, impl.TreeRoot(list)}, append(somePrints(), numbersOutside[1:]...)...)
				}
				for _, other := range wrong {
					with := slices.Clone(proof)
					with[i] = other
					if got := impl.ProofRoot(print, n, many, with); got != -1 {
						t.Fatalf("ProofRoot(%d, %d, %d, %v) is %d, not -1", print, n, many, with, got)
					}
				}
			}
		}
	}
}

func TestAnyProofs(t *testing.T) {
	for _, proof := range allProofs() {
		before := slices.Clone(proof)
		for many := 1; many <= 16; many++ {
			for n := range many {
				if got, want := impl.ProofRoot(7, n, many, proof), wantedLead(7, n, many, proof); got != want {
					t.Fatalf("ProofRoot(7, %d, %d, %v) is %d, not %d", n, many, proof, got, want)
				}
			}
		}
		if !slices.Equal(proof, before) {
			t.Fatalf("ProofRoot writes to %v", before)
		}
	}
}

func TestOtherListsHaveNoTree(t *testing.T) {
	others := [][]int{nil, {}}
	for _, many := range []int{17, 18, 31, 32, 33, 64, 256, 257, 272, 1000} {
		others = append(others, slices.Repeat([]int{0}, many), slices.Repeat([]int{7}, many), slices.Repeat([]int{-1}, many))
	}
	for _, list := range treeLists() {
		for i := range list {
			for _, n := range numbersOutside {
				with := slices.Clone(list)
				with[i] = n
				others = append(others, with)
			}
		}
	}
	for _, list := range others {
		before := slices.Clone(list)
		if got := impl.TreeRoot(list); got != -1 {
			t.Fatalf("TreeRoot(%v) is %d, not -1", list, got)
		}
		for n := -2; n < 20; n++ {
			if got := impl.TreeProof(list, n); len(got) != 0 {
				t.Fatalf("TreeProof(%v, %d) is %v", list, n, got)
			}
		}
		if !slices.Equal(list, before) {
			t.Fatalf("%v was written to", before)
		}
	}
}

func TestTreesHaveAtMostMaxLeaves(t *testing.T) {
	for many := 1; many <= 40; many++ {
		list := slices.Repeat([]int{7}, many)
		proof := impl.TreeProof(list, many-1)
		if many <= 16 {
			if got := impl.TreeRoot(list); got != wantedRoot(list) || len(proof) != bits.Len(uint(many-1)) {
				t.Fatalf("%d prints have the root %d and the proof %v", many, got, proof)
			}
			continue
		}
		if got := impl.TreeRoot(list); got != -1 || len(proof) != 0 {
			t.Fatalf("%d prints have the root %d and the proof %v", many, got, proof)
		}
		for n := range many {
			if got := impl.ProofRoot(7, n, many, wantedProof(list, n)); got != -1 {
				t.Fatalf("print %d of %d leads to %d", n, many, got)
			}
		}
	}
}

func TestNumbersBeyondTheListHaveNoProof(t *testing.T) {
	for _, list := range treeLists() {
		many := len(list)
		for _, n := range numbersBeyond(many) {
			if got := impl.TreeProof(list, n); len(got) != 0 {
				t.Fatalf("TreeProof(%v, %d) is %v", list, n, got)
			}
			for place, print := range list {
				proof := impl.TreeProof(list, place)
				if got := impl.ProofRoot(print, n, many, proof); got != -1 {
					t.Fatalf("ProofRoot(%d, %d, %d, %v) is %d, not -1", print, n, many, proof, got)
				}
			}
		}
	}
	// Proofs of 5, 6, 7 and 8 prints are equally long, so that the number alone is wrong here.
	for n := 5; n < 8; n++ {
		if impl.ProofRoot(7, n, 8, []int{1, 2, 3}) == -1 || impl.ProofRoot(7, n, n, []int{1, 2, 3}) != -1 {
			t.Fatalf("print %d of %d and of 8", n, n)
		}
	}
}

func TestOtherArgumentsLeadNowhere(t *testing.T) {
	for _, many := range noMany {
		for _, n := range []int{-1, 0, 1, 7, 15, 16, 17, many - 1, many} {
			for _, proof := range [][]int{nil, {}, {-1}, {7}, {7, 7, 7, 7}, {7, 7, 7, 7, 7}, {-1, -1, -1, -1, 7}, slices.Repeat([]int{7}, 32), slices.Repeat([]int{-1}, 62)} {
				if got := impl.ProofRoot(7, n, many, proof); got != -1 {
					t.Fatalf("ProofRoot(7, %d, %d, %v) is %d, not -1", n, many, proof, got)
				}
			}
		}
	}
	for _, list := range treeLists() {
		for n := range list {
			proof := impl.TreeProof(list, n)
			for _, other := range numbersOutside {
				if got := impl.ProofRoot(other, n, len(list), proof); got != -1 {
					t.Fatalf("ProofRoot(%d, %d, %d, %v) is %d, not -1", other, n, len(list), proof, got)
				}
			}
		}
	}
}

func TestResultsOfTreesAreNew(t *testing.T) {
	for _, list := range treeLists() {
		whole := append(slices.Clone(list), slices.Repeat([]int{-7}, 50)...)
		given, before := whole[:len(list)], slices.Clone(whole)
		for n, print := range list {
			proof := impl.TreeProof(given, n)
			want := wantedProof(list, n)
			other := impl.TreeProof(given, n)
			clear(other[:cap(other)])
			if !slices.Equal(proof, want) || !slices.Equal(whole, before) {
				t.Fatalf("a result of TreeProof(%v, %d) shares memory", list, n)
			}
			roomy := append(slices.Clone(proof), slices.Repeat([]int{-7}, 50)...)
			spare := slices.Clone(roomy)
			if impl.ProofRoot(print, n, len(list), roomy[:len(proof)]) != impl.TreeRoot(given) || !slices.Equal(roomy, spare) || !slices.Equal(whole, before) {
				t.Fatalf("TreeRoot(%v) or ProofRoot with %v writes to it", list, proof)
			}
			clear(whole)
			if !slices.Equal(proof, want) {
				t.Fatalf("the result of TreeProof(%v, %d) shares memory with its argument", list, n)
			}
			copy(whole, before)
		}
	}
}
