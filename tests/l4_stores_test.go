package tests

import (
	"cmp"
	"math"
	"slices"
	"strconv"
	"strings"
	"testing"

	"loop.example/proofarchive/impl"
)

// samePrints are pairs of different texts that have the same print; the first pairs have 1, 0 and the greatest print.
var samePrints = [][2]string{
	{"", "aagjuy"}, {"aagjux", "aahgxt"}, {"aagjuw", "aahgxs"},
	{"bada", "adae"}, {"hello bada", "hello adae"}, {"bada world", "adae world"}, {"dada" + strings.Repeat("~", 56), "cdae" + strings.Repeat("~", 56)},
}

// storeOf returns the store with texts that have different prints, in another way than the program does.
func storeOf(texts ...string) []impl.Piece {
	byPrint := map[int]string{}
	for _, text := range texts {
		if other, twice := byPrint[wantedPrint(text)]; twice && other != text {
			panic("different texts with the same print")
		}
		byPrint[wantedPrint(text)] = text
	}
	var store []impl.Piece
	for print, text := range byPrint {
		store = append(store, impl.Piece{Print: print, Text: text})
	}
	slices.SortFunc(store, func(a, b impl.Piece) int { return cmp.Compare(a.Print, b.Print) })
	return store
}

func textsOf(store []impl.Piece) []string {
	var texts []string
	for _, piece := range store {
		texts = append(texts, piece.Text)
	}
	return texts
}

// manyTexts returns different texts, none with the print of another one.
func manyTexts(begin string, many int) []string {
	var texts []string
	for n := range many {
		texts = append(texts, begin+strconv.Itoa(n))
	}
	return texts
}

// someStores returns valid stores of 0 to MaxPieces pieces.
func someStores() [][]impl.Piece {
	long := strings.Repeat("~", impl.MaxText)
	list := [][]impl.Piece{
		nil, {}, storeOf(""), storeOf("a"), storeOf("ab"), storeOf(long), storeOf("", long), storeOf("aagjux"), storeOf("aagjuw"),
		storeOf("aagjux", "aagjuw"), storeOf("aagjux", "", "a", "b", "ab", "hello world", "aagjuw"),
	}
	for many := range impl.MaxPieces + 1 {
		list = append(list, storeOf(manyTexts("", many)...), storeOf(manyTexts("text ", many)...))
	}
	for _, two := range samePrints {
		list = append(list, storeOf(two[0]), storeOf(two[1]), storeOf(append(manyTexts("x", 39), two[0])...))
	}
	for _, text := range printTexts() {
		if len(text)%10 == 3 {
			list = append(list, storeOf(text, "abcd", "efgh"))
		}
	}
	return list
}

// someTexts returns valid texts to put: both texts of each of samePrints, some that stores have, some that none has.
func someTexts() []string {
	texts := []string{"", "a", "ab", " ", "~", "0", "39", "40", "text 0", "text 7", "text 39", "new", "hello world", strings.Repeat("~", impl.MaxText), strings.Repeat("a", impl.MaxText)}
	for _, two := range samePrints {
		texts = append(texts, two[0], two[1])
	}
	return texts
}

// wantedPut returns the store after a valid text was put, and whether that is possible, in another way than the program does.
func wantedPut(store []impl.Piece, text string) ([]impl.Piece, bool) {
	for _, piece := range store {
		if piece.Print == wantedPrint(text) {
			return store, piece.Text == text
		}
	}
	if len(store) == 40 {
		return store, false
	}
	return storeOf(append(textsOf(store), text)...), true
}

// wantedJoin returns the store with the pieces of two stores, and whether there is one, in another way than the program does.
func wantedJoin(a, b []impl.Piece) ([]impl.Piece, bool) {
	all := append(slices.Clone(a), b...)
	slices.SortFunc(all, func(x, y impl.Piece) int { return cmp.Or(cmp.Compare(x.Print, y.Print), cmp.Compare(x.Text, y.Text)) })
	all = slices.Compact(all)
	for i := 1; i < len(all); i++ {
		if all[i].Print == all[i-1].Print {
			return nil, false
		}
	}
	if len(all) > 40 {
		return nil, false
	}
	return all, true
}

// otherStores returns lists of pieces that are no valid store.
func otherStores() [][]impl.Piece {
	good := storeOf("a", "ab", "hello world", "new")
	list := [][]impl.Piece{
		{{}}, {{Print: -1}}, {{Print: 2}}, {{Print: 1, Text: "a"}}, {{Print: 354}}, {{Print: 354, Text: "b"}}, {{Print: -1, Text: "a"}},
		storeOf(manyTexts("", 41)...), storeOf(manyTexts("", 42)...), storeOf(manyTexts("", 256)...), storeOf(manyTexts("", 296)...),
		slices.Repeat(good[:1], 2), slices.Repeat(good[:1], 40), slices.Repeat(good, 2), append(storeOf(manyTexts("x", 38)...), impl.Piece{}),
		append(storeOf("aagjux", "aagjuw"), storeOf("a")...),
	}
	for _, two := range samePrints {
		list = append(list, append(storeOf(two[0]), storeOf(two[1])...), append(storeOf(two[1]), storeOf(two[0])...))
	}
	for _, store := range [][]impl.Piece{good, good[:1], storeOf("", "aagjuw"), storeOf(manyTexts("x", 40)...)} {
		list = append(list, wronged(store)...)
	}
	return list
}

// wronged returns a valid store with one thing wrong each.
func wronged(store []impl.Piece) [][]impl.Piece {
	var list [][]impl.Piece
	for i, piece := range store {
		for _, print := range append([]int{piece.Print - 1, piece.Print + 1, -piece.Print, piece.Print + impl.MaxPrint + 1, piece.Print - impl.MaxPrint - 1}, numbersOutside...) {
			with := slices.Clone(store)
			with[i].Print = print
			list = append(list, with)
		}
		for _, text := range []string{piece.Text + "\n", "\n", "\xff", "\u00e4", strings.Repeat("a", 61)} {
			with := slices.Clone(store)
			with[i].Text = text
			list = append(list, slices.Clone(with))
			for _, print := range []int{-1, wantedPrint(text)} {
				with[i].Print = print
				list = append(list, slices.Clone(with))
			}
		}
		if i > 0 {
			with := slices.Clone(store)
			with[i], with[i-1] = with[i-1], with[i]
			list = append(list, with)
		}
		list = append(list, slices.Insert(slices.Clone(store), i, piece))
	}
	return list
}

// storeProblem tells where a store is wrong, without the program's help.
func storeProblem(store []impl.Piece) string {
	if len(store) > 40 {
		return "too many pieces"
	}
	for i, piece := range store {
		if len(piece.Text) > 60 || piece.Print != wantedPrint(piece.Text) {
			return "wrong piece"
		}
		if i > 0 && store[i-1].Print >= piece.Print {
			return "no ascending prints"
		}
	}
	return ""
}

func TestLimitsOfStores(t *testing.T) {
	if impl.MaxPieces != 40 {
		t.Fatal("a constant has another value than in the table of the document")
	}
}

func TestTheTextsOfSamePrints(t *testing.T) {
	for _, two := range samePrints {
		if two[0] == two[1] || wantedPrint(two[0]) != wantedPrint(two[1]) || impl.PrintOf(two[0]) != impl.PrintOf(two[1]) {
			t.Fatalf("%q and %q", two[0], two[1])
		}
	}
}

func TestValidStores(t *testing.T) {
	if !impl.StoreValid([]impl.Piece{{Print: 0, Text: "aagjux"}, {Print: 1}, {Print: 354, Text: "a"}, {Print: 91076, Text: "ab"}, {Print: 16777212, Text: "aagjuw"}}) {
		t.Fatal("a store of five pieces")
	}
	for _, store := range someStores() {
		if !impl.StoreValid(store) {
			t.Fatalf("%v is valid", store)
		}
	}
}

func TestOtherPiecesAreNoStores(t *testing.T) {
	for _, pieces := range otherStores() {
		if impl.StoreValid(pieces) {
			t.Fatalf("%v is not valid", pieces)
		}
	}
}

func TestStoresHaveAtMostMaxPieces(t *testing.T) {
	for many := 0; many <= 100; many++ {
		if store := storeOf(manyTexts("", many)...); len(store) != many || impl.StoreValid(store) != (many <= 40) {
			t.Fatalf("a store of %d pieces", many)
		}
	}
}

func TestStoresHaveValidTexts(t *testing.T) {
	for _, text := range otherTexts() {
		for _, print := range []int{-1, 0, 1, wantedPrint(text)} {
			if impl.StoreValid([]impl.Piece{{Print: print, Text: text}}) {
				t.Fatalf("a piece of %d and %q", print, text)
			}
		}
	}
	for _, text := range printTexts() {
		if !impl.StoreValid([]impl.Piece{{Print: wantedPrint(text), Text: text}}) {
			t.Fatalf("%q is a valid text", text)
		}
	}
}

// P54
func TestPrintsComeOnce(t *testing.T) {
	for _, store := range someStores() {
		if len(store) == 0 {
			continue
		}
		if !impl.StoreValid(store[1:]) {
			t.Fatalf("%v without the first piece is valid", store)
		}
		for i := range store {
			if impl.StoreValid(slices.Insert(slices.Clone(store), i, store[i])) {
				t.Fatalf("%v is not valid with the piece %d twice", store, i)
			}
			if !impl.StoreValid(slices.Delete(slices.Clone(store), i, i+1)) {
				t.Fatalf("%v is valid without the piece %d", store, i)
			}
		}
		if impl.StoreValid(append(slices.Clone(store), store[0])) {
			t.Fatalf("%v is not valid with the first piece as the last one, too", store)
		}
	}
}

func TestPrintsAscend(t *testing.T) {
	for _, store := range someStores() {
		for i := 1; i < len(store); i++ {
			with := slices.Clone(store)
			with[i], with[i-1] = with[i-1], with[i]
			if impl.StoreValid(with) {
				t.Fatalf("the pieces %d and %d are exchanged in %v", i-1, i, with)
			}
			if turned := slices.Concat(store[i:], store[:i]); impl.StoreValid(turned) {
				t.Fatalf("%v does not ascend", turned)
			}
		}
	}
}

func TestKnownStores(t *testing.T) {
	var store []impl.Piece
	for _, text := range []string{"ab", "", "aagjuw", "a", "aagjux", "ab", ""} {
		var ok bool
		if store, _, ok = impl.PutText(store, text); !ok {
			t.Fatalf("%q is not put", text)
		}
	}
	want := []impl.Piece{{Print: 0, Text: "aagjux"}, {Print: 1, Text: ""}, {Print: 354, Text: "a"}, {Print: 91076, Text: "ab"}, {Print: 16777212, Text: "aagjuw"}}
	if !slices.Equal(store, want) {
		t.Fatalf("the store is %v", store)
	}
	for _, piece := range want {
		if text, ok := impl.GetText(store, piece.Print); !ok || text != piece.Text {
			t.Fatalf("GetText of %d is %q, %v", piece.Print, text, ok)
		}
	}
	for _, print := range append([]int{2, 353, 355, 91075, 91077, 16777211}, numbersOutside...) {
		if text, ok := impl.GetText(store, print); ok || text != "" {
			t.Fatalf("GetText of %d is %q, %v", print, text, ok)
		}
	}
}

// P3
func TestPutTextsCanBeGot(t *testing.T) {
	for _, store := range someStores() {
		for _, text := range someTexts() {
			before := slices.Clone(store)
			want, possible := wantedPut(store, text)
			got, print, ok := impl.PutText(store, text)
			if ok != possible || !slices.Equal(got, want) || storeProblem(got) != "" || !impl.StoreValid(got) {
				t.Fatalf("PutText(%v, %q) is %v, %d, %v", store, text, got, print, ok)
			}
			if !slices.Equal(store, before) {
				t.Fatalf("PutText of %q writes to %v", text, before)
			}
			if !ok {
				if print != -1 {
					t.Fatalf("%q is not put in %v, but has the print %d", text, store, print)
				}
				continue
			}
			if there, found := impl.GetText(got, print); !found || there != text || print != wantedPrint(text) {
				t.Fatalf("%q was put, and GetText of its print %d is %q, %v", text, print, there, found)
			}
			for _, piece := range store {
				if there, found := impl.GetText(got, piece.Print); !found || there != piece.Text {
					t.Fatalf("after %q was put, GetText of %v is %q, %v", text, piece, there, found)
				}
			}
			again, samePrint, ok := impl.PutText(got, text)
			if !ok || samePrint != print || !slices.Equal(again, got) {
				t.Fatalf("putting %q in %v again leads to %v, %d, %v", text, got, again, samePrint, ok)
			}
		}
	}
}

func TestOtherTextsWithTheSamePrintAreNotPut(t *testing.T) {
	for _, two := range samePrints {
		for _, many := range []int{0, 1, 20, 38, 39} {
			for i := range two {
				store := storeOf(append(manyTexts("x", many), two[i])...)
				got, print, ok := impl.PutText(store, two[1-i])
				if ok || print != -1 || !slices.Equal(got, store) {
					t.Fatalf("PutText(%v, %q) is %v, %d, %v", store, two[1-i], got, print, ok)
				}
				if text, found := impl.GetText(got, wantedPrint(two[i])); !found || text != two[i] {
					t.Fatalf("the text %q became %q, %v", two[i], text, found)
				}
			}
		}
	}
}

func TestFullStores(t *testing.T) {
	var store []impl.Piece
	for n, text := range manyTexts("full ", 45) {
		next, print, ok := impl.PutText(store, text)
		if n >= 40 {
			if ok || print != -1 || !slices.Equal(next, store) {
				t.Fatalf("piece %d of a store: %v, %d, %v", n, next, print, ok)
			}
			continue
		}
		if !ok || print != wantedPrint(text) || len(next) != n+1 {
			t.Fatalf("piece %d of a store: %v, %d, %v", n, next, print, ok)
		}
		store = next
	}
	for _, piece := range store {
		next, print, ok := impl.PutText(store, piece.Text)
		if !ok || print != piece.Print || !slices.Equal(next, store) {
			t.Fatalf("%q is in the full store: %v, %d, %v", piece.Text, next, print, ok)
		}
	}
}

func TestTextsThatAreNotValidAreNotPut(t *testing.T) {
	stores := [][]impl.Piece{nil, storeOf("a", "ab"), storeOf(manyTexts("x", 39)...), storeOf(manyTexts("x", 40)...)}
	for _, text := range otherTexts() {
		for _, store := range stores {
			got, print, ok := impl.PutText(store, text)
			if ok || print != -1 || !slices.Equal(got, store) {
				t.Fatalf("PutText(%v, %q) is %v, %d, %v", store, text, got, print, ok)
			}
		}
	}
}

func TestOtherStoresHaveNoTexts(t *testing.T) {
	for _, pieces := range otherStores() {
		before := slices.Clone(pieces)
		for _, text := range []string{"", "a", "ab", "new", "x1", "\n", strings.Repeat("a", 61)} {
			if got, print, ok := impl.PutText(pieces, text); ok || print != -1 || len(got) != 0 {
				t.Fatalf("PutText(%v, %q) is %v, %d, %v", pieces, text, got, print, ok)
			}
		}
		prints := []int{-1, 0, 1, 354, 91076, 16777212}
		for _, piece := range pieces {
			prints = append(prints, piece.Print)
		}
		for _, print := range prints {
			if text, ok := impl.GetText(pieces, print); ok || text != "" {
				t.Fatalf("GetText(%v, %d) is %q, %v", pieces, print, text, ok)
			}
		}
		if !slices.Equal(pieces, before) {
			t.Fatalf("%v was written to", before)
		}
	}
}

// P55
func TestTextsHaveTheirPrints(t *testing.T) {
	for _, store := range someStores() {
		prints := slices.Concat(somePrints(), numbersOutside, []int{math.MinInt + 1, math.MaxInt - 1})
		texts := map[int]string{}
		for _, piece := range store {
			texts[piece.Print] = piece.Text
			prints = append(prints, piece.Print, piece.Print-1, piece.Print+1, -piece.Print, piece.Print+impl.MaxPrint+1, piece.Print-impl.MaxPrint-1)
		}
		for _, print := range prints {
			want, there := texts[print]
			text, ok := impl.GetText(store, print)
			if ok != there || text != want {
				t.Fatalf("GetText(%v, %d) is %q, %v", store, print, text, ok)
			}
			if ok && impl.PrintOf(text) != print {
				t.Fatalf("%q has the print %d, not %d", text, impl.PrintOf(text), print)
			}
		}
	}
}

// checkJoin joins two stores in both orders.
func checkJoin(t *testing.T, a, b []impl.Piece) {
	t.Helper()
	oldA, oldB := slices.Clone(a), slices.Clone(b)
	want, possible := wantedJoin(a, b)
	got, ok := impl.JoinStores(a, b)
	if ok != possible || !slices.Equal(got, want) || storeProblem(got) != "" {
		t.Fatalf("JoinStores(%v, %v) is %v, %v", a, b, got, ok)
	}
	turned, turnedOk := impl.JoinStores(b, a)
	if turnedOk != ok || !slices.Equal(turned, got) {
		t.Fatalf("JoinStores(%v, %v) is %v, %v, and the other way round it is %v, %v", a, b, got, ok, turned, turnedOk)
	}
	if !slices.Equal(a, oldA) || !slices.Equal(b, oldB) {
		t.Fatalf("JoinStores writes to %v or %v", oldA, oldB)
	}
	if !ok {
		return
	}
	for _, piece := range slices.Concat(a, b) {
		if text, found := impl.GetText(got, piece.Print); !found || text != piece.Text {
			t.Fatalf("in the joined store %v GetText of %v is %q, %v", got, piece, text, found)
		}
	}
	if !impl.StoreValid(got) {
		t.Fatalf("JoinStores(%v, %v) is %v", a, b, got)
	}
}

// P4
func TestTheOrderOfStoresDoesNotMatter(t *testing.T) {
	stores := someStores()
	for _, a := range stores {
		for _, b := range stores {
			checkJoin(t, a, b)
		}
	}
}

func TestKnownStoresAreJoined(t *testing.T) {
	a := []impl.Piece{{Print: 1, Text: ""}, {Print: 91076, Text: "ab"}}
	b := []impl.Piece{{Print: 0, Text: "aagjux"}, {Print: 1, Text: ""}, {Print: 354, Text: "a"}}
	want := []impl.Piece{{Print: 0, Text: "aagjux"}, {Print: 1, Text: ""}, {Print: 354, Text: "a"}, {Print: 91076, Text: "ab"}}
	if got, ok := impl.JoinStores(a, b); !ok || !slices.Equal(got, want) {
		t.Fatalf("the joined store is %v, %v", got, ok)
	}
	for _, store := range someStores() {
		for _, other := range [][]impl.Piece{nil, {}, store} {
			if got, ok := impl.JoinStores(store, other); !ok || !slices.Equal(got, store) {
				t.Fatalf("%v joined with %v is %v, %v", store, other, got, ok)
			}
		}
	}
}

// P4
func TestJoinedStoresHaveAtMostMaxPieces(t *testing.T) {
	texts := manyTexts("join ", 80)
	for manyA := 0; manyA <= 40; manyA++ {
		a := storeOf(texts[:manyA]...)
		for both := 0; both <= manyA; both++ {
			for _, total := range []int{39, 40, 41, 42} {
				manyB := total - manyA + both
				if manyB < both || manyB > 40 {
					continue
				}
				b := storeOf(texts[manyA-both : manyA-both+manyB]...)
				got, ok := impl.JoinStores(a, b)
				if ok != (total <= 40) || ok && len(got) != total || !ok && len(got) != 0 {
					t.Fatalf("stores of %d and %d pieces, of which both have %d, are joined to %v, %v", manyA, manyB, both, got, ok)
				}
				checkJoin(t, a, b)
			}
		}
	}
}

func TestStoresWithTheSamePrintAreNotJoined(t *testing.T) {
	for _, two := range samePrints {
		for many := 0; many < 40; many += 13 {
			a, b := storeOf(append(manyTexts("x", many), two[0])...), storeOf(append(manyTexts("y", many/3), two[1])...)
			if got, ok := impl.JoinStores(a, b); ok || len(got) != 0 {
				t.Fatalf("JoinStores(%v, %v) is %v, %v", a, b, got, ok)
			}
			checkJoin(t, a, b)
		}
	}
}

func TestOtherStoresAreNotJoined(t *testing.T) {
	valid := [][]impl.Piece{nil, storeOf("a"), storeOf("a", "ab", "hello world", "new"), storeOf(manyTexts("x", 40)...)}
	for _, pieces := range otherStores() {
		for _, store := range append(valid, pieces, []impl.Piece{{}}) {
			before := slices.Clone(pieces)
			first, firstOk := impl.JoinStores(pieces, store)
			second, secondOk := impl.JoinStores(store, pieces)
			if firstOk || secondOk || len(first) != 0 || len(second) != 0 {
				t.Fatalf("%v joined with %v is %v, %v, and %v, %v", pieces, store, first, firstOk, second, secondOk)
			}
			if !slices.Equal(pieces, before) {
				t.Fatalf("%v was written to", before)
			}
		}
	}
}

// spoil writes to all memory of a slice of pieces.
func spoil(pieces []impl.Piece) {
	clear(pieces[:cap(pieces)])
}

// withRoom returns the pieces with spare capacity behind them, and that whole memory.
func withRoom(pieces []impl.Piece) ([]impl.Piece, []impl.Piece) {
	whole := make([]impl.Piece, len(pieces)+50)
	for i := range whole {
		whole[i] = impl.Piece{Print: -7, Text: "spare"}
	}
	copy(whole, pieces)
	return whole[:len(pieces)], whole
}

func TestResultsOfPutTextAreNew(t *testing.T) {
	for _, store := range someStores() {
		for _, text := range []string{"", "a", "new", "x1", "adae", "bada", "\n"} {
			given, whole := withRoom(store)
			before := slices.Clone(whole)
			got, _, _ := impl.PutText(given, text)
			want := slices.Clone(got)
			other, _, _ := impl.PutText(given, text)
			spoil(other)
			if !slices.Equal(whole, before) || !slices.Equal(got, want) {
				t.Fatalf("a result of PutText(%v, %q) shares memory", store, text)
			}
			spoil(whole)
			if !slices.Equal(got, want) {
				t.Fatalf("the result of PutText(%v, %q) shares memory with its argument", store, text)
			}
		}
	}
}

func TestResultsOfJoinStoresAreNew(t *testing.T) {
	stores := [][]impl.Piece{nil, storeOf("a"), storeOf("a", "ab"), storeOf(manyTexts("", 10)...), storeOf(manyTexts("", 40)...)}
	for _, a := range stores {
		for _, b := range stores {
			givenA, wholeA := withRoom(a)
			givenB, wholeB := withRoom(b)
			oldA, oldB := slices.Clone(wholeA), slices.Clone(wholeB)
			got, _ := impl.JoinStores(givenA, givenB)
			want := slices.Clone(got)
			other, _ := impl.JoinStores(givenA, givenB)
			spoil(other)
			if !slices.Equal(wholeA, oldA) || !slices.Equal(wholeB, oldB) || !slices.Equal(got, want) {
				t.Fatalf("a result of JoinStores(%v, %v) shares memory", a, b)
			}
			spoil(wholeA)
			spoil(wholeB)
			if !slices.Equal(got, want) {
				t.Fatalf("the result of JoinStores(%v, %v) shares memory with its arguments", a, b)
			}
		}
	}
}
