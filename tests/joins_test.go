package tests

import (
	"math"
	"slices"
	"strconv"
	"strings"
	"testing"

	"loop.example/g00630/impl"
)

// The kinds as the specification numbers them.
const (
	inner = 1
	left  = 2
	right = 3
	full  = 4
	semi  = 5
	anti  = 6
)

const maxFlipped = 2000

func allKinds() []int64 { return []int64{inner, left, right, full, semi, anti} }

func invalidKinds() []int64 {
	return []int64{0, 7, -1, -6, 8, 1<<32 + 1, -1<<32 + 1, 1<<8 + 1, math.MaxInt64, math.MinInt64}
}

func both(key string, l string, r string) impl.Pair {
	return impl.Pair{Key: key, L: l, R: r, HasL: true, HasR: true}
}

func onlyL(key string, l string) impl.Pair { return impl.Pair{Key: key, L: l, HasL: true} }

func onlyR(key string, r string) impl.Pair { return impl.Pair{Key: key, R: r, HasR: true} }

// samePairs names the first difference alone: a join may have thousands of pairs.
func samePairs(t *testing.T, what string, got []impl.Pair, want []impl.Pair) {
	t.Helper()
	for i := range min(len(got), len(want)) {
		if got[i] != want[i] {
			t.Errorf("%s: pair %d is %#v, want %#v", what, i, got[i], want[i])
			return
		}
	}
	if len(got) != len(want) {
		t.Errorf("%s: %d pairs, want %d", what, len(got), len(want))
	}
}

// words makes rows with tag 0 of words, each a key, = and a value.
func words(text string) []impl.Row {
	l := []impl.Row{}
	for _, w := range strings.Fields(text) {
		key, val, _ := strings.Cut(w, "=")
		l = append(l, impl.Row{Key: key, Val: val})
	}
	return l
}

func pairTexts(l []impl.Pair) string {
	var texts []string
	for _, p := range l {
		texts = append(texts, impl.PairText(p))
	}
	return strings.Join(texts, "; ")
}

func rowsWithKey(l []impl.Row, key string) []impl.Row {
	var rows []impl.Row
	for _, r := range l {
		if r.Key == key {
			rows = append(rows, r)
		}
	}
	return sortedRows(rows)
}

func keysOf(lists ...[]impl.Row) []string {
	var keys []string
	for _, r := range slices.Concat(lists...) {
		keys = append(keys, r.Key)
	}
	slices.Sort(keys)
	return slices.Compact(keys)
}

// joinByHand follows the rules of the specification one after the other.
func joinByHand(a []impl.Row, b []impl.Row, kind int64) []impl.Pair {
	var pairs []impl.Pair
	for _, key := range keysOf(a, b) {
		ofA, ofB := rowsWithKey(a, key), rowsWithKey(b, key)
		for _, x := range ofA {
			if kind <= full {
				for _, y := range ofB {
					pairs = append(pairs, both(key, x.Val, y.Val))
				}
			}
			found := len(ofB) > 0
			if !found && (kind == left || kind == full || kind == anti) || found && kind == semi {
				pairs = append(pairs, onlyL(key, x.Val))
			}
		}
		if len(ofA) == 0 && (kind == right || kind == full) {
			for _, y := range ofB {
				pairs = append(pairs, onlyR(key, y.Val))
			}
		}
	}
	return pairs
}

func joinOf(t *testing.T, a []impl.Row, b []impl.Row, kind int64) []impl.Pair {
	t.Helper()
	pairs, ok := impl.JoinOf(a, b, kind)
	if !ok {
		t.Fatalf("kind %d: rejected: %#v, %#v", kind, a, b)
	}
	return pairs
}

func mergeJoinOf(t *testing.T, a []impl.Row, b []impl.Row, kind int64) []impl.Pair {
	t.Helper()
	pairs, ok := impl.MergeJoin(sortedRows(a), sortedRows(b), kind)
	if !ok {
		t.Fatalf("kind %d: rejected: %#v, %#v", kind, a, b)
	}
	return pairs
}

func TestKindsOfJoins(t *testing.T) {
	kinds := []int64{impl.JkInner, impl.JkLeft, impl.JkRight, impl.JkFull, impl.JkSemi, impl.JkAnti}
	if !slices.Equal(kinds, allKinds()) {
		t.Error(kinds)
	}
}

// TestJoinOf has the texts of the pairs for the kinds inner, left, right, full, semi and anti, in this order.
func TestJoinOf(t *testing.T) {
	for name, c := range map[string]struct {
		a, b []impl.Row
		want [6]string
	}{
		"the example": {words("b=2 a=3 a=1"), words("c=z a=y a=x"), [6]string{
			"a =1 =x; a =1 =y; a =3 =x; a =3 =y",
			"a =1 =x; a =1 =y; a =3 =x; a =3 =y; b =2 -",
			"a =1 =x; a =1 =y; a =3 =x; a =3 =y; c - =z",
			"a =1 =x; a =1 =y; a =3 =x; a =3 =y; b =2 -; c - =z",
			"a =1 -; a =3 -",
			"b =2 -",
		}},
		"keys of one side by turns": {words("d=4 b=2 f=6 c=3"), words("e=v a=z c=x g=t"), [6]string{
			"c =3 =x",
			"b =2 -; c =3 =x; d =4 -; f =6 -",
			"a - =z; c =3 =x; e - =v; g - =t",
			"a - =z; b =2 -; c =3 =x; d =4 -; e - =v; f =6 -; g - =t",
			"c =3 -",
			"b =2 -; d =4 -; f =6 -",
		}},
		"several rows of a key that only a has": {words("a=2 a=1 a=3"), words("b=x"), [6]string{
			"", "a =1 -; a =2 -; a =3 -", "b - =x", "a =1 -; a =2 -; a =3 -; b - =x", "", "a =1 -; a =2 -; a =3 -",
		}},
		"several rows of a key that only b has": {words("b=1"), words("a=y a=x a=z"), [6]string{
			"", "b =1 -", "a - =x; a - =y; a - =z", "a - =x; a - =y; a - =z; b =1 -", "", "b =1 -",
		}},
		"no rows of a": {nil, words("b=y a=z b=x"), [6]string{
			"", "", "a - =z; b - =x; b - =y", "a - =z; b - =x; b - =y", "", "",
		}},
		"no rows of b": {words("b=2 a=3 b=1"), []impl.Row{}, [6]string{
			"", "a =3 -; b =1 -; b =2 -", "", "a =3 -; b =1 -; b =2 -", "", "a =3 -; b =1 -; b =2 -",
		}},
		"no rows": {nil, []impl.Row{}, [6]string{}},
		"equal rows": {words("a=1 a=1"), words("a=x a=x b=z b=z"), [6]string{
			"a =1 =x; a =1 =x; a =1 =x; a =1 =x",
			"a =1 =x; a =1 =x; a =1 =x; a =1 =x",
			"a =1 =x; a =1 =x; a =1 =x; a =1 =x; b - =z; b - =z",
			"a =1 =x; a =1 =x; a =1 =x; a =1 =x; b - =z; b - =z",
			"a =1 -; a =1 -",
			"",
		}},
		"empty keys and values": {words("= a="), words("= b="), [6]string{
			" = =", " = =; a = -", " = =; b - =", " = =; a = -; b - =", " = -", "a = -",
		}},
		"prefixes": {words("ab=1 a=2"), words("a=x abc=y"), [6]string{
			"a =2 =x", "a =2 =x; ab =1 -", "a =2 =x; abc - =y", "a =2 =x; ab =1 -; abc - =y", "a =2 -", "ab =1 -",
		}},
		"bytes": {words("\xff=1 \x00=2"), words("a=x \xff=y"), [6]string{
			"\xff =1 =y", "\x00 =2 -; \xff =1 =y", "a - =x; \xff =1 =y", "\x00 =2 -; a - =x; \xff =1 =y", "\xff =1 -", "\x00 =2 -",
		}},
	} {
		for i, kind := range allKinds() {
			what := name + ", kind " + strconv.Itoa(i+1)
			if got := pairTexts(joinOf(t, c.a, c.b, kind)); got != c.want[i] {
				t.Errorf("%s: %q, want %q", what, got, c.want[i])
			}
			if got := pairTexts(mergeJoinOf(t, c.a, c.b, kind)); got != c.want[i] {
				t.Errorf("%s, merged: %q, want %q", what, got, c.want[i])
			}
		}
	}
}

// TestFieldsOfPairs checks that a side without a value has the zero value.
func TestFieldsOfPairs(t *testing.T) {
	a, b := words("a=1 b=2"), words("b=y c=z")
	for kind, want := range map[int64][]impl.Pair{
		inner: {both("b", "2", "y")},
		left:  {onlyL("a", "1"), both("b", "2", "y")},
		right: {both("b", "2", "y"), onlyR("c", "z")},
		full:  {onlyL("a", "1"), both("b", "2", "y"), onlyR("c", "z")},
		semi:  {onlyL("b", "2")},
		anti:  {onlyL("a", "1")},
	} {
		samePairs(t, "join", joinOf(t, a, b, kind), want)
		samePairs(t, "merge join", mergeJoinOf(t, a, b, kind), want)
	}
}

// TestJoinsOrderRowsByTagFirst has rows of a key that differ in one of Tag and Val alone, and in both.
func TestJoinsOrderRowsByTagFirst(t *testing.T) {
	a := []impl.Row{{Key: "k", Tag: 3, Val: "1"}, {Key: "k", Tag: 1, Val: "2"}, {Key: "k", Tag: 1, Val: "1"}, {Key: "k", Val: "9"}}
	b := []impl.Row{{Key: "k", Tag: 2, Val: "x"}, {Key: "k", Tag: 0, Val: "x"}, {Key: "k", Tag: 1, Val: "w"}}
	var want []impl.Pair
	for _, l := range []string{"9", "1", "2", "1"} {
		for _, r := range []string{"x", "w", "x"} {
			want = append(want, both("k", l, r))
		}
	}
	alone := []impl.Pair{onlyL("k", "9"), onlyL("k", "1"), onlyL("k", "2"), onlyL("k", "1")}
	for _, kind := range []int64{inner, left, right, full} {
		samePairs(t, "pairs", joinOf(t, a, b, kind), want)
		samePairs(t, "merged pairs", mergeJoinOf(t, a, b, kind), want)
	}
	samePairs(t, "semi", joinOf(t, a, b, semi), alone)
	samePairs(t, "anti", joinOf(t, a, b, anti), nil)
	for _, kind := range []int64{left, full, anti} {
		samePairs(t, "left alone", joinOf(t, a, nil, kind), alone)
	}
	for _, kind := range []int64{right, full} {
		samePairs(t, "right alone", joinOf(t, nil, b, kind), []impl.Pair{onlyR("k", "x"), onlyR("k", "w"), onlyR("k", "x")})
	}
}

// randomTables uses keys so short that most of them are on both sides, or so long that most of them are not.
func randomTables(yield func(a []impl.Row, b []impl.Row) bool) {
	r := newRand()
	sizes := []int{0, 1, 2, 5, 20, maxRows}
	for _, n := range sizes {
		for _, m := range sizes {
			for most := range 4 {
				if !yield(randomRows(r, n, most), randomRows(r, m, most)) {
					return
				}
			}
		}
	}
}

func TestJoinsAgreeWithTheirRules(t *testing.T) {
	for a, b := range randomTables {
		for _, kind := range allKinds() {
			want := joinByHand(a, b, kind)
			samePairs(t, "join", joinOf(t, a, b, kind), want)
			samePairs(t, "merge join", mergeJoinOf(t, a, b, kind), want)
		}
	}
}

func countPairs(l []impl.Pair) map[impl.Pair]int {
	n := map[impl.Pair]int{}
	for _, p := range l {
		n[p]++
	}
	return n
}

func sameCounts(t *testing.T, what string, got []impl.Pair, want []impl.Pair) {
	t.Helper()
	if len(got) != len(want) {
		t.Errorf("%s: %d pairs, want %d", what, len(got), len(want))
	}
	counts := countPairs(got)
	for p, n := range countPairs(want) {
		if counts[p] != n {
			t.Errorf("%s: %#v %d times, want %d times", what, p, counts[p], n)
		}
	}
}

// TestPromise5PairsOfTheSameKey holds each row of a against each row of b.
func TestPromise5PairsOfTheSameKey(t *testing.T) {
	for a, b := range randomTables {
		var want []impl.Pair
		for _, x := range a {
			for _, y := range b {
				if x.Key == y.Key {
					want = append(want, both(x.Key, x.Val, y.Val))
				}
			}
		}
		sameCounts(t, "inner", joinOf(t, a, b, inner), want)
	}
}

// testComplete checks that a join consists of the inner one and the given pairs in addition.
func testComplete(t *testing.T, a []impl.Row, b []impl.Row, kind int64, more ...[]impl.Pair) {
	t.Helper()
	want := slices.Concat(joinOf(t, a, b, inner), slices.Concat(more...))
	sameCounts(t, "kind "+strconv.FormatInt(kind, 10), joinOf(t, a, b, kind), want)
}

func TestPromise5FullJoinIsComplete(t *testing.T) {
	for a, b := range randomTables {
		var ofA, ofB []impl.Pair
		for _, x := range a {
			if len(rowsWithKey(b, x.Key)) == 0 {
				ofA = append(ofA, onlyL(x.Key, x.Val))
			}
		}
		for _, y := range b {
			if len(rowsWithKey(a, y.Key)) == 0 {
				ofB = append(ofB, onlyR(y.Key, y.Val))
			}
		}
		testComplete(t, a, b, full, ofA, ofB)
		testComplete(t, a, b, left, ofA)
		testComplete(t, a, b, right, ofB)
		sameCounts(t, "anti", joinOf(t, a, b, anti), ofA)
		sameCounts(t, "anti of the other side", impl.Flipped(joinOf(t, b, a, anti)), ofB)
	}
}

// TestSemiAndAntiDivideTheLeftSide checks that each row of a is in one of both joins.
func TestSemiAndAntiDivideTheLeftSide(t *testing.T) {
	for a, b := range randomTables {
		var all []impl.Pair
		for _, x := range a {
			all = append(all, onlyL(x.Key, x.Val))
		}
		sameCounts(t, "semi and anti", slices.Concat(joinOf(t, a, b, semi), joinOf(t, a, b, anti)), all)
	}
}

func joinedParts(t *testing.T, a []impl.Part, b []impl.Part, kind int64) []impl.Pair {
	t.Helper()
	if len(a) != len(b) {
		t.Fatal(len(a), len(b))
	}
	var all []impl.Pair
	for i := range a {
		all = append(all, joinOf(t, a[i].Rows, b[i].Rows, kind)...)
	}
	return all
}

// TestPromise5PartByPart sorts by keys alone: what a key has must be in the order that the join of everything has.
func TestPromise5PartByPart(t *testing.T) {
	for a, b := range randomTables {
		for n := int64(1); n <= maxParts; n++ {
			ofA, okA := impl.Parted(a, n)
			ofB, okB := impl.Parted(b, n)
			if !okA || !okB {
				t.Fatal("rejected")
			}
			for _, kind := range allKinds() {
				all := joinedParts(t, ofA, ofB, kind)
				slices.SortStableFunc(all, func(p impl.Pair, q impl.Pair) int { return strings.Compare(p.Key, q.Key) })
				samePairs(t, "part by part", all, joinOf(t, a, b, kind))
			}
		}
	}
}

// TestPromise5RangeByRange needs no sorting: the ranges have the keys in order.
func TestPromise5RangeByRange(t *testing.T) {
	for a, b := range randomTables {
		for _, l := range [][]impl.Row{a, b} {
			cuts, okCuts := impl.CutsOf(l, 5)
			ofA, okA := impl.RangeParted(a, cuts)
			ofB, okB := impl.RangeParted(b, cuts)
			if !okCuts || !okA || !okB {
				t.Fatal("rejected")
			}
			for _, kind := range allKinds() {
				samePairs(t, "range by range", joinedParts(t, ofA, ofB, kind), joinOf(t, a, b, kind))
			}
		}
	}
}

func TestJoinsOfMostRows(t *testing.T) {
	l := make([]impl.Row, maxRows)
	want := map[int64]int{inner: maxRows * maxRows, left: maxRows * maxRows, right: maxRows * maxRows, full: maxRows * maxRows, semi: maxRows}
	for _, kind := range allKinds() {
		if got := joinOf(t, l, l, kind); len(got) != want[kind] {
			t.Errorf("kind %d: %d pairs", kind, len(got))
		}
		if got := mergeJoinOf(t, l, l, kind); len(got) != want[kind] {
			t.Errorf("kind %d, merged: %d pairs", kind, len(got))
		}
	}
	if got := joinOf(t, distinctRows(maxRows), distinctRows(maxRows), full); len(got) != maxRows {
		t.Error(len(got))
	}
	if got := joinOf(t, distinctRows(maxRows), rowsOf(slices.Repeat([]string{"\xff"}, maxRows)...), full); len(got) != 2*maxRows {
		t.Error(len(got))
	}
}

func TestJoinsRejectLists(t *testing.T) {
	for name, bad := range invalidLists() {
		for _, kind := range allKinds() {
			for _, good := range [][]impl.Row{nil, {{Key: "a"}}} {
				got, ok := impl.JoinOf(bad, good, kind)
				rejected(t, name+" on the left", len(got), ok)
				got, ok = impl.JoinOf(good, bad, kind)
				rejected(t, name+" on the right", len(got), ok)
				got, ok = impl.MergeJoin(bad, good, kind)
				rejected(t, name+" on the left, merged", len(got), ok)
				got, ok = impl.MergeJoin(good, bad, kind)
				rejected(t, name+" on the right, merged", len(got), ok)
			}
			got, ok := impl.JoinOf(bad, bad, kind)
			rejected(t, name+" on both sides", len(got), ok)
			got, ok = impl.MergeJoin(bad, bad, kind)
			rejected(t, name+" on both sides, merged", len(got), ok)
		}
	}
}

func TestJoinsRejectKinds(t *testing.T) {
	for _, kind := range invalidKinds() {
		for _, a := range [][]impl.Row{nil, words("a=1")} {
			for _, b := range [][]impl.Row{nil, words("a=x"), words("b=y")} {
				got, ok := impl.JoinOf(a, b, kind)
				rejected(t, "kind", len(got), ok)
				got, ok = impl.MergeJoin(a, b, kind)
				rejected(t, "kind, merged", len(got), ok)
			}
		}
	}
}

// TestMergeJoinRejectsUnsorted also checks that JoinOf takes the same lists.
func TestMergeJoinRejectsUnsorted(t *testing.T) {
	for name, bad := range unsortedLists() {
		for _, kind := range allKinds() {
			for _, good := range [][]impl.Row{nil, words("a=1 b=2")} {
				got, ok := impl.MergeJoin(bad, good, kind)
				rejected(t, name+" on the left", len(got), ok)
				got, ok = impl.MergeJoin(good, bad, kind)
				rejected(t, name+" on the right", len(got), ok)
				samePairs(t, name, joinOf(t, bad, good, kind), joinByHand(bad, good, kind))
				samePairs(t, name, joinOf(t, good, bad, kind), joinByHand(good, bad, kind))
			}
		}
	}
}

// orderedPairs are strictly increasing; in some of them a value is not present and yet not empty.
func orderedPairs() []impl.Pair {
	return []impl.Pair{
		{},
		{R: "r"},
		{HasR: true},
		{R: "a", HasR: true},
		{R: "a\x00", HasR: true},
		{R: "b", HasR: true},
		{L: "l"},
		{L: "l", HasR: true},
		{HasL: true},
		{HasL: true, R: "r"},
		{HasL: true, HasR: true},
		{HasL: true, R: "a", HasR: true},
		{L: "\x00", HasL: true},
		{L: "a", HasL: true},
		{L: "a", R: "a", HasL: true, HasR: true},
		{L: "a", R: "\xff", HasL: true, HasR: true},
		{L: "a\x00", HasL: true},
		{L: "b", HasL: true},
		{L: "\xff", R: "a", HasL: true, HasR: true},
		{Key: "\x00"},
		{Key: "a", R: "z", HasR: true},
		{Key: "a", L: "a", HasL: true},
		{Key: "a\x00"},
		{Key: "ab"},
		{Key: "b", R: "a", HasR: true},
		{Key: tooLong(), L: tooLong(), R: tooLong(), HasL: true, HasR: true},
		{Key: "\xff"},
	}
}

func TestPairLess(t *testing.T) {
	l := orderedPairs()
	for i := range l {
		for k := range l {
			if got := impl.PairLess(l[i], l[k]); got != (i < k) {
				t.Errorf("PairLess of %+v and %+v: %v", l[i], l[k], got)
			}
		}
	}
}

func flippedByHand(l []impl.Pair) []impl.Pair {
	var flipped []impl.Pair
	for _, p := range l {
		flipped = append(flipped, impl.Pair{Key: p.Key, L: p.R, R: p.L, HasL: p.HasR, HasR: p.HasL})
	}
	return flipped
}

func inOrder(l []impl.Pair) bool {
	for i := 1; i < len(l); i++ {
		if impl.PairLess(l[i], l[i-1]) {
			return false
		}
	}
	return true
}

func TestFlipped(t *testing.T) {
	for name, c := range map[string]struct {
		pairs, want []impl.Pair
	}{
		"nil":        {nil, nil},
		"no pairs":   {[]impl.Pair{}, nil},
		"one":        {[]impl.Pair{both("a", "1", "x")}, []impl.Pair{both("a", "x", "1")}},
		"L alone":    {[]impl.Pair{onlyL("a", "1")}, []impl.Pair{onlyR("a", "1")}},
		"R alone":    {[]impl.Pair{onlyR("a", "x")}, []impl.Pair{onlyL("a", "x")}},
		"no value":   {[]impl.Pair{{Key: "a"}}, []impl.Pair{{Key: "a"}}},
		"hidden":     {[]impl.Pair{{Key: "a", L: "1", R: "x", HasR: true}}, []impl.Pair{{Key: "a", L: "x", R: "1", HasL: true}}},
		"keys":       {[]impl.Pair{onlyL("b", "1"), onlyL("a", "2")}, []impl.Pair{onlyR("a", "2"), onlyR("b", "1")}},
		"equal":      {[]impl.Pair{both("a", "1", "x"), both("a", "1", "x")}, []impl.Pair{both("a", "x", "1"), both("a", "x", "1")}},
		"both sides": {[]impl.Pair{both("a", "1", "y"), both("a", "2", "x")}, []impl.Pair{both("a", "x", "2"), both("a", "y", "1")}},
		"presence": {
			[]impl.Pair{onlyR("a", ""), onlyL("a", "z"), both("a", "", "")},
			[]impl.Pair{onlyR("a", "z"), onlyL("a", ""), both("a", "", "")},
		},
	} {
		samePairs(t, name, impl.Flipped(c.pairs), c.want)
	}
}

func TestFlippedReturnsAllPairsInOrder(t *testing.T) {
	ordered := orderedPairs()
	samePairs(t, "flipped by hand before", impl.Flipped(flippedByHand(ordered)), ordered)
	for a, b := range randomTables {
		for _, kind := range allKinds() {
			l := joinOf(t, a, b, kind)
			l = l[:min(len(l), maxFlipped)]
			got := impl.Flipped(l)
			if !inOrder(got) {
				t.Error("not in order", got)
			}
			sameCounts(t, "flipped", got, flippedByHand(l))
			sameCounts(t, "flipped twice", impl.Flipped(got), l)
		}
	}
}

func TestFlippedJoinsAreJoinsOfFlippedSides(t *testing.T) {
	a, b := words("a=2 a=1 b=3 d=4"), words("a=x c=y a=z d=w")
	for kind, other := range map[int64]int64{inner: inner, left: right, right: left, full: full} {
		samePairs(t, "flipped", impl.Flipped(joinOf(t, a, b, kind)), joinOf(t, b, a, other))
	}
}

func TestFlippedOfMostPairs(t *testing.T) {
	l := make([]impl.Pair, maxFlipped+1)
	for i := range l {
		l[i] = onlyL(strconv.Itoa(10000-i), "v")
	}
	got := impl.Flipped(l[:maxFlipped])
	if len(got) != maxFlipped || !inOrder(got) {
		t.Errorf("%d pairs of %d", len(got), maxFlipped)
	}
	sameCounts(t, "flipped", got, flippedByHand(l[:maxFlipped]))
	if got := impl.Flipped(l); len(got) != 0 {
		t.Errorf("%d pairs of %d", len(got), maxFlipped+1)
	}
	if got := impl.Flipped(make([]impl.Pair, 10*maxFlipped)); len(got) != 0 {
		t.Errorf("%d pairs of %d", len(got), 10*maxFlipped)
	}
}

func TestPairText(t *testing.T) {
	for _, c := range []struct {
		pair impl.Pair
		want string
	}{
		{impl.Pair{}, " - -"},
		{both("a", "1", "x"), "a =1 =x"},
		{onlyL("b", "2"), "b =2 -"},
		{onlyR("c", "z"), "c - =z"},
		{impl.Pair{Key: "a"}, "a - -"},
		{both("", "", ""), " = ="},
		{onlyL("", ""), " = -"},
		{onlyR("", ""), " - ="},
		{impl.Pair{Key: "a", L: "1", R: "x"}, "a - -"},
		{impl.Pair{Key: "a", L: "1", R: "x", HasL: true}, "a =1 -"},
		{impl.Pair{Key: "a", L: "1", R: "x", HasR: true}, "a - =x"},
		{both("a b", "=", "-"), "a b == =-"},
		{both("\x00", "\xff", "é\n"), "\x00 =\xff =é\n"},
		{both(tooLong(), tooLong(), tooLong()), tooLong() + " =" + tooLong() + " =" + tooLong()},
	} {
		if got := impl.PairText(c.pair); got != c.want {
			t.Errorf("PairText(%+v) = %q, want %q", c.pair, got, c.want)
		}
	}
}

func TestJoinFunctionsModifyNothing(t *testing.T) {
	a, checkA := withSpare(rowsOf("c", "a", "b", "a", "", "c"))
	b, checkB := withSpare(rowsOf("d", "a", "a", "c"))
	sortedA, checkSortedA := withSpare(sortedRows(a))
	sortedB, checkSortedB := withSpare(sortedRows(b))
	pairs, checkPairs := withMarks([]impl.Pair{both("b", "1", "x"), onlyL("a", "2"), onlyR("a", "y")}, both("spare", "l", "r"))
	for range 2 {
		for kind := int64(0); kind <= anti+1; kind++ {
			impl.JoinOf(a, b, kind)
			impl.JoinOf(a, a, kind)
			impl.JoinOf(a, nil, kind)
			impl.JoinOf(nil, b, kind)
			impl.MergeJoin(a, b, kind)
			impl.MergeJoin(sortedA, sortedB, kind)
			impl.MergeJoin(sortedA, sortedA, kind)
		}
		impl.Flipped(pairs)
		impl.Flipped(pairs[:1])
	}
	for _, check := range []func(t *testing.T){checkA, checkB, checkSortedA, checkSortedB, checkPairs} {
		check(t)
	}
}

func overwrite(l []impl.Pair) {
	l = l[:cap(l)]
	for i := range l {
		l[i] = impl.Pair{Key: "other", L: "other", HasR: true}
	}
}

// TestJoinResultsShareNoMemory overwrites results: neither an argument nor a later result may show it.
func TestJoinResultsShareNoMemory(t *testing.T) {
	a, b := words("a=1 a=2 b=3"), words("a=x b=y c=z")
	for _, kind := range allKinds() {
		overwrite(joinOf(t, a, b, kind))
		overwrite(mergeJoinOf(t, a, b, kind))
		samePairs(t, "second join", joinOf(t, a, b, kind), joinByHand(a, b, kind))
		samePairs(t, "second merge join", mergeJoinOf(t, a, b, kind), joinByHand(a, b, kind))
	}
	sameRows(t, "left side", a, words("a=1 a=2 b=3"))
	sameRows(t, "right side", b, words("a=x b=y c=z"))
	for n := range 4 {
		pairs := []impl.Pair{both("a", "1", "x"), both("b", "2", "y"), onlyR("c", "z"), onlyL("d", "4")}
		before := slices.Clone(pairs)
		overwrite(impl.Flipped(pairs[:n]))
		samePairs(t, "argument of Flipped", pairs, before)
		got := impl.Flipped(pairs)
		want := slices.Clone(got)
		overwrite(pairs)
		samePairs(t, "result of Flipped", got, want)
	}
}

func TestEqualArgumentsYieldEqualJoins(t *testing.T) {
	r := newRand()
	a, b := randomRows(r, maxRows, 1), randomRows(r, maxRows, 1)
	for _, kind := range allKinds() {
		first, second := joinOf(t, a, b, kind), joinOf(t, slices.Clone(a), slices.Clone(b), kind)
		samePairs(t, "second call", second, first)
		samePairs(t, "rows in another order", joinOf(t, reversed(a), reversed(b), kind), first)
		samePairs(t, "merged twice", mergeJoinOf(t, a, b, kind), mergeJoinOf(t, a, b, kind))
		few := first[:min(len(first), maxFlipped)]
		samePairs(t, "flipped", impl.Flipped(slices.Clone(few)), impl.Flipped(few))
	}
}
