package tests

import (
	"hash/fnv"
	"math"
	"slices"
	"strings"
	"testing"

	"loop.example/g00630/impl"
)

func invalidNumbersOfParts() []int64 {
	return []int64{0, maxParts + 1, -1, -8, math.MaxInt64, math.MinInt64}
}

// invalidCuts returns lists of cuts of which each breaks one rule.
func invalidCuts() map[string][]string {
	return map[string][]string{
		"equal":               {"b", "b"},
		"equal and empty":     {"", ""},
		"decreasing":          {"d", "b"},
		"decreasing at last":  {"a", "b", "d", "c"},
		"decreasing at first": {"b", "a", "c", "d"},
		"bytes as signed":     {"\xff", "a"},
		"long first":          {tooLong(), "l"},
		"long last":           {"a", tooLong()},
		"too many":            {"a", "b", "c", "d", "e", "f", "g", "h"},
		"far too many":        textsOf("ab", 5),
	}
}

func mostCuts() []string { return []string{"b", "c", "d", "e", "f", "g", "h"} }

func compareRows(a impl.Row, b impl.Row) int {
	return strings.Compare(impl.RowBytes(a), impl.RowBytes(b))
}

func sortedRows(l []impl.Row) []impl.Row {
	return slices.SortedFunc(slices.Values(l), compareRows)
}

func rejected(t *testing.T, what string, n int, ok bool) {
	t.Helper()
	if ok || n != 0 {
		t.Errorf("%s: %d elements, %v", what, n, ok)
	}
}

func TestLimitOfParts(t *testing.T) {
	if impl.MaxParts != maxParts {
		t.Error(impl.MaxParts)
	}
}

func TestHashOf(t *testing.T) {
	for key, want := range map[string]int64{
		"":                                0x811c9dc5,
		"a":                               0xe40c292c,
		"foobar":                          0xbf9cf968,
		tooLong():                         -1,
		strings.Repeat("\x00", maxText+1): -1,
	} {
		if got := impl.HashOf(key); got != want {
			t.Errorf("HashOf(%q) = %#x, want %#x", key, got, want)
		}
	}
	for _, key := range append(textsOf(special, 4), longest(), strings.Repeat("\x00", maxText), strings.Repeat("\xff", maxText)) {
		h := fnv.New32a()
		h.Write([]byte(key))
		if got := impl.HashOf(key); got != int64(h.Sum32()) {
			t.Errorf("HashOf(%q) = %#x, want %#x", key, got, h.Sum32())
		}
	}
}

func TestPartOf(t *testing.T) {
	if impl.PartOf("a", 8) != 4 || impl.PartOf("", 8) != 5 || impl.PartOf(longest(), 1) != 0 {
		t.Error(impl.PartOf("a", 8), impl.PartOf("", 8), impl.PartOf(longest(), 1))
	}
	for _, key := range textsOf("\x00a\xff", 3) {
		for n := int64(1); n <= maxParts; n++ {
			if got := impl.PartOf(key, n); got != impl.HashOf(key)%n {
				t.Errorf("PartOf(%q, %d) = %d", key, n, got)
			}
		}
	}
	for _, n := range invalidNumbersOfParts() {
		if got := impl.PartOf("a", n); got != -1 {
			t.Errorf("PartOf(a, %d) = %d", n, got)
		}
	}
	for n := int64(1); n <= maxParts; n++ {
		if got := impl.PartOf(tooLong(), n); got != -1 {
			t.Errorf("a key that is too long is in part %d", got)
		}
	}
}

// testParts checks that the parts are those that place tells for each row, in the order of the list.
func testParts(t *testing.T, parts []impl.Part, l []impl.Row, n int64, place func(key string) int64) {
	t.Helper()
	if int64(len(parts)) != n {
		t.Fatalf("%d parts, want %d", len(parts), n)
	}
	for i := range parts {
		var want []impl.Row
		for _, r := range l {
			if place(r.Key) == int64(i) {
				want = append(want, r)
			}
		}
		sameRows(t, "part", parts[i].Rows, want)
	}
}

func TestPromise2EachRowIsInItsPart(t *testing.T) {
	r := newRand()
	for n := int64(1); n <= maxParts; n++ {
		for _, size := range []int{0, 1, 2, 7, 40, maxRows} {
			l := randomRows(r, size, 3)
			parts, ok := impl.Parted(l, n)
			if !ok {
				t.Fatal("rejected")
			}
			testParts(t, parts, l, n, func(key string) int64 { return impl.PartOf(key, n) })
		}
	}
}

func TestPartedKeepsOrderAndEqualRows(t *testing.T) {
	l := []impl.Row{
		{Key: "a", Tag: 3, Val: "z"}, {Key: "", Val: "2"}, {Key: "a", Val: "b"}, {Key: "a", Tag: 3, Val: "z"},
		{Key: "", Val: "1"}, {Key: "a", Val: "a"}, {Key: "", Val: "2"},
	}
	parts, ok := impl.Parted(l, 8)
	if !ok || len(parts) != 8 {
		t.Fatal(parts, ok)
	}
	sameRows(t, "part 4", parts[4].Rows, []impl.Row{l[0], l[2], l[3], l[5]})
	sameRows(t, "part 5", parts[5].Rows, []impl.Row{l[1], l[4], l[6]})
	for _, i := range []int{0, 1, 2, 3, 6, 7} {
		sameRows(t, "other part", parts[i].Rows, nil)
	}
	parts, ok = impl.Parted(l, 1)
	if !ok || len(parts) != 1 {
		t.Fatal(parts, ok)
	}
	sameRows(t, "only part", parts[0].Rows, l)
}

func TestPartedRejects(t *testing.T) {
	for _, n := range invalidNumbersOfParts() {
		for _, l := range [][]impl.Row{nil, rowsOf("a")} {
			p, ok := impl.Parted(l, n)
			rejected(t, "number of parts", len(p), ok)
		}
	}
	for name, l := range invalidLists() {
		for _, n := range []int64{1, maxParts} {
			p, ok := impl.Parted(l, n)
			rejected(t, name, len(p), ok)
		}
	}
	if p, ok := impl.Parted(make([]impl.Row, maxRows), maxParts); !ok || len(p[5].Rows) != maxRows {
		t.Error("the longest list is not accepted")
	}
}

func TestRangeOf(t *testing.T) {
	for _, c := range []struct {
		cuts []string
		key  string
		want int64
	}{
		{nil, "", 0},
		{nil, longest(), 0},
		{[]string{}, "a", 0},
		{[]string{""}, "", 1},
		{[]string{""}, "\x00", 1},
		{[]string{"\x00"}, "", 0},
		{[]string{"b", "d"}, "", 0},
		{[]string{"b", "d"}, "az", 0},
		{[]string{"b", "d"}, "a\xff", 0},
		{[]string{"b", "d"}, "b", 1},
		{[]string{"b", "d"}, "b\x00", 1},
		{[]string{"b", "d"}, "c\xff", 1},
		{[]string{"b", "d"}, "d", 2},
		{[]string{"b", "d"}, "x", 2},
		{[]string{"b", "d"}, "\xff", 2},
		{[]string{"a", "a\x00", "a\x00\xff"}, "a", 1},
		{[]string{"a", "a\x00", "a\x00\xff"}, "a\x00", 2},
		{[]string{"a", "a\x00", "a\x00\xff"}, "a\x00\xfe", 2},
		{[]string{"a", "a\x00", "a\x00\xff"}, "a\x00\xff", 3},
		{[]string{longest()}, longest(), 1},
		{mostCuts(), "a", 0},
		{mostCuts(), "e", 4},
		{mostCuts(), "h", 7},
	} {
		if got := impl.RangeOf(c.cuts, c.key); got != c.want {
			t.Errorf("RangeOf(%q, %q) = %d, want %d", c.cuts, c.key, got, c.want)
		}
	}
}

func TestRangeOfRejects(t *testing.T) {
	for name, cuts := range invalidCuts() {
		for _, key := range []string{"", "b", "\xff"} {
			if got := impl.RangeOf(cuts, key); got != -1 {
				t.Errorf("%s: %q is in range %d", name, key, got)
			}
		}
	}
	for _, cuts := range [][]string{nil, {"b"}, mostCuts()} {
		if got := impl.RangeOf(cuts, tooLong()); got != -1 {
			t.Errorf("a key that is too long is in range %d", got)
		}
	}
}

func randomCuts(n int) []string {
	r := newRand()
	var cuts []string
	for len(cuts) < n {
		cuts = append(cuts, randomText(r, 3))
		slices.Sort(cuts)
		cuts = slices.Compact(cuts)
	}
	return cuts
}

// testSortedParts checks that the parts, each sorted, form all rows, sorted.
func testSortedParts(t *testing.T, parts []impl.Part, l []impl.Row) {
	t.Helper()
	var all []impl.Row
	for _, p := range parts {
		rows, ok := impl.Sorted(p.Rows)
		if !ok {
			t.Fatal("a part is rejected")
		}
		all = append(all, rows...)
	}
	want, ok := impl.Sorted(l)
	if !ok || !impl.SortedOk(all) {
		t.Fatal("not sorted", all)
	}
	sameRows(t, "sorted parts", all, want)
	sameRows(t, "sorted parts", all, sortedRows(l))
}

func TestPromise2RangesFormAllRows(t *testing.T) {
	r := newRand()
	for n := range maxParts {
		cuts := randomCuts(n)
		for _, size := range []int{0, 1, 2, 7, 40, maxRows} {
			l := randomRows(r, size, 3)
			parts, ok := impl.RangeParted(l, cuts)
			if !ok {
				t.Fatal("rejected")
			}
			testParts(t, parts, l, int64(n+1), func(key string) int64 { return impl.RangeOf(cuts, key) })
			testSortedParts(t, parts, l)
		}
	}
}

// TestPromise2RangesOfCutsOf divides lists by the cuts that were made for them.
func TestPromise2RangesOfCutsOf(t *testing.T) {
	r := newRand()
	for n := int64(1); n <= maxParts; n++ {
		for _, size := range []int{0, 1, 3, 8, 50, maxRows} {
			l := randomRows(r, size, 2)
			cuts, ok := impl.CutsOf(l, n)
			if !ok || int64(len(cuts)) >= n {
				t.Fatal(cuts, ok)
			}
			parts, ok := impl.RangeParted(l, cuts)
			if !ok || len(parts) != len(cuts)+1 {
				t.Fatal(parts, ok)
			}
			testSortedParts(t, parts, l)
		}
	}
}

func TestRangeParted(t *testing.T) {
	l := rowsOf("d", "a", "c", "b", "", "x", "b\x00", "az", "d", "a")
	parts, ok := impl.RangeParted(l, []string{"b", "d"})
	if !ok || len(parts) != 3 {
		t.Fatal(parts, ok)
	}
	sameRows(t, "part 0", parts[0].Rows, []impl.Row{l[1], l[4], l[7], l[9]})
	sameRows(t, "part 1", parts[1].Rows, []impl.Row{l[2], l[3], l[6]})
	sameRows(t, "part 2", parts[2].Rows, []impl.Row{l[0], l[5], l[8]})
	parts, ok = impl.RangeParted(l, nil)
	if !ok || len(parts) != 1 {
		t.Fatal(parts, ok)
	}
	sameRows(t, "only part", parts[0].Rows, l)
	parts, ok = impl.RangeParted(nil, mostCuts())
	if !ok || len(parts) != maxParts {
		t.Fatal(parts, ok)
	}
	for i := range parts {
		sameRows(t, "empty part", parts[i].Rows, nil)
	}
}

func TestRangePartedRejects(t *testing.T) {
	for name, cuts := range invalidCuts() {
		for _, l := range [][]impl.Row{nil, rowsOf("a", "z")} {
			p, ok := impl.RangeParted(l, cuts)
			rejected(t, name, len(p), ok)
		}
	}
	for name, l := range invalidLists() {
		for _, cuts := range [][]string{nil, {"b"}, mostCuts()} {
			p, ok := impl.RangeParted(l, cuts)
			rejected(t, name, len(p), ok)
		}
	}
	if p, ok := impl.RangeParted(make([]impl.Row, maxRows), mostCuts()); !ok || len(p[0].Rows) != maxRows {
		t.Error("the longest list is not accepted")
	}
}

func TestCutsOf(t *testing.T) {
	for _, c := range []struct {
		keys []string
		n    int64
		want []string
	}{
		{nil, 1, nil},
		{nil, maxParts, nil},
		{[]string{"a"}, 1, nil},
		{[]string{"a"}, maxParts, []string{"a"}},
		{[]string{""}, 2, []string{""}},
		{[]string{"e", "b", "a", "d", "c", "b"}, 1, nil},
		{[]string{"e", "b", "a", "d", "c", "b"}, 2, []string{"c"}},
		{[]string{"e", "b", "a", "d", "c", "b"}, 3, []string{"b", "d"}},
		{[]string{"e", "b", "a", "d", "c", "b"}, 4, []string{"b", "c", "d"}},
		{[]string{"e", "b", "a", "d", "c", "b"}, 6, []string{"b", "c", "d", "e"}},
		{[]string{"e", "b", "a", "d", "c", "b"}, 8, []string{"a", "b", "c", "d", "e"}},
		{[]string{"a", "a", "a", "a"}, 4, []string{"a"}},
		{[]string{"b", "a"}, 2, []string{"b"}},
		{[]string{"\xff", "a\x00", "a", "\x00"}, 4, []string{"a", "a\x00", "\xff"}},
		{[]string{"h", "g", "f", "e", "d", "c", "b", "a"}, maxParts, mostCuts()},
	} {
		got, ok := impl.CutsOf(rowsOf(c.keys...), c.n)
		if !ok || !slices.Equal(got, c.want) {
			t.Errorf("CutsOf(%q, %d) = %q, %v, want %q", c.keys, c.n, got, ok, c.want)
		}
	}
}

// TestCutsOfAgreesWithItsRule uses the formula of the specification on sorted rows.
func TestCutsOfAgreesWithItsRule(t *testing.T) {
	r := newRand()
	for size := 1; size <= maxRows; size++ {
		l := randomRows(r, size, 2)
		sorted := sortedRows(l)
		for n := 1; n <= maxParts; n++ {
			var want []string
			for i := 1; i < n; i++ {
				if key := sorted[i*size/n].Key; !slices.Contains(want, key) {
					want = append(want, key)
				}
			}
			got, ok := impl.CutsOf(l, int64(n))
			if !ok || !slices.Equal(got, want) {
				t.Errorf("%d rows, %d ranges: %q, %v, want %q", size, n, got, ok, want)
			}
		}
	}
}

func TestCutsOfRejects(t *testing.T) {
	for _, n := range invalidNumbersOfParts() {
		for _, l := range [][]impl.Row{nil, rowsOf("a", "b")} {
			c, ok := impl.CutsOf(l, n)
			rejected(t, "number of ranges", len(c), ok)
		}
	}
	for name, l := range invalidLists() {
		for _, n := range []int64{1, maxParts} {
			c, ok := impl.CutsOf(l, n)
			rejected(t, name, len(c), ok)
		}
	}
}

func TestPartFunctionsModifyNothing(t *testing.T) {
	l, check := withSpare(rowsOf("c", "a", "b", "a", "", "c"))
	cuts := []string{"b", "c", "spare"}
	for range 2 {
		impl.Parted(l, 3)
		impl.RangeParted(l, cuts[:2])
		impl.RangeOf(cuts[:2], "a")
		impl.CutsOf(l, 3)
	}
	check(t)
	if !slices.Equal(cuts, []string{"b", "c", "spare"}) {
		t.Error("cuts were modified", cuts)
	}
}

// testApart overwrites the memory of each part, spare capacity included, and checks that no other part and not the argument sees this.
func testApart(t *testing.T, parts []impl.Part, l []impl.Row) {
	t.Helper()
	before := slices.Clone(l)
	for i := range parts {
		all := parts[i].Rows[:cap(parts[i].Rows)]
		for k := range all {
			all[k] = impl.Row{Tag: int64(i)}
		}
		for other := range i {
			sameRows(t, "part written to before", parts[other].Rows, filled(len(parts[other].Rows), int64(other)))
		}
	}
	for i := range parts {
		sameRows(t, "part after all writes", parts[i].Rows, filled(len(parts[i].Rows), int64(i)))
	}
	sameRows(t, "argument", l, before)
}

func filled(n int, tag int64) []impl.Row {
	return slices.Repeat([]impl.Row{{Tag: tag}}, n)
}

func TestPartsShareNoMemory(t *testing.T) {
	l := rowsOf("a", "b", "c", "d", "e", "f", "g", "h", "a", "b", "c", "d")
	for n := int64(1); n <= maxParts; n++ {
		parts, ok := impl.Parted(l, n)
		if !ok {
			t.Fatal("rejected")
		}
		testApart(t, parts, l)
		parts, ok = impl.RangeParted(l, mostCuts()[:n-1])
		if !ok {
			t.Fatal("rejected")
		}
		testApart(t, parts, l)
	}
}

func TestEqualArgumentsYieldEqualParts(t *testing.T) {
	l := randomRows(newRand(), maxRows, 2)
	first, _ := impl.Parted(l, 5)
	second, _ := impl.Parted(slices.Clone(l), 5)
	for i := range first {
		sameRows(t, "second call", second[i].Rows, first[i].Rows)
	}
	a, _ := impl.CutsOf(l, 5)
	b, _ := impl.CutsOf(slices.Clone(l), 5)
	if !slices.Equal(a, b) {
		t.Error(a, b)
	}
}
