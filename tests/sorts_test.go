package tests

import (
	"math"
	"slices"
	"testing"

	"loop.example/g00630/impl"
)

// orderedRows returns rows in strictly increasing order of which neighbours differ in one field alone, written down by hand.
func orderedRows() []impl.Row {
	return []impl.Row{
		{},
		{Val: "\x00"},
		{Val: "a"},
		{Val: "a\x00"},
		{Val: "a\xff"},
		{Val: "b"},
		{Tag: 1},
		{Tag: 3},
		{Key: "\x00"},
		{Key: "a", Val: "z"},
		{Key: "a", Tag: 1},
		{Key: "a", Tag: 2, Val: longest()},
		{Key: "a\x00"},
		{Key: "a\x01"},
		{Key: "aa"},
		{Key: "b"},
		{Key: longest()},
		{Key: "\xff"},
	}
}

func reversed(l []impl.Row) []impl.Row {
	l = slices.Clone(l)
	slices.Reverse(l)
	return l
}

// invalidSizes lie beyond both ends of 1..MaxRows, some of them only in more than 32 bits.
func invalidSizes() []int64 {
	return []int64{0, maxRows + 1, -1, -maxRows, 1<<32 + 1, -1<<32 + 1, math.MaxInt64, math.MinInt64}
}

func invalidMosts() []int64 {
	return []int64{1, 11, 0, -1, -2, 1<<32 + 2, -1<<32 + 2, math.MaxInt64, math.MinInt64}
}

// partsOf returns parts with copies of the given rows.
func partsOf(lists ...[]impl.Row) []impl.Part {
	parts := []impl.Part{}
	for _, l := range lists {
		parts = append(parts, impl.Part{Rows: slices.Clone(l)})
	}
	return parts
}

// randomRuns returns runs of random lengths, some of them without rows, and all their rows.
func randomRuns(n int, most int) ([]impl.Part, []impl.Row) {
	r := newRand()
	var runs []impl.Part
	var all []impl.Row
	for range n {
		rows := sortedRows(randomRows(r, r.Intn(most+1), 2))
		runs = append(runs, impl.Part{Rows: rows})
		all = append(all, rows...)
	}
	return runs, all
}

func sameParts(t *testing.T, what string, got []impl.Part, want []impl.Part) {
	t.Helper()
	if len(got) != len(want) {
		t.Fatalf("%s: %d parts, want %d: %#v", what, len(got), len(want), got)
	}
	for i := range got {
		sameRows(t, what, got[i].Rows, want[i].Rows)
	}
}

// invalidRuns returns lists of runs of which each breaks one rule.
func invalidRuns() map[string][]impl.Part {
	a, b := rowsOf("a"), rowsOf("b")
	lists := map[string][]impl.Part{
		"first run not sorted":   partsOf(rowsOf("b", "a"), a),
		"last run not sorted":    partsOf(a, b, rowsOf("b", "a")),
		"tags not sorted":        partsOf([]impl.Row{{Tag: 1}, {}}),
		"values not sorted":      partsOf([]impl.Row{{Val: "b"}, {Val: "a"}}),
		"too many rows in a run": partsOf(make([]impl.Row, maxRows+1)),
		"too many rows in all":   partsOf(make([]impl.Row, maxRows), a),
		"too many rows at last":  partsOf(make([]impl.Row, 60), make([]impl.Row, 60), nil, a),
		"far too many rows":      partsOf(slices.Repeat([][]impl.Row{make([]impl.Row, maxRows)}, maxRows)...),
		"too many runs":          make([]impl.Part, maxRows+1),
		"too many runs of a row": partsOf(slices.Repeat([][]impl.Row{a}, maxRows+1)...),
	}
	for name, l := range invalidLists() {
		lists[name] = partsOf(a, nil, l)
	}
	return lists
}

func TestSortedOk(t *testing.T) {
	l := orderedRows()
	for i := range l {
		for k := range l {
			if got := impl.SortedOk([]impl.Row{l[i], l[k]}); got != (i <= k) {
				t.Errorf("SortedOk of %#v, %#v: %v", l[i], l[k], got)
			}
		}
	}
	for i := range len(l) - 1 {
		swapped := slices.Clone(l)
		swapped[i], swapped[i+1] = l[i+1], l[i]
		if impl.SortedOk(swapped) {
			t.Errorf("the rows %d and %d are exchanged", i, i+1)
		}
	}
	for name, l := range map[string][]impl.Row{
		"nil":          nil,
		"no rows":      {},
		"one row":      {{Key: "z"}},
		"in order":     l,
		"equal rows":   slices.Repeat([]impl.Row{{Key: "k", Tag: 2, Val: "v"}}, 3),
		"longest list": make([]impl.Row, maxRows),
	} {
		if !impl.SortedOk(l) {
			t.Errorf("%s: not sorted", name)
		}
	}
	for name, l := range invalidLists() {
		if impl.SortedOk(l) {
			t.Errorf("%s: sorted", name)
		}
	}
}

func TestSorted(t *testing.T) {
	want := orderedRows()
	for i := range want {
		turned := append(slices.Clone(want[i:]), want[:i]...)
		for _, l := range [][]impl.Row{turned, reversed(turned)} {
			got, ok := impl.Sorted(l)
			if !ok {
				t.Fatal("rejected")
			}
			sameRows(t, "sorted", got, want)
		}
	}
	for _, l := range [][]impl.Row{nil, {}} {
		if got, ok := impl.Sorted(l); !ok || len(got) != 0 {
			t.Error(got, ok)
		}
	}
	twice := slices.Concat(want, reversed(want))
	got, ok := impl.Sorted(twice)
	if !ok || len(got) != len(twice) {
		t.Fatal(got, ok)
	}
	for i := range got {
		if got[i] != want[i/2] {
			t.Errorf("row %d is %#v", i, got[i])
		}
	}
}

func TestSortedRejects(t *testing.T) {
	for name, l := range invalidLists() {
		got, ok := impl.Sorted(l)
		rejected(t, name, len(got), ok)
	}
	if got, ok := impl.Sorted(make([]impl.Row, maxRows)); !ok || len(got) != maxRows {
		t.Error("the longest list is not accepted")
	}
}

func countOf(l []impl.Row) map[impl.Row]int {
	n := map[impl.Row]int{}
	for _, r := range l {
		n[r]++
	}
	return n
}

// TestPromise3Sorted uses texts so short that many rows are equal.
func TestPromise3Sorted(t *testing.T) {
	r := newRand()
	for size := range maxRows + 1 {
		for most := range 3 {
			l := randomRows(r, size, most)
			got, ok := impl.Sorted(l)
			if !ok || !impl.SortedOk(got) {
				t.Fatal("not sorted", got, ok)
			}
			sameRows(t, "sorted", got, sortedRows(l))
			before, after := countOf(l), countOf(got)
			if len(before) != len(after) {
				t.Fatal("other rows", l, got)
			}
			for row, n := range before {
				if after[row] != n {
					t.Errorf("%#v: %d times, before %d times", row, after[row], n)
				}
			}
		}
	}
}

func TestRunsOf(t *testing.T) {
	l := rowsOf("e", "d", "c", "b", "a", "f", "a")
	for _, c := range []struct {
		size int64
		want []impl.Part
	}{
		{1, partsOf(l[0:1], l[1:2], l[2:3], l[3:4], l[4:5], l[5:6], l[6:7])},
		{2, partsOf(reversed(l[0:2]), reversed(l[2:4]), l[4:6], l[6:7])},
		{3, partsOf(reversed(l[0:3]), []impl.Row{l[4], l[3], l[5]}, l[6:7])},
		{6, partsOf([]impl.Row{l[4], l[3], l[2], l[1], l[0], l[5]}, l[6:7])},
		{7, partsOf(sortedRows(l))},
		{8, partsOf(sortedRows(l))},
		{maxRows, partsOf(sortedRows(l))},
	} {
		got, ok := impl.RunsOf(l, c.size)
		if !ok {
			t.Fatal("rejected", c.size)
		}
		sameParts(t, "runs", got, c.want)
	}
	for _, size := range []int64{1, 2, maxRows} {
		for _, l := range [][]impl.Row{nil, {}} {
			if got, ok := impl.RunsOf(l, size); !ok || len(got) != 0 {
				t.Errorf("runs of no rows: %#v, %v", got, ok)
			}
		}
	}
}

func TestRunsOfRejects(t *testing.T) {
	for _, size := range invalidSizes() {
		for _, l := range [][]impl.Row{nil, rowsOf("b", "a")} {
			got, ok := impl.RunsOf(l, size)
			rejected(t, "size", len(got), ok)
		}
	}
	for name, l := range invalidLists() {
		for _, size := range []int64{1, 2, maxRows} {
			got, ok := impl.RunsOf(l, size)
			rejected(t, name, len(got), ok)
		}
	}
	l := make([]impl.Row, maxRows)
	if got, ok := impl.RunsOf(l, 1); !ok || len(got) != maxRows {
		t.Error("the longest list is not accepted in runs of one row")
	}
	if got, ok := impl.RunsOf(l, maxRows); !ok || len(got) != 1 || len(got[0].Rows) != maxRows {
		t.Error("the longest list is not accepted as one run")
	}
}

// TestPromise3MergedRunsOfAnySize also checks each run against the stretch of the list that it is made of.
func TestPromise3MergedRunsOfAnySize(t *testing.T) {
	r := newRand()
	for _, n := range []int{0, 1, 2, 3, 10, 59, 60, 119, maxRows} {
		l := randomRows(r, n, 2)
		for size := 1; size <= maxRows; size++ {
			runs, ok := impl.RunsOf(l, int64(size))
			if !ok || len(runs) != (n+size-1)/size {
				t.Fatal(n, size, len(runs), ok)
			}
			for i := range runs {
				sameRows(t, "run", runs[i].Rows, sortedRows(l[i*size:min(n, (i+1)*size)]))
			}
			got, ok := impl.MergedRuns(runs)
			if !ok {
				t.Fatal("rejected", n, size)
			}
			sameRows(t, "merged", got, sortedRows(l))
		}
	}
}

func TestPromise3MergedRunsOfAnyLengths(t *testing.T) {
	for n := range 41 {
		runs, all := randomRuns(n, 3)
		for _, l := range [][]impl.Part{runs, slices.Concat(runs[n/2:], runs[:n/2])} {
			got, ok := impl.MergedRuns(l)
			if !ok {
				t.Fatal("rejected", n)
			}
			sameRows(t, "merged", got, sortedRows(all))
		}
	}
}

func TestMergedRuns(t *testing.T) {
	l := orderedRows()
	for name, c := range map[string]struct {
		runs []impl.Part
		want []impl.Row
	}{
		"nil":              {nil, nil},
		"no runs":          {[]impl.Part{}, nil},
		"a run without":    {partsOf(nil), nil},
		"runs without":     {partsOf(nil, nil, []impl.Row{}), nil},
		"most runs":        {make([]impl.Part, maxRows), nil},
		"one run":          {partsOf(l), l},
		"one behind":       {partsOf(l[:5], l[5:]), l},
		"one before":       {partsOf(l[5:], l[:5]), l},
		"without at ends":  {partsOf(nil, l[5:], nil, l[:5], nil), l},
		"last row first":   {partsOf(l[17:], l[:17]), l},
		"first row last":   {partsOf(l[1:], l[:1]), l},
		"one within":       {partsOf(slices.Concat(l[:3], l[9:]), l[3:9]), l},
		"equal rows":       {partsOf(l[2:4], l[2:4], l[2:4]), []impl.Row{l[2], l[2], l[2], l[3], l[3], l[3]}},
		"longest run":      {partsOf(make([]impl.Row, maxRows)), make([]impl.Row, maxRows)},
		"longest and none": {partsOf(make([]impl.Row, maxRows), nil), make([]impl.Row, maxRows)},
		"most rows in all": {partsOf(make([]impl.Row, 60), make([]impl.Row, 59), make([]impl.Row, 1)), make([]impl.Row, maxRows)},
	} {
		got, ok := impl.MergedRuns(c.runs)
		if !ok {
			t.Errorf("%s: rejected", name)
		}
		sameRows(t, name, got, c.want)
	}
}

func TestMergedRunsRejects(t *testing.T) {
	for name, runs := range invalidRuns() {
		got, ok := impl.MergedRuns(runs)
		rejected(t, name, len(got), ok)
	}
}

func TestFewerRuns(t *testing.T) {
	l := orderedRows()
	runs := partsOf(l[4:5], l[3:4], nil, l[0:2], l[2:3], nil, nil)
	for _, c := range []struct {
		runs []impl.Part
		most int64
		want []impl.Part
	}{
		{nil, 2, nil},
		{[]impl.Part{}, 10, nil},
		{partsOf(nil), 2, partsOf(nil)},
		{partsOf(nil, nil), 2, partsOf(nil)},
		{partsOf(nil, nil, nil), 2, partsOf(nil, nil)},
		{partsOf(l), 2, partsOf(l)},
		{partsOf(l), 10, partsOf(l)},
		{runs, 2, partsOf(l[3:5], l[0:2], l[2:3], nil)},
		{runs, 3, partsOf(l[3:5], l[0:3], nil)},
		{runs, 4, partsOf(slices.Concat(l[0:2], l[3:5]), l[2:3])},
		{runs, 6, partsOf(l[0:5], nil)},
		{runs, 7, partsOf(l[0:5])},
		{runs, 10, partsOf(l[0:5])},
		{make([]impl.Part, maxRows), 2, make([]impl.Part, 60)},
		{make([]impl.Part, maxRows), 7, make([]impl.Part, 18)},
		{make([]impl.Part, maxRows), 10, make([]impl.Part, 12)},
		{partsOf(make([]impl.Row, 60), nil, make([]impl.Row, 60)), 2, partsOf(make([]impl.Row, 60), make([]impl.Row, 60))},
		{partsOf(make([]impl.Row, 60), nil, make([]impl.Row, 60)), 3, partsOf(make([]impl.Row, maxRows))},
	} {
		got, ok := impl.FewerRuns(c.runs, c.most)
		if !ok {
			t.Fatal("rejected", c.runs, c.most)
		}
		sameParts(t, "fewer runs", got, c.want)
	}
}

func TestFewerRunsRejects(t *testing.T) {
	for _, most := range invalidMosts() {
		for _, runs := range [][]impl.Part{nil, partsOf(nil), partsOf(rowsOf("a"), rowsOf("b"), rowsOf("c"))} {
			got, ok := impl.FewerRuns(runs, most)
			rejected(t, "most", len(got), ok)
		}
	}
	for name, runs := range invalidRuns() {
		for _, most := range []int64{2, 3, 10} {
			got, ok := impl.FewerRuns(runs, most)
			rejected(t, name, len(got), ok)
		}
	}
}

// TestPromise3FewerRunsUntilOne merges as an external sort does.
func TestPromise3FewerRunsUntilOne(t *testing.T) {
	l := randomRows(newRand(), maxRows, 2)
	for most := int64(2); most <= 10; most++ {
		for _, size := range []int64{1, 2, 7, 60, 119, maxRows} {
			runs, ok := impl.RunsOf(l, size)
			if !ok {
				t.Fatal("rejected")
			}
			for len(runs) > 1 {
				fewer, ok := impl.FewerRuns(runs, most)
				if !ok || len(fewer) >= len(runs) {
					t.Fatal(len(runs), len(fewer), ok)
				}
				for i := range fewer {
					var want []impl.Row
					for _, run := range runs[i*int(most) : min(len(runs), (i+1)*int(most))] {
						want = append(want, run.Rows...)
					}
					sameRows(t, "fewer runs", fewer[i].Rows, sortedRows(want))
				}
				runs = fewer
			}
			sameRows(t, "last run", runs[0].Rows, sortedRows(l))
		}
	}
}

func TestSortFunctionsModifyNothing(t *testing.T) {
	l, check := withSpare(rowsOf("c", "a", "b", "a", "", "c"))
	first, checkFirst := withSpare(rowsOf("b", "c", "d"))
	second, checkSecond := withSpare(rowsOf("a", "c", "e"))
	third, checkThird := withSpare(nil)
	runs := []impl.Part{{Rows: first}, {Rows: second}, {Rows: third}, {Rows: l}}
	for range 2 {
		impl.SortedOk(l)
		impl.Sorted(l)
		impl.RunsOf(l, 4)
		impl.MergedRuns(runs[:3])
		impl.MergedRuns(runs)
		impl.FewerRuns(runs[:3], 2)
		impl.FewerRuns(runs[:2], 2)
		impl.FewerRuns(runs[:1], 2)
	}
	check(t)
	checkFirst(t)
	checkSecond(t)
	checkThird(t)
	sameParts(t, "runs", runs, partsOf(rowsOf("b", "c", "d"), rowsOf("a", "c", "e"), nil, rowsOf("c", "a", "b", "a", "", "c")))
}

func TestSortResultsShareNoMemory(t *testing.T) {
	l := rowsOf("a", "b", "b", "c", "c", "c", "d")
	for size := int64(1); size <= 8; size++ {
		runs, ok := impl.RunsOf(l, size)
		if !ok {
			t.Fatal("rejected")
		}
		testApart(t, runs, l)
	}
	sorted, ok := impl.Sorted(l)
	if !ok {
		t.Fatal("rejected")
	}
	testApart(t, []impl.Part{{Rows: sorted}}, l)
	for n := 1; n <= len(l); n++ {
		runs, _ := impl.RunsOf(l, int64(n))
		got, ok := impl.MergedRuns(runs)
		if !ok {
			t.Fatal("rejected")
		}
		testFreshRuns(t, []impl.Part{{Rows: got}}, runs)
		for most := int64(2); most <= 10; most++ {
			fewer, ok := impl.FewerRuns(runs, most)
			if !ok {
				t.Fatal("rejected")
			}
			testFreshRuns(t, fewer, runs)
		}
	}
}

// testFreshRuns writes to each list of the result and checks that no other list and no run sees this.
func testFreshRuns(t *testing.T, got []impl.Part, runs []impl.Part) {
	t.Helper()
	var before []impl.Part
	for _, run := range runs {
		before = append(before, impl.Part{Rows: slices.Clone(run.Rows)})
	}
	testApart(t, got, nil)
	sameParts(t, "argument", runs, before)
}

func TestEqualArgumentsYieldEqualRuns(t *testing.T) {
	l := randomRows(newRand(), maxRows, 2)
	first, _ := impl.RunsOf(l, 7)
	second, _ := impl.RunsOf(slices.Clone(l), 7)
	sameParts(t, "runs", second, first)
	a, _ := impl.FewerRuns(first, 4)
	b, _ := impl.FewerRuns(second, 4)
	sameParts(t, "fewer runs", b, a)
	c, _ := impl.MergedRuns(first)
	d, _ := impl.MergedRuns(second)
	sameRows(t, "merged", d, c)
}
