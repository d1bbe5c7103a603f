package tests

import (
	"math"
	"math/rand"
	"slices"
	"strconv"
	"strings"
	"testing"

	"loop.example/g00630/impl"
)

const maxSplits = 20

func splitsOf(t *testing.T, l []impl.Row, size int64) []impl.Part {
	t.Helper()
	splits, ok := impl.SplitsOf(l, size)
	if !ok {
		t.Fatalf("size %d: rejected: %#v", size, l)
	}
	return splits
}

func mapTask(t *testing.T, j impl.Job, i int64) []impl.Part {
	t.Helper()
	parts, ok := impl.MapTask(j, i)
	if !ok {
		t.Fatalf("split %d: rejected: %#v", i, j)
	}
	return parts
}

func reduceTask(t *testing.T, j impl.Job, p int64, in []impl.Part) []impl.Total {
	t.Helper()
	totals, ok := impl.ReduceTask(j, p, in)
	if !ok {
		t.Fatalf("part %d: rejected: %#v, %#v", p, j, in)
	}
	return totals
}

func runJob(t *testing.T, j impl.Job) []impl.Total {
	t.Helper()
	totals, ok := impl.RunJob(j)
	if !ok {
		t.Fatalf("rejected: %#v", j)
	}
	return totals
}

// exampleJob is that of the specification.
func exampleJob() impl.Job {
	return impl.Job{Kind: rdSum, Parts: 2, Splits: partsOf(words("b=5 a=3"), words("a=10 =4"), words("a=2"))}
}

// allMaps returns the outputs of all map tasks for one part.
func allMaps(t *testing.T, j impl.Job, p int64) []impl.Part {
	t.Helper()
	var in []impl.Part
	for i := range j.Splits {
		in = append(in, mapTask(t, j, int64(i))[p])
	}
	return in
}

// resultOfTasks runs all tasks and returns the totals of all parts, in the order of their keys.
func resultOfTasks(t *testing.T, j impl.Job) []impl.Total {
	t.Helper()
	var all []impl.Total
	for p := range j.Parts {
		all = append(all, reduceTask(t, j, p, allMaps(t, j, p))...)
	}
	slices.SortFunc(all, func(a impl.Total, b impl.Total) int { return strings.Compare(a.Key, b.Key) })
	return all
}

func validJobs() map[string]impl.Job {
	return map[string]impl.Job{
		"example":             exampleJob(),
		"count":               {Kind: rdCount, Parts: 1},
		"kinds":               {Kind: rdKinds, Parts: 1},
		"most parts":          {Kind: rdLeast, Parts: maxParts, Splits: partsOf(words("a=1"))},
		"no splits":           {Kind: rdMost, Parts: 3, Splits: []impl.Part{}},
		"a split without":     {Kind: rdSum, Parts: 3, Splits: partsOf(nil)},
		"splits without rows": {Kind: rdSum, Parts: 3, Splits: partsOf(nil, words("a=1"), nil, []impl.Row{})},
		"most splits":         {Kind: rdSum, Parts: 2, Splits: make([]impl.Part, maxSplits)},
		"most splits of rows": {Kind: rdSum, Parts: 2, Splits: partsOf(slices.Repeat([][]impl.Row{words("a=1 b=2 c=3 d=4 e=5 f=6")}, maxSplits)...)},
		"most rows in one":    {Kind: rdSum, Parts: 2, Splits: partsOf(make([]impl.Row, maxRows))},
		"most rows and none":  {Kind: rdSum, Parts: 2, Splits: partsOf(nil, make([]impl.Row, maxRows), nil)},
		"most rows in all":    {Kind: rdSum, Parts: 2, Splits: partsOf(make([]impl.Row, 60), make([]impl.Row, 59), make([]impl.Row, 1))},
		"not sorted":          {Kind: rdSum, Parts: 2, Splits: partsOf(words("b=2 a=1"), words("a=0"))},
		"longest texts":       {Kind: rdSum, Parts: 2, Splits: partsOf([]impl.Row{{Key: longest(), Tag: maxTag, Val: longest()}})},
	}
}

// invalidJobs returns jobs of which each breaks one rule.
func invalidJobs() map[string]impl.Job {
	a := words("a=1")
	jobs := map[string]impl.Job{
		"zero":                  {},
		"too many splits":       {Kind: rdSum, Parts: 2, Splits: make([]impl.Part, maxSplits+1)},
		"far too many splits":   {Kind: rdSum, Parts: 2, Splits: make([]impl.Part, 1000)},
		"too many rows at once": {Kind: rdSum, Parts: 2, Splits: partsOf(make([]impl.Row, maxRows+1))},
		"too many rows in all":  {Kind: rdSum, Parts: 2, Splits: partsOf(make([]impl.Row, maxRows), a)},
		"one row too many":      {Kind: rdSum, Parts: 2, Splits: partsOf(a, make([]impl.Row, 60), nil, make([]impl.Row, 60))},
		"far too many rows":     {Kind: rdSum, Parts: 2, Splits: partsOf(slices.Repeat([][]impl.Row{make([]impl.Row, maxRows)}, maxSplits)...)},
	}
	for _, kind := range invalidReductions() {
		jobs["kind "+strconv.FormatInt(kind, 10)] = impl.Job{Kind: kind, Parts: 2, Splits: partsOf(a)}
	}
	for _, n := range append(invalidNumbersOfParts(), 1<<32+1) {
		jobs[strconv.FormatInt(n, 10)+" parts"] = impl.Job{Kind: rdSum, Parts: n, Splits: partsOf(a)}
	}
	for name, l := range invalidLists() {
		jobs[name+" in the first split"] = impl.Job{Kind: rdSum, Parts: 2, Splits: partsOf(l, a)}
		jobs[name+" in the last split"] = impl.Job{Kind: rdSum, Parts: 2, Splits: partsOf(a, nil, l)}
	}
	return jobs
}

func TestSplitsOf(t *testing.T) {
	l := rowsOf("e", "d", "c", "b", "a", "f", "a")
	for _, c := range []struct {
		size int64
		want []impl.Part
	}{
		{1, partsOf(l[0:1], l[1:2], l[2:3], l[3:4], l[4:5], l[5:6], l[6:7])},
		{2, partsOf(l[0:2], l[2:4], l[4:6], l[6:7])},
		{3, partsOf(l[0:3], l[3:6], l[6:7])},
		{4, partsOf(l[0:4], l[4:7])},
		{6, partsOf(l[0:6], l[6:7])},
		{7, partsOf(l)},
		{8, partsOf(l)},
		{maxRows, partsOf(l)},
	} {
		sameParts(t, "splits", splitsOf(t, l, c.size), c.want)
	}
	for _, size := range []int64{1, 2, maxRows} {
		for _, l := range [][]impl.Row{nil, {}} {
			sameParts(t, "splits of no rows", splitsOf(t, l, size), nil)
		}
	}
}

// TestSplitsOfOfAllLengths has all lists with 20 parts and those with one more.
func TestSplitsOfOfAllLengths(t *testing.T) {
	all := randomRows(newRand(), maxRows, 2)
	for n := range maxRows + 1 {
		for size := 1; size <= maxRows; size++ {
			got, ok := impl.SplitsOf(all[:n], int64(size))
			var want [][]impl.Row
			for at := 0; at < n; at += size {
				want = append(want, all[at:min(n, at+size)])
			}
			if len(want) > maxSplits {
				rejected(t, "too many splits", len(got), ok)
				continue
			}
			if !ok {
				t.Fatalf("%d rows, size %d: rejected", n, size)
			}
			sameParts(t, "splits", got, partsOf(want...))
		}
	}
}

func TestSplitsOfRejects(t *testing.T) {
	for _, size := range invalidSizes() {
		for _, l := range [][]impl.Row{nil, rowsOf("b", "a"), make([]impl.Row, maxRows)} {
			got, ok := impl.SplitsOf(l, size)
			rejected(t, "size", len(got), ok)
		}
	}
	for name, l := range invalidLists() {
		for _, size := range []int64{1, 2, 7, maxRows} {
			got, ok := impl.SplitsOf(l, size)
			rejected(t, name, len(got), ok)
		}
	}
	for _, c := range []struct {
		rows int
		size int64
	}{{21, 1}, {maxRows, 1}, {41, 2}, {101, 5}, {maxRows, 5}} {
		got, ok := impl.SplitsOf(make([]impl.Row, c.rows), c.size)
		rejected(t, "too many splits", len(got), ok)
	}
	for _, c := range []struct {
		rows int
		size int64
	}{{20, 1}, {39, 2}, {40, 2}, {100, 5}, {maxRows, 6}} {
		if got := splitsOf(t, make([]impl.Row, c.rows), c.size); len(got) != maxSplits {
			t.Errorf("%d rows, size %d: %d splits", c.rows, c.size, len(got))
		}
	}
}

func TestJobOk(t *testing.T) {
	for name, j := range validJobs() {
		if !impl.JobOk(j) {
			t.Errorf("%s: not valid", name)
		}
	}
	for name, j := range invalidJobs() {
		if impl.JobOk(j) {
			t.Errorf("%s: valid", name)
		}
	}
	for kind := int64(-3); kind <= 9; kind++ {
		for parts := int64(-3); parts <= 12; parts++ {
			want := kind >= rdCount && kind <= rdKinds && parts >= 1 && parts <= maxParts
			if got := impl.JobOk(impl.Job{Kind: kind, Parts: parts}); got != want {
				t.Errorf("kind %d, %d parts: %v", kind, parts, got)
			}
		}
	}
}

func TestMapTask(t *testing.T) {
	j := exampleJob()
	sameParts(t, "split 0", mapTask(t, j, 0), partsOf(words("a=3"), words("b=5")))
	sameParts(t, "split 1", mapTask(t, j, 1), partsOf(words("a=10"), words("=4")))
	sameParts(t, "split 2", mapTask(t, j, 2), partsOf(words("a=2"), nil))
	j = impl.Job{Kind: rdSum, Parts: 1, Splits: partsOf(reversed(orderedRows()), nil)}
	sameParts(t, "one part", mapTask(t, j, 0), partsOf(orderedRows()))
	sameParts(t, "a split without rows", mapTask(t, j, 1), partsOf(nil))
	j.Parts = maxParts
	sameParts(t, "most parts of no rows", mapTask(t, j, 1), make([]impl.Part, maxParts))
}

func TestMapTaskReturnsSortedParts(t *testing.T) {
	r := newRand()
	for parts := int64(1); parts <= maxParts; parts++ {
		for _, size := range []int{0, 1, 5, maxRows} {
			l := randomRows(r, size, 2)
			for _, kind := range allReductions() {
				j := impl.Job{Kind: kind, Parts: parts, Splits: partsOf(nil, l)}
				got := mapTask(t, j, 1)
				testParts(t, got, sortedRows(l), parts, func(key string) int64 { return impl.PartOf(key, parts) })
				for _, p := range got {
					if !impl.SortedOk(p.Rows) {
						t.Error("not sorted", p.Rows)
					}
				}
			}
		}
	}
}

func TestMapTaskRejects(t *testing.T) {
	for name, j := range invalidJobs() {
		for _, i := range []int64{0, 1, -1, int64(len(j.Splits)) - 1, int64(len(j.Splits))} {
			got, ok := impl.MapTask(j, i)
			rejected(t, name, len(got), ok)
		}
	}
	for name, j := range validJobs() {
		n := int64(len(j.Splits))
		for _, i := range []int64{-1, n, n + 1, -n - 1, 1 << 32, -1 << 32, math.MaxInt64, math.MinInt64} {
			got, ok := impl.MapTask(j, i)
			rejected(t, name+": no such split", len(got), ok)
		}
		for i := range n {
			if got := mapTask(t, j, i); int64(len(got)) != j.Parts {
				t.Errorf("%s: %d parts", name, len(got))
			}
		}
	}
}

func TestReduceTask(t *testing.T) {
	j := exampleJob()
	sameTotals(t, "part 0", reduceTask(t, j, 0, allMaps(t, j, 0)), totalsOf("a=15"))
	sameTotals(t, "part 1", reduceTask(t, j, 1, allMaps(t, j, 1)), totalsOf("=4 b=5"))
	sameTotals(t, "other rows of the part", reduceTask(t, j, 1, partsOf(words("=1 b=2 b=7"))), totalsOf("=1 b=9"))
	for p := range int64(2) {
		for name, in := range map[string][]impl.Part{
			"nil":           nil,
			"no runs":       {},
			"a run without": partsOf(nil),
			"most runs":     make([]impl.Part, maxRows),
		} {
			sameTotals(t, name, reduceTask(t, j, p, in), nil)
		}
	}
	for i, want := range []string{"a=4", "a=16", "a=0", "a=10", "a=3"} {
		j := impl.Job{Kind: allReductions()[i], Parts: maxParts}
		sameTotals(t, "kinds", reduceTask(t, j, 4, partsOf(words("a=10 a=3"), nil, words("a=3 a=x"))), totalsOf(want))
	}
}

// TestReduceTaskOfMostRows has an input that is longer than that of the job, which limits the splits alone.
func TestReduceTaskOfMostRows(t *testing.T) {
	j := impl.Job{Kind: rdCount, Parts: 1}
	a := words("a=1")
	sameTotals(t, "one run", reduceTask(t, j, 0, partsOf(slices.Repeat(a, maxRows))), totalsOf("a=120"))
	sameTotals(t, "most runs", reduceTask(t, j, 0, partsOf(slices.Repeat([][]impl.Row{a}, maxRows)...)), totalsOf("a=120"))
	sameTotals(t, "most keys", reduceTask(t, j, 0, partsOf(distinctRows(maxRows))), totalsByHand(distinctRows(maxRows), rdCount))
}

func TestReduceTaskRejectsJobsAndParts(t *testing.T) {
	for name, j := range invalidJobs() {
		for _, p := range []int64{0, 1, -1, j.Parts - 1, j.Parts} {
			got, ok := impl.ReduceTask(j, p, nil)
			rejected(t, name, len(got), ok)
		}
	}
	for name, j := range validJobs() {
		for _, p := range []int64{-1, j.Parts, j.Parts + 1, maxParts, -j.Parts, 1 << 32, -1 << 32, math.MaxInt64, math.MinInt64} {
			for _, in := range [][]impl.Part{nil, partsOf(words("a=1"))} {
				got, ok := impl.ReduceTask(j, p, in)
				rejected(t, name+": no such part", len(got), ok)
			}
		}
		for p := range j.Parts {
			sameTotals(t, name, reduceTask(t, j, p, nil), nil)
		}
	}
}

func TestReduceTaskRejectsInputs(t *testing.T) {
	for name, in := range invalidRuns() {
		for _, kind := range allReductions() {
			got, ok := impl.ReduceTask(impl.Job{Kind: kind, Parts: 1}, 0, in)
			rejected(t, name, len(got), ok)
		}
	}
	for name, l := range unsortedLists() {
		got, ok := impl.ReduceTask(impl.Job{Kind: rdSum, Parts: 1}, 0, partsOf(l))
		rejected(t, name, len(got), ok)
	}
	j := exampleJob()
	for _, c := range []struct {
		p  int64
		in []impl.Part
	}{
		{1, partsOf(words("a=1"))},
		{0, partsOf(words("b=1"))},
		{0, partsOf(words("=1"))},
		{0, partsOf(words("=1 a=2"))},
		{0, partsOf(words("a=1 b=2"))},
		{0, partsOf(words("a=1"), nil, words("b=2"))},
		{0, partsOf(words("=2"), words("a=1"))},
		{1, partsOf(words("=1 a=2 b=3"))},
		{1, allMaps(t, j, 0)},
		{0, allMaps(t, j, 1)},
		{0, mapTask(t, j, 0)},
		{1, mapTask(t, j, 1)},
	} {
		got, ok := impl.ReduceTask(j, c.p, c.in)
		rejected(t, "a key of another part", len(got), ok)
	}
}

func TestReduceTaskTakesItsPartAlone(t *testing.T) {
	for _, key := range append(textsOf("\x00a\xff", 2), longest()) {
		for parts := int64(1); parts <= maxParts; parts++ {
			for p := range parts {
				j := impl.Job{Kind: rdCount, Parts: parts}
				got, ok := impl.ReduceTask(j, p, partsOf([]impl.Row{{Key: key}}))
				if p != impl.PartOf(key, parts) {
					rejected(t, "another part", len(got), ok)
				} else if !ok || !slices.Equal(got, []impl.Total{{Key: key, N: 1}}) {
					t.Errorf("%q, part %d of %d: %v, %v", key, p, parts, got, ok)
				}
			}
		}
	}
}

func TestRunJob(t *testing.T) {
	sameTotals(t, "example", runJob(t, exampleJob()), totalsOf("=4 a=15 b=5"))
	for i, want := range []string{"=1 a=3 b=1", "=4 a=15 b=5", "=4 a=2 b=5", "=4 a=10 b=5", "=1 a=3 b=1"} {
		j := exampleJob()
		j.Kind = allReductions()[i]
		sameTotals(t, "kinds", runJob(t, j), totalsOf(want))
	}
	for name, j := range validJobs() {
		var all []impl.Row
		for _, s := range j.Splits {
			all = append(all, s.Rows...)
		}
		sameTotals(t, name, runJob(t, j), totalsByHand(all, j.Kind))
		sameTotals(t, name, resultOfTasks(t, j), totalsByHand(all, j.Kind))
	}
	j := impl.Job{Kind: rdKinds, Parts: 3, Splits: partsOf(words("a=x b=x"), words("a=x"), words("a=y b=x"))}
	sameTotals(t, "values of several splits", runJob(t, j), totalsOf("a=2 b=1"))
	sameTotals(t, "values of several splits", resultOfTasks(t, j), totalsOf("a=2 b=1"))
}

func TestRunJobRejects(t *testing.T) {
	for name, j := range invalidJobs() {
		got, ok := impl.RunJob(j)
		rejected(t, name, len(got), ok)
	}
}

// randomSplits cuts the list at random places, so that some splits have no rows.
func randomSplits(r *rand.Rand, l []impl.Row, n int) []impl.Part {
	at := []int{0, len(l)}
	for range n - 1 {
		at = append(at, r.Intn(len(l)+1))
	}
	slices.Sort(at)
	var lists [][]impl.Row
	for i := range n {
		lists = append(lists, l[at[i]:at[i+1]])
	}
	return partsOf(lists...)
}

// waysToSplit returns the splits of all sizes that SplitsOf accepts, random ones, and those of the rows in another order.
func waysToSplit(t *testing.T, l []impl.Row) [][]impl.Part {
	t.Helper()
	var ways [][]impl.Part
	for _, size := range []int64{1, 2, 3, 6, 7, 20, 50, 119, maxRows} {
		if splits, ok := impl.SplitsOf(l, size); ok {
			ways = append(ways, splits)
		}
	}
	r := newRand()
	for _, n := range []int{1, 2, 5, maxSplits} {
		ways = append(ways, randomSplits(r, l, n), randomSplits(r, reversed(l), n))
	}
	return ways
}

// TestPromise8ResultsDependOnRowsAlone compares the whole job and its tasks with all rows at once.
func TestPromise8ResultsDependOnRowsAlone(t *testing.T) {
	r := newRand()
	for _, size := range []int{0, 1, 2, 7, 40, maxRows} {
		for most := range 3 {
			for _, l := range [][]impl.Row{randomNumbers(r, size, most), positiveNumbers(r, size, most)} {
				for _, splits := range waysToSplit(t, l) {
					for _, kind := range allReductions() {
						want := totalsByHand(l, kind)
						for parts := int64(1); parts <= maxParts; parts++ {
							j := impl.Job{Kind: kind, Parts: parts, Splits: splits}
							sameTotals(t, "job", runJob(t, j), want)
							sameTotals(t, "tasks", resultOfTasks(t, j), want)
						}
					}
				}
			}
		}
	}
}

// TestPromise8OrderOfInputs gives the outputs of the map tasks to a reduce task in other orders.
func TestPromise8OrderOfInputs(t *testing.T) {
	l := randomNumbers(newRand(), maxRows, 2)
	for _, kind := range allReductions() {
		j := impl.Job{Kind: kind, Parts: 3, Splits: splitsOf(t, l, 7)}
		for p := range j.Parts {
			in := allMaps(t, j, p)
			want := reduceTask(t, j, p, in)
			for n := range in {
				turned := slices.Concat(in[n:], in[:n])
				sameTotals(t, "turned", reduceTask(t, j, p, turned), want)
				slices.Reverse(turned)
				sameTotals(t, "reversed", reduceTask(t, j, p, turned), want)
			}
		}
	}
}

func TestJobFunctionsModifyNothing(t *testing.T) {
	l, check := withSpare(words("c=1 a=3 b=2 a=4 =5 c=1"))
	first, checkFirst := withSpare(words("b=5 a=3"))
	second, checkSecond := withSpare(nil)
	run, checkRun := withSpare(words("a=1 a=2"))
	other, checkOther := withSpare(words("a=0 a=5"))
	splits := []impl.Part{{Rows: first}, {Rows: second}, {Rows: l}, {Rows: words("z=9")}}
	in := []impl.Part{{Rows: run}, {Rows: other}, {Rows: words("z=9")}}
	for range 2 {
		for size := int64(0); size < 8; size++ {
			impl.SplitsOf(l, size)
		}
		for _, kind := range append(allReductions(), 0, 6) {
			j := impl.Job{Kind: kind, Parts: 2, Splits: splits[:3]}
			impl.JobOk(j)
			impl.RunJob(j)
			for i := int64(-1); i < 4; i++ {
				impl.MapTask(j, i)
				impl.ReduceTask(j, i, in[:1])
				impl.ReduceTask(j, i, in[:2])
			}
		}
	}
	for _, check := range []func(t *testing.T){check, checkFirst, checkSecond, checkRun, checkOther} {
		check(t)
	}
	sameParts(t, "splits", splits, partsOf(words("b=5 a=3"), nil, words("c=1 a=3 b=2 a=4 =5 c=1"), words("z=9")))
	sameParts(t, "input", in, partsOf(words("a=1 a=2"), words("a=0 a=5"), words("z=9")))
}

func TestSplitsShareNoMemory(t *testing.T) {
	l := rowsOf("a", "b", "c", "d", "e", "f", "g")
	for size := int64(1); size <= 8; size++ {
		testApart(t, splitsOf(t, l, size), l)
	}
}

func TestTaskResultsShareNoMemory(t *testing.T) {
	for parts := int64(1); parts <= maxParts; parts++ {
		l := rowsOf("a", "b", "c", "d", "e", "f", "g", "h", "i", "i", "j")
		j := impl.Job{Kind: rdCount, Parts: parts, Splits: []impl.Part{{Rows: l}}}
		testApart(t, mapTask(t, j, 0), l)
		for p := range parts {
			in := allMaps(t, j, p)
			before := partsOf(in[0].Rows)
			overwriteTotals(reduceTask(t, j, p, in))
			sameParts(t, "input", in, before)
			sameTotals(t, "second reduce task", reduceTask(t, j, p, in), totalsByHand(in[0].Rows, rdCount))
		}
		overwriteTotals(runJob(t, j))
		sameTotals(t, "second run", runJob(t, j), totalsByHand(l, rdCount))
		sameRows(t, "split", l, rowsOf("a", "b", "c", "d", "e", "f", "g", "h", "i", "i", "j"))
	}
}

func TestEqualArgumentsYieldEqualTasks(t *testing.T) {
	l := randomNumbers(newRand(), maxRows, 2)
	for _, kind := range allReductions() {
		a := impl.Job{Kind: kind, Parts: 5, Splits: splitsOf(t, l, 13)}
		b := impl.Job{Kind: kind, Parts: 5, Splits: splitsOf(t, slices.Clone(l), 13)}
		sameParts(t, "splits", b.Splits, a.Splits)
		for i := range a.Splits {
			sameParts(t, "map task", mapTask(t, b, int64(i)), mapTask(t, a, int64(i)))
		}
		for p := range a.Parts {
			sameTotals(t, "reduce task", reduceTask(t, b, p, allMaps(t, b, p)), reduceTask(t, a, p, allMaps(t, a, p)))
		}
		sameTotals(t, "job", runJob(t, b), runJob(t, a))
	}
}
