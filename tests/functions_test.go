package tests

import (
	"go/ast"
	"go/parser"
	"go/token"
	"maps"
	"math"
	"path/filepath"
	"reflect"
	"slices"
	"strings"
	"testing"

	"loop.example/g00630/impl"
)

func allFunctions() map[string]any {
	return map[string]any{
		"RowOk": impl.RowOk, "RowsOk": impl.RowsOk, "KeyCode": impl.KeyCode, "ReadKeyCode": impl.ReadKeyCode, "RowBytes": impl.RowBytes, "ReadRow": impl.ReadRow,
		"Less": impl.Less, "RowsBytes": impl.RowsBytes, "ReadRows": impl.ReadRows,
		"HashOf": impl.HashOf, "PartOf": impl.PartOf, "Parted": impl.Parted, "RangeOf": impl.RangeOf, "RangeParted": impl.RangeParted, "CutsOf": impl.CutsOf,
		"SortedOk": impl.SortedOk, "Sorted": impl.Sorted, "RunsOf": impl.RunsOf, "MergedRuns": impl.MergedRuns, "FewerRuns": impl.FewerRuns,
		"GroupsOf": impl.GroupsOf, "Ungrouped": impl.Ungrouped, "FirstOf": impl.FirstOf, "Tagged": impl.Tagged,
		"JoinOf": impl.JoinOf, "MergeJoin": impl.MergeJoin, "PairLess": impl.PairLess, "Flipped": impl.Flipped, "PairText": impl.PairText,
		"FilterOk": impl.FilterOk, "FilterNew": impl.FilterNew, "FilterAdd": impl.FilterAdd, "FilterHas": impl.FilterHas, "FilterOf": impl.FilterOf, "FilterBoth": impl.FilterBoth, "Passed": impl.Passed,
		"NumberOf": impl.NumberOf, "Reduced": impl.Reduced, "TotalsOk": impl.TotalsOk, "Combined": impl.Combined,
		"SplitsOf": impl.SplitsOf, "JobOk": impl.JobOk, "MapTask": impl.MapTask, "ReduceTask": impl.ReduceTask, "RunJob": impl.RunJob,
		"ClusterNew": impl.ClusterNew, "ClusterOk": impl.ClusterOk, "ClusterDo": impl.ClusterDo, "ClusterPlay": impl.ClusterPlay, "Finished": impl.Finished, "ResultOf": impl.ResultOf,
		"DiskOk": impl.DiskOk, "Do": impl.Do, "Sync": impl.Sync, "Crash": impl.Crash, "ReadFile": impl.ReadFile, "Replace": impl.Replace,
		"OutOk": impl.OutOk, "OutBytes": impl.OutBytes, "ReadOut": impl.ReadOut, "FrameOf": impl.FrameOf, "TakeFrames": impl.TakeFrames,
		"StoreView": impl.StoreView, "StoreDo": impl.StoreDo, "StorePlay": impl.StorePlay,
		"Cogrouped": impl.Cogrouped, "Chained": impl.Chained, "Skewed": impl.Skewed, "SkewJoin": impl.SkewJoin,
		"RunScript": impl.RunScript,
	}
}

// TestAllFunctionsAreListed reads the program, so that none of its functions is left out of the tests below.
func TestAllFunctionsAreListed(t *testing.T) {
	files, err := filepath.Glob("../impl/*.go")
	if err != nil || len(files) == 0 {
		t.Fatal(files, err)
	}
	var names []string
	for _, name := range files {
		f, err := parser.ParseFile(token.NewFileSet(), name, nil, 0)
		if err != nil {
			t.Fatal(err)
		}
		for _, d := range f.Decls {
			if fn, ok := d.(*ast.FuncDecl); ok && fn.Recv == nil && fn.Name.IsExported() {
				names = append(names, fn.Name.Name)
			}
		}
	}
	slices.Sort(names)
	sameKeys(t, "functions", slices.Sorted(maps.Keys(allFunctions())), names)
}

// samples have arguments of each type, valid ones and others.
type samples map[reflect.Type][]reflect.Value

func addSamples[T any](s samples, l ...T) {
	for _, x := range l {
		s[reflect.TypeFor[T]()] = append(s[reflect.TypeFor[T]()], reflect.ValueOf(x))
	}
}

func allSamples(t *testing.T) samples {
	s := samples{}
	addRowSamples(s)
	addListSamples(s)
	addClusterSamples(t, s)
	addDiskSamples(s)
	return s
}

func addRowSamples(s samples) {
	few := words("b=2 a=3 a=1 =5")
	addSamples(s, int64(0), 1, 2, 3, 4, 5, 6, 7, 8, 9, 16, 64, 120, 121, 256, -1, math.MaxInt64, math.MinInt64)
	addSamples(s, "", "a", "b", "\x00", "a\x00\xff", longest(), tooLong(), "12", "007", "log", "new", "new.new", nameOf(maxName+1),
		impl.KeyCode("a"), impl.RowsBytes(few), impl.RowsBytes(few)+"x", impl.OutBytes(outOf(2, "a=1")), logOf(someOuts(3)...)+"x",
		"left-rows a=1 b=2 a=3\nright-rows a=x c=y\nfull\nsum\npart 3\nfly\n", "count")
	addSamples(s, impl.Row{}, few[0], few[1], impl.Row{Key: "a", Tag: 3, Val: "\x00"}, impl.Row{Key: tooLong()}, impl.Row{Tag: 4})
	addSamples(s, nil, []impl.Row{}, few, sortedRows(few), words("a=x c=y a=1 =12"), tagsOfOneKey(), sortedRows(tagsOfOneKey()), sameKey("b", 9),
		randomRows(newRand(), 30, 2), distinctRows(maxRows), make([]impl.Row, maxRows+1), []impl.Row{{Key: tooLong()}}, words("a=1 b="+longest()))
	addSamples(s, nil, []string{}, []string{"b", "d"}, mostCuts(), []string{"b", "b"}, []string{tooLong()})
}

func addListSamples(s samples) {
	few := words("b=2 a=3 a=1 =5")
	runs, _ := impl.RunsOf(randomRows(newRand(), 20, 2), 3)
	splitted := partsOf(sortedRows(words("a=1 a=2 c=3 e=1")), nil, words("a=4 g=7"))
	addSamples(s, nil, runs, splitted, partsOf(few, nil, few), partsOf(nil, nil), make([]impl.Part, maxRows+1), partsOf(make([]impl.Row, maxRows), words("a=1")))
	groups, _ := impl.GroupsOf(sortedRows(few))
	addSamples(s, nil, groups, groups[1:], asGroups(partsOf(few)), []impl.Group{{Key: "a"}})
	pairs, _ := impl.JoinOf(few, words("a=x c=y"), full)
	addSamples(s, impl.Pair{})
	addSamples(s, pairs...)
	addSamples(s, nil, pairs, orderedPairs(), make([]impl.Pair, maxFlipped+1))
	filter, _ := impl.FilterOf(few, 64)
	addSamples(s, impl.Filter{}, filter, filledFilter(64, 0xff), filledFilter(8, 0x55), filledFilter(256, 0), impl.Filter{N: 12, Bits: "\xff"})
	addSamples(s, nil, totalsOf("a=5 b=1"), totalsOf("=0 b=999999999999 c=2"), distinctTotals(1, maxRows), totalsOf("b=1 a=1"), totalsOf("a=-1"))
}

func asGroups(parts []impl.Part) []impl.Group {
	var groups []impl.Group
	for _, p := range parts {
		groups = append(groups, impl.Group{Key: p.Rows[0].Key, Rows: p.Rows})
	}
	return groups
}

func addClusterSamples(t *testing.T, s samples) {
	j := exampleJob()
	kinds := impl.Job{Kind: rdKinds, Parts: maxParts, Splits: partsOf(tagsOfOneKey(), words("a=1 b=2"))}
	one := impl.Job{Kind: rdCount, Parts: 1, Splits: partsOf(words("c=1 a=1"))}
	addSamples(s, impl.Job{}, j, kinds, one, impl.Job{Kind: 6, Parts: 1}, impl.Job{Kind: 1, Parts: 2, Splits: partsOf(make([]impl.Row, maxRows+1))})
	done := finished(t, newCluster(t, j))
	wrong := copied(done)
	wrong.Reds[0].Totals = totalsOf("a=7")
	addSamples(s, impl.Cluster{}, newCluster(t, j), done, mixedCluster(t), after(t, done, kill(0)), newCluster(t, kinds), finished(t, newCluster(t, one)), wrong)
	steps := []impl.Step{mapOn(0, 1), mapOn(1, 2), end(0), kill(2), up(2), redOn(0, 3), end(3), {}, mapOn(9, 9)}
	addSamples(s, steps...)
	addSamples(s, nil, steps, slices.Repeat(steps[:2], 100), slices.Repeat(steps[:3], 67), splitsEnded(done, 3))
}

func addDiskSamples(s samples) {
	log := withLog(logOf(someOuts(2)...))
	torn := withLog(logOf(someOuts(2)...)+"torn", impl.File{Name: "log.new", Data: "old"})
	addSamples(s, impl.Disk{}, synced(filesOf("a=1 new=2 new.new=3")), mixedDisk(), log, torn, unsynced(filesOf("log="), 5), impl.Disk{Live: filesOf("a=1")})
	addSamples(s, appendTo("a", "x"), appendTo("log", ""), rename("a", "b"), remove("log"), remove("none"), impl.DOp{}, appendTo("", ""))
	addSamples(s, nil, []int64{0}, []int64{0, 1, 2}, []int64{1, 4}, []int64{1, 1}, []int64{-1})
	addSamples(s, impl.Out{}, outOf(2, "a=1 b=0"), someOuts(4)[3], outOf(8, ""), outOf(1, "b=1 a=1"))
	acts := []impl.Act{newLog(), add(outOf(0, "a=1 b=2")), addSynced(someOuts(3)[2]), openLog(), withPower(openLog(), 1), lose([]int64{0, 1}, 3), lose([]int64{1, 0}, 3), {}, add(outOf(8, ""))}
	addSamples(s, acts...)
	addSamples(s, nil, acts[:0], acts, slices.Concat(acts[:3], []impl.Act{lose([]int64{0}, 9)}, acts[1:]))
}

// deepCopy copies all lists of a value: with room, each copy has spare capacity with marks, and without, the empty ones are nil.
func deepCopy(v reflect.Value, room int) reflect.Value {
	c := reflect.New(v.Type()).Elem()
	switch v.Kind() {
	case reflect.Slice:
		if v.Len()+room == 0 {
			return c
		}
		all := reflect.MakeSlice(v.Type(), v.Len()+room, v.Len()+room)
		for i := range all.Len() {
			if i < v.Len() {
				all.Index(i).Set(deepCopy(v.Index(i), room))
			} else {
				mark(all.Index(i))
			}
		}
		c.Set(all.Slice(0, v.Len()))
	case reflect.Struct:
		for i := range v.NumField() {
			c.Field(i).Set(deepCopy(v.Field(i), room))
		}
	default:
		c.Set(v)
	}
	return c
}

// mark sets a value to one that no result has.
func mark(v reflect.Value) {
	switch v.Kind() {
	case reflect.String:
		v.SetString("marked")
	case reflect.Int64:
		v.SetInt(-777)
	case reflect.Bool:
		v.SetBool(!v.Bool())
	case reflect.Slice:
		v.SetZero()
	case reflect.Struct:
		for i := range v.NumField() {
			mark(v.Field(i))
		}
	}
}

// wholeMemory shows the spare capacity of all lists, too.
func wholeMemory(v reflect.Value) any {
	switch v.Kind() {
	case reflect.Slice:
		all := []any{v.Len()}
		full := v.Slice(0, v.Cap())
		for i := range full.Len() {
			all = append(all, wholeMemory(full.Index(i)))
		}
		return all
	case reflect.Struct:
		var all []any
		for i := range v.NumField() {
			all = append(all, wholeMemory(v.Field(i)))
		}
		return all
	}
	return v.Interface()
}

func memoriesOfAll(l []reflect.Value) []any {
	var all []any
	for _, v := range l {
		all = append(all, wholeMemory(v))
	}
	return all
}

func copiesOfAll(l []reflect.Value, room int) []reflect.Value {
	var all []reflect.Value
	for _, v := range l {
		all = append(all, deepCopy(v, room))
	}
	return all
}

// imageOf makes equal values equal, nil and empty lists among them.
func imageOf(l []reflect.Value) []any { return memoriesOfAll(copiesOfAll(l, 0)) }

// A stretch of memory belongs to one list.
type stretch struct{ from, to uintptr }

func stretchesOf(v reflect.Value) []stretch {
	var all []stretch
	switch v.Kind() {
	case reflect.Slice:
		if v.Cap() > 0 {
			all = append(all, stretch{v.Pointer(), v.Pointer() + uintptr(v.Cap())*v.Type().Elem().Size()})
		}
		for i := range v.Len() {
			all = append(all, stretchesOf(v.Index(i))...)
		}
	case reflect.Struct:
		for i := range v.NumField() {
			all = append(all, stretchesOf(v.Field(i))...)
		}
	}
	return all
}

func overlap(all []stretch) bool {
	slices.SortFunc(all, func(a stretch, b stretch) int {
		switch {
		case a.from < b.from:
			return -1
		case a.from > b.from:
			return 1
		}
		return 0
	})
	for i := 1; i < len(all); i++ {
		if all[i].from < all[i-1].to {
			return true
		}
	}
	return false
}

// spoil overwrites all lists of a value, the lists in their elements first.
func spoil(v reflect.Value) {
	switch v.Kind() {
	case reflect.Slice:
		for i := range v.Len() {
			spoil(v.Index(i))
		}
		all := v.Slice(0, v.Cap())
		for i := range all.Len() {
			mark(all.Index(i))
		}
	case reflect.Struct:
		for i := range v.NumField() {
			spoil(v.Field(i))
		}
	}
}

// testCall calls a function several times with equal arguments, and returns the image of its results.
func testCall(t *testing.T, name string, f reflect.Value, list []reflect.Value) []any {
	t.Helper()
	what := name + " of " + brief(imageOf(list))
	arguments := copiesOfAll(list, 3)
	before := memoriesOfAll(arguments)
	first := f.Call(arguments)
	image := imageOf(first)
	second := f.Call(arguments)
	if !reflect.DeepEqual(imageOf(second), image) {
		t.Errorf("%s: the second result is another one", what)
	}
	if !reflect.DeepEqual(imageOf(f.Call(copiesOfAll(list, 0))), image) {
		t.Errorf("%s: equal arguments have another result", what)
	}
	if !reflect.DeepEqual(memoriesOfAll(arguments), before) {
		t.Errorf("%s: an argument was modified", what)
	}
	var all []stretch
	for _, v := range slices.Concat(arguments, first, second) {
		all = append(all, stretchesOf(v)...)
	}
	if overlap(all) {
		t.Errorf("%s: lists share memory", what)
	}
	for _, v := range first {
		spoil(v)
	}
	if !reflect.DeepEqual(imageOf(f.Call(arguments)), image) || !reflect.DeepEqual(imageOf(second), image) {
		t.Errorf("%s: a result depends on another one", what)
	}
	if !reflect.DeepEqual(memoriesOfAll(arguments), before) {
		t.Errorf("%s: an argument depends on a result", what)
	}
	return image
}

// TestPromise14OfAllFunctions draws the arguments of each function from the samples.
func TestPromise14OfAllFunctions(t *testing.T) {
	r := newRand()
	all := allSamples(t)
	functions := allFunctions()
	for _, name := range slices.Sorted(maps.Keys(functions)) {
		f := reflect.ValueOf(functions[name])
		results := map[string]bool{}
		for range 150 {
			var list []reflect.Value
			for i := range f.Type().NumIn() {
				choice := all[f.Type().In(i)]
				if len(choice) == 0 {
					t.Fatalf("%s: no samples of %s", name, f.Type().In(i))
				}
				list = append(list, choice[r.Intn(len(choice))])
			}
			results[brief(testCall(t, name, f, list))] = true
		}
		// Where all calls are rejected, nothing is tested.
		if len(results) < 2 {
			t.Errorf("%s: all results are %s", name, strings.Join(slices.Collect(maps.Keys(results)), ", "))
		}
	}
}
