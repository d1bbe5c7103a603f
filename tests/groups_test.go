package tests

import (
	"math"
	"slices"
	"testing"

	"loop.example/g00630/impl"
)

func groupOf(key string, rows ...impl.Row) impl.Group {
	return impl.Group{Key: key, Rows: slices.Clone(rows)}
}

func sameGroups(t *testing.T, what string, got []impl.Group, want []impl.Group) {
	t.Helper()
	if len(got) != len(want) {
		t.Fatalf("%s: %d groups, want %d: %#v", what, len(got), len(want), got)
	}
	for i := range got {
		if got[i].Key != want[i].Key {
			t.Errorf("%s: group %d has the key %q, want %q", what, i, got[i].Key, want[i].Key)
		}
		sameRows(t, what, got[i].Rows, want[i].Rows)
	}
}

// groupsByHand gathers the rows of each key, whatever the order of the list.
func groupsByHand(l []impl.Row) []impl.Group {
	rows := map[string][]impl.Row{}
	var keys []string
	for _, r := range l {
		if rows[r.Key] == nil {
			keys = append(keys, r.Key)
		}
		rows[r.Key] = append(rows[r.Key], r)
	}
	slices.Sort(keys)
	var groups []impl.Group
	for _, key := range keys {
		groups = append(groups, impl.Group{Key: key, Rows: rows[key]})
	}
	return groups
}

// distinctRows returns n rows with strictly increasing keys.
func distinctRows(n int) []impl.Row {
	l := []impl.Row{}
	for i := range n {
		l = append(l, impl.Row{Key: string([]byte{byte(i)}), Tag: int64(i % (maxTag + 1))})
	}
	return l
}

// unsortedLists returns valid lists that are not sorted.
func unsortedLists() map[string][]impl.Row {
	return map[string][]impl.Row{
		"keys":           rowsOf("b", "a"),
		"keys at last":   rowsOf("a", "b", "c", "b"),
		"tags":           {{Key: "a", Tag: 1}, {Key: "a"}},
		"values":         {{Key: "a", Val: "b"}, {Key: "a", Val: "a"}},
		"values at last": {{Key: "a"}, {Key: "b", Val: "\xff"}, {Key: "b", Val: "a"}},
	}
}

func TestGroupsOf(t *testing.T) {
	l := orderedRows()
	for name, c := range map[string]struct {
		rows []impl.Row
		want []impl.Group
	}{
		"nil":        {nil, nil},
		"no rows":    {[]impl.Row{}, nil},
		"one row":    {l[16:17], []impl.Group{groupOf(longest(), l[16])}},
		"one key":    {l[:8], []impl.Group{groupOf("", l[:8]...)}},
		"equal rows": {[]impl.Row{l[9], l[9], l[9]}, []impl.Group{groupOf("a", l[9], l[9], l[9])}},
		"prefixes": {l[7:14], []impl.Group{
			groupOf("", l[7]), groupOf("\x00", l[8]), groupOf("a", l[9:12]...), groupOf("a\x00", l[12]), groupOf("a\x01", l[13]),
		}},
		"last keys": {l[14:], []impl.Group{
			groupOf("aa", l[14]), groupOf("b", l[15]), groupOf(longest(), l[16]), groupOf("\xff", l[17]),
		}},
		"longest list of a key": {make([]impl.Row, maxRows), []impl.Group{groupOf("", make([]impl.Row, maxRows)...)}},
	} {
		got, ok := impl.GroupsOf(c.rows)
		if !ok {
			t.Errorf("%s: rejected", name)
		}
		sameGroups(t, name, got, c.want)
	}
}

func TestGroupsOfRejects(t *testing.T) {
	for name, l := range unsortedLists() {
		got, ok := impl.GroupsOf(l)
		rejected(t, name, len(got), ok)
	}
	for name, l := range invalidLists() {
		got, ok := impl.GroupsOf(l)
		rejected(t, name, len(got), ok)
	}
}

func TestPromise4RowsAreRecovered(t *testing.T) {
	r := newRand()
	for size := range maxRows + 1 {
		for most := range 3 {
			l := sortedRows(randomRows(r, size, most))
			groups, ok := impl.GroupsOf(l)
			if !ok {
				t.Fatal("rejected")
			}
			sameGroups(t, "groups", groups, groupsByHand(l))
			back, ok := impl.Ungrouped(groups)
			if !ok {
				t.Fatal("groups are rejected", groups)
			}
			sameRows(t, "recovered", back, l)
		}
	}
	l := distinctRows(maxRows)
	groups, ok := impl.GroupsOf(l)
	if !ok || len(groups) != maxRows {
		t.Fatal(len(groups), ok)
	}
	back, ok := impl.Ungrouped(groups)
	if !ok {
		t.Fatal("as many groups as rows are rejected")
	}
	sameRows(t, "recovered", back, l)
}

// TestUngroupedIsTheInverse starts from groups.
func TestUngroupedIsTheInverse(t *testing.T) {
	for _, groups := range [][]impl.Group{
		nil,
		{},
		{groupOf("", impl.Row{})},
		{groupOf("", impl.Row{}, impl.Row{}, impl.Row{Tag: 1}), groupOf("\x00", impl.Row{Key: "\x00", Val: "v"})},
		{groupOf("a", impl.Row{Key: "a", Tag: 3, Val: "z"}), groupOf("a\x00", impl.Row{Key: "a\x00"}), groupOf("\xff", impl.Row{Key: "\xff"})},
		{groupOf("", make([]impl.Row, maxRows)...)},
		{groupOf("", make([]impl.Row, maxRows-1)...), groupOf("a", impl.Row{Key: "a"})},
	} {
		rows, ok := impl.Ungrouped(groups)
		if !ok {
			t.Fatal("rejected", groups)
		}
		var want []impl.Row
		for _, g := range groups {
			want = append(want, g.Rows...)
		}
		sameRows(t, "rows", rows, want)
		back, ok := impl.GroupsOf(rows)
		if !ok {
			t.Fatal("rows are rejected", rows)
		}
		sameGroups(t, "groups", back, groups)
	}
}

func TestUngroupedRejects(t *testing.T) {
	a, b, c := impl.Row{Key: "a"}, impl.Row{Key: "b"}, impl.Row{Key: "c"}
	lists := map[string][]impl.Group{
		"keys decrease":         {groupOf("b", b), groupOf("a", a)},
		"keys decrease at last": {groupOf("a", a), groupOf("c", c), groupOf("b", b)},
		"keys are equal":        {groupOf("a", a), groupOf("a", a)},
		"equal keys, in order":  {groupOf("a", a), groupOf("a", impl.Row{Key: "a", Tag: 1}), groupOf("b", b)},
		"no rows":               {groupOf("a")},
		"no key and no rows":    {groupOf("")},
		"no rows at first":      {groupOf("a"), groupOf("b", b)},
		"no rows within":        {groupOf("a", a), groupOf("b"), groupOf("c", c)},
		"no rows at last":       {groupOf("a", a), groupOf("b")},
		"another key":           {groupOf("b", a)},
		"another key, in order": {groupOf("a", a, b)},
		"another key at first":  {groupOf("b", a, b)},
		"another key at last":   {groupOf("a", a), groupOf("b", b, c)},
		"another key within":    {groupOf("a", a, impl.Row{Key: "a\x00"}, impl.Row{Key: "b"})},
		"keys exchanged":        {groupOf("a", b), groupOf("b", a)},
		"keys moved":            {groupOf("0", a), groupOf("1", b)},
		"tags not sorted":       {groupOf("a", impl.Row{Key: "a", Tag: 1}, a)},
		"values not sorted":     {groupOf("a", impl.Row{Key: "a", Val: "2"}, impl.Row{Key: "a", Val: "1"})},
		"last not sorted":       {groupOf("a", a), groupOf("b", impl.Row{Key: "b", Tag: 2}, b)},
		"too many rows":         {groupOf("", make([]impl.Row, maxRows+1)...)},
		"too many rows in all":  {groupOf("", make([]impl.Row, maxRows)...), groupOf("a", a)},
		"too many groups":       groupsByHand(distinctRows(maxRows + 1)),
		"long key":              {groupOf(tooLong(), impl.Row{Key: tooLong()})},
		"long value":            {groupOf("a", impl.Row{Key: "a", Val: tooLong()})},
		"tag below 0":           {groupOf("a", impl.Row{Key: "a", Tag: -1})},
		"tag above":             {groupOf("a", a, impl.Row{Key: "a", Tag: maxTag + 1})},
	}
	for name, groups := range lists {
		got, ok := impl.Ungrouped(groups)
		rejected(t, name, len(got), ok)
	}
}

func TestFirstOf(t *testing.T) {
	l := orderedRows()
	for _, c := range []struct {
		rows []impl.Row
		n    int64
		want []impl.Row
	}{
		{nil, 0, nil},
		{nil, 3, nil},
		{[]impl.Row{}, math.MaxInt64, nil},
		{l, 0, nil},
		{l, 1, slices.Concat(l[0:1], l[8:10], l[12:])},
		{l, 2, slices.Concat(l[0:2], l[8:11], l[12:])},
		{l, 3, slices.Concat(l[0:3], l[8:])},
		{l, 7, slices.Concat(l[0:7], l[8:])},
		{l, 8, l},
		{l, 9, l},
		{l, maxRows, l},
		{l, maxRows + 1, l},
		{l, 1<<32 + 1, l},
		{l, 1 << 32, l},
		{l, math.MaxInt64, l},
		{[]impl.Row{l[9], l[9], l[9], l[10]}, 2, []impl.Row{l[9], l[9]}},
		{make([]impl.Row, maxRows), maxRows - 1, make([]impl.Row, maxRows-1)},
		{make([]impl.Row, maxRows), maxRows, make([]impl.Row, maxRows)},
		{distinctRows(maxRows), 1, distinctRows(maxRows)},
	} {
		got, ok := impl.FirstOf(c.rows, c.n)
		if !ok {
			t.Fatal("rejected", c.rows, c.n)
		}
		sameRows(t, "first rows", got, c.want)
	}
}

func TestPromise4FirstRowsOfEachKey(t *testing.T) {
	r := newRand()
	for size := range maxRows + 1 {
		l := sortedRows(randomRows(r, size, 1))
		for _, n := range []int64{0, 1, 2, 5, 20, maxRows} {
			seen := map[string]int64{}
			var want []impl.Row
			for _, row := range l {
				if seen[row.Key] < n {
					want = append(want, row)
				}
				seen[row.Key]++
			}
			got, ok := impl.FirstOf(l, n)
			if !ok {
				t.Fatal("rejected")
			}
			sameRows(t, "first rows", got, want)
		}
	}
}

func TestFirstOfRejects(t *testing.T) {
	for _, n := range []int64{-1, -2, -maxRows, -1 << 32, math.MinInt64} {
		for _, l := range [][]impl.Row{nil, rowsOf("a", "b")} {
			got, ok := impl.FirstOf(l, n)
			rejected(t, "negative number", len(got), ok)
		}
	}
	for _, n := range []int64{0, 1, maxRows} {
		for name, l := range unsortedLists() {
			got, ok := impl.FirstOf(l, n)
			rejected(t, name, len(got), ok)
		}
		for name, l := range invalidLists() {
			got, ok := impl.FirstOf(l, n)
			rejected(t, name, len(got), ok)
		}
	}
}

func TestTagged(t *testing.T) {
	l := []impl.Row{
		{Key: "c", Tag: 2, Val: "1"}, {Key: "a", Val: "2"}, {Key: "b", Tag: 2, Val: "3"}, {Key: "a", Tag: 1}, {Key: "a", Val: "2"}, {Val: "0"},
	}
	sameRows(t, "tag 0", impl.Tagged(l, 0), []impl.Row{l[1], l[4], l[5]})
	sameRows(t, "tag 1", impl.Tagged(l, 1), []impl.Row{l[3]})
	sameRows(t, "tag 2", impl.Tagged(l, 2), []impl.Row{l[0], l[2]})
	for _, tag := range []int64{3, 4, -1, 1 << 32, 1<<32 + 1, math.MaxInt64, math.MinInt64} {
		sameRows(t, "a tag that no row has", impl.Tagged(l, tag), nil)
		sameRows(t, "no rows", impl.Tagged(nil, tag), nil)
	}
	sameRows(t, "longest list", impl.Tagged(make([]impl.Row, maxRows), 0), make([]impl.Row, maxRows))
	r := newRand()
	for _, size := range []int{0, 1, 10, maxRows} {
		l := randomRows(r, size, 2)
		for tag := int64(0); tag <= maxTag; tag++ {
			var want []impl.Row
			for _, row := range l {
				if row.Tag == tag {
					want = append(want, row)
				}
			}
			sameRows(t, "tagged", impl.Tagged(l, tag), want)
		}
	}
}

func TestTaggedOfInvalidLists(t *testing.T) {
	for name, l := range invalidLists() {
		for tag := int64(-1); tag <= maxTag+1; tag++ {
			if got := impl.Tagged(l, tag); len(got) != 0 {
				t.Errorf("%s: %d rows with tag %d", name, len(got), tag)
			}
		}
	}
}

func TestGroupFunctionsModifyNothing(t *testing.T) {
	l, check := withSpare(rowsOf("a", "b", "c", "c", "d"))
	first, checkFirst := withSpare([]impl.Row{{Key: "a"}, {Key: "a", Tag: 1}})
	second, checkSecond := withSpare([]impl.Row{{Key: "b"}})
	groups := []impl.Group{{Key: "a", Rows: first}, {Key: "b", Rows: second}, {Key: "spare"}}
	for range 2 {
		impl.GroupsOf(l)
		impl.Ungrouped(groups[:2])
		impl.Ungrouped(groups[:1])
		impl.Ungrouped(groups)
		impl.FirstOf(l, 0)
		impl.FirstOf(l, 1)
		impl.FirstOf(l, 5)
		impl.Tagged(l, 1)
	}
	check(t)
	checkFirst(t)
	checkSecond(t)
	sameGroups(t, "groups", groups, []impl.Group{
		groupOf("a", impl.Row{Key: "a"}, impl.Row{Key: "a", Tag: 1}), groupOf("b", impl.Row{Key: "b"}), groupOf("spare"),
	})
}

// asParts lets testApart write to the rows of groups.
func asParts(groups []impl.Group) []impl.Part {
	parts := []impl.Part{}
	for _, g := range groups {
		parts = append(parts, impl.Part{Rows: g.Rows})
	}
	return parts
}

func TestGroupResultsShareNoMemory(t *testing.T) {
	for _, l := range [][]impl.Row{rowsOf("a", "b", "b", "b", "c", "d", "d"), rowsOf("a"), rowsOf("a", "a", "a")} {
		sorted := sortedRows(l)
		groups, ok := impl.GroupsOf(sorted)
		if !ok {
			t.Fatal("rejected")
		}
		testApart(t, asParts(groups), sorted)
		for n := int64(0); n < 4; n++ {
			first, ok := impl.FirstOf(sorted, n)
			if !ok {
				t.Fatal("rejected")
			}
			testApart(t, []impl.Part{{Rows: first}}, sorted)
		}
		testApart(t, []impl.Part{{Rows: impl.Tagged(sorted, 0)}}, sorted)
		for n := 1; n <= len(groups); n++ {
			groups := groupsByHand(sorted)[:n]
			rows, ok := impl.Ungrouped(groups)
			if !ok {
				t.Fatal("rejected")
			}
			testApart(t, []impl.Part{{Rows: rows}}, nil)
			sameGroups(t, "argument", groups, groupsByHand(sorted)[:n])
		}
	}
}

func TestEqualArgumentsYieldEqualGroups(t *testing.T) {
	l := sortedRows(randomRows(newRand(), maxRows, 1))
	first, _ := impl.GroupsOf(l)
	second, _ := impl.GroupsOf(slices.Clone(l))
	sameGroups(t, "groups", second, first)
	a, _ := impl.Ungrouped(first)
	b, _ := impl.Ungrouped(second)
	sameRows(t, "rows", b, a)
}
