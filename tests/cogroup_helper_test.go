package tests

import (
	"math/rand"
	"slices"
	"strconv"
	"strings"
	"testing"

	"loop.example/g00630/impl"
)

// coOf makes the values of each list of words.
func coOf(key string, a string, b string, c string) impl.Co {
	return impl.Co{Key: key, A: strings.Fields(a), B: strings.Fields(b), C: strings.Fields(c)}
}

func sameCo(a impl.Co, b impl.Co) bool {
	return a.Key == b.Key && slices.Equal(a.A, b.A) && slices.Equal(a.B, b.B) && slices.Equal(a.C, b.C)
}

// sameCos names the first difference alone.
func sameCos(t *testing.T, what string, got []impl.Co, want []impl.Co) {
	t.Helper()
	for i := range min(len(got), len(want)) {
		if !sameCo(got[i], want[i]) {
			t.Errorf("%s: element %d is %q, want %q", what, i, got[i], want[i])
			return
		}
	}
	if len(got) != len(want) {
		t.Errorf("%s: %d elements, want %d", what, len(got), len(want))
	}
}

func sameKeys(t *testing.T, what string, got []string, want []string) {
	t.Helper()
	if !slices.Equal(got, want) {
		t.Errorf("%s: keys %q, want %q", what, got, want)
	}
}

func cogrouped(t *testing.T, a []impl.Row, b []impl.Row, c []impl.Row) []impl.Co {
	t.Helper()
	groups, ok := impl.Cogrouped(a, b, c)
	if !ok {
		t.Fatalf("Cogrouped: rejected: %#v, %#v, %#v", a, b, c)
	}
	return groups
}

func chained(t *testing.T, a []impl.Row, b []impl.Row, c []impl.Row) []impl.Pair {
	t.Helper()
	pairs, ok := impl.Chained(a, b, c)
	if !ok {
		t.Fatalf("Chained: rejected: %#v, %#v, %#v", a, b, c)
	}
	return pairs
}

func skewed(t *testing.T, l []impl.Row, most int64) []string {
	t.Helper()
	keys, ok := impl.Skewed(l, most)
	if !ok {
		t.Fatalf("Skewed: rejected: %#v, %d", l, most)
	}
	return keys
}

func skewJoin(t *testing.T, a []impl.Row, b []impl.Row, most int64) []impl.Pair {
	t.Helper()
	pairs, ok := impl.SkewJoin(a, b, most)
	if !ok {
		t.Fatalf("SkewJoin: rejected: %#v, %#v, %d", a, b, most)
	}
	return pairs
}

func valuesWithKey(l []impl.Row, key string) []string {
	var vals []string
	for _, r := range rowsWithKey(l, key) {
		vals = append(vals, r.Val)
	}
	return vals
}

func cogroupedByHand(x triple) []impl.Co {
	var groups []impl.Co
	for _, key := range keysOf(x.a, x.b, x.c) {
		groups = append(groups, impl.Co{Key: key, A: valuesWithKey(x.a, key), B: valuesWithKey(x.b, key), C: valuesWithKey(x.c, key)})
	}
	return groups
}

// middleByHand holds each row of a against each one of b; false if what it makes of them is not valid.
func middleByHand(a []impl.Row, b []impl.Row) ([]impl.Row, bool) {
	var rows []impl.Row
	short := true
	for _, x := range a {
		for _, y := range b {
			if x.Key == y.Key {
				rows = append(rows, impl.Row{Key: x.Key, Val: x.Val + y.Val})
				short = short && len(x.Val)+len(y.Val) <= maxText
			}
		}
	}
	return rows, short && len(rows) <= maxRows
}

func skewedByHand(l []impl.Row, most int64) []string {
	var keys []string
	for _, key := range keysOf(l) {
		if int64(len(rowsWithKey(l, key))) > most {
			keys = append(keys, key)
		}
	}
	return keys
}

type triple struct{ a, b, c []impl.Row }

// places returns the ways in which one list takes a place beside two others.
func places(l []impl.Row, first []impl.Row, second []impl.Row) map[string]triple {
	return map[string]triple{"a": {l, first, second}, "b": {first, l, second}, "c": {first, second, l}}
}

// randomTable draws keys and values of different lengths, so that keys may be frequent and values not.
func randomTable(r *rand.Rand, n int, key int, val int) []impl.Row {
	l := make([]impl.Row, 0, n)
	for range n {
		l = append(l, impl.Row{Key: randomText(r, key), Tag: int64(r.Intn(maxTag + 1)), Val: randomText(r, val)})
	}
	return l
}

// randomTriples yields lists with many keys in common, or few, or one.
func randomTriples(yield func(x triple) bool) {
	r := newRand()
	sizes := []int{0, 1, 3, 12, 40, maxRows}
	for _, n := range sizes {
		for _, m := range sizes {
			for _, k := range sizes {
				for key := range 4 {
					val := 1 + r.Intn(7)
					if !yield(triple{randomTable(r, n, key, val), randomTable(r, m, key, val), randomTable(r, k, key, val)}) {
						return
					}
				}
			}
		}
	}
}

func shuffled(r *rand.Rand, l []impl.Row) []impl.Row {
	l = slices.Clone(l)
	r.Shuffle(len(l), func(i int, k int) { l[i], l[k] = l[k], l[i] })
	return l
}

// sameKey returns n rows with one key, each with its index as value.
func sameKey(key string, n int) []impl.Row { return rowsOf(slices.Repeat([]string{key}, n)...) }

// edgeTexts have no bytes, few, or as many as a text may have, bytes 0 and 255 among them; they are not in order.
func edgeTexts() []string {
	return []string{
		"\xff", "\x00", "", "\x00\xff", "\x00\x00", "\xff\xff", "\xff\x00",
		strings.Repeat("\xff", maxText), strings.Repeat("\x00", maxText), strings.Repeat("\xff\x00", maxText/2), strings.Repeat("\x00\xff", maxText/2),
		longest(), longest()[1:], longest()[1:] + "\xff", longest()[1:] + "\x00",
	}
}

// edgeRows have each of edgeTexts as a key with each of them as a value; they are more than a list may have.
func edgeRows() []impl.Row {
	var l []impl.Row
	for i, key := range edgeTexts() {
		for k, val := range edgeTexts() {
			l = append(l, impl.Row{Key: key, Tag: int64((i + k) % (maxTag + 1)), Val: val})
		}
	}
	return l
}

// invalidTables adds to invalidLists texts of special bytes, lists with one row too many, and rows of which one is not valid.
func invalidTables() map[string][]impl.Row {
	lists := invalidLists()
	for _, unit := range []string{"\x00", "\xff"} {
		long := strings.Repeat(unit, maxText+1)
		lists["long key of "+strconv.Quote(unit)] = []impl.Row{{Key: long}}
		lists["long value of "+strconv.Quote(unit)] = []impl.Row{{Val: long}}
	}
	lists["too many keys"] = distinctRows(maxRows + 1)
	lists["too many rows of a key"] = sortedRows(sameKey("a", maxRows+1))
	lists["a long value of a frequent key"] = append(sameKey("a", 5), impl.Row{Key: "a", Val: tooLong()})
	lists["a tag above of the last key"] = append(distinctRows(5), impl.Row{Key: "\xff", Tag: maxTag + 1})
	return lists
}

// validTables have some keys in common with each other and with invalid ones.
func validTables() map[string][]impl.Row {
	return map[string][]impl.Row{
		"nil":           nil,
		"no rows":       {},
		"few rows":      words("a=1 b=2 =3"),
		"a key":         words("z=1"),
		"many keys":     distinctRows(maxRows),
		"longest texts": {{Key: longest(), Tag: maxTag, Val: longest()}},
	}
}

// invalidTriples have one list, two or three that are not valid.
func invalidTriples() map[string]triple {
	all := map[string]triple{}
	for name, bad := range invalidTables() {
		for beside, good := range validTables() {
			for place, x := range places(bad, good, good) {
				all[name+" in "+place+", beside "+beside] = x
			}
			for place, x := range places(good, bad, bad) {
				all[name+", "+beside+" in "+place] = x
			}
		}
		few := words("a=x")
		for place, x := range places(bad, few, nil) {
			all[name+" in "+place+", before a row"] = x
		}
		for place, x := range places(bad, nil, few) {
			all[name+" in "+place+", before none"] = x
		}
		all[name+" in all"] = triple{bad, bad, bad}
	}
	return all
}

func memoryOfTexts(name string, l []string) memory {
	return memoryOf(name, l, func(s string) string { return s + "x" }, equal)
}

func memoryOfRows(name string, l []impl.Row) memory {
	return memoryOf(name, l, func(r impl.Row) impl.Row { return impl.Row{Key: r.Key + "x"} }, equal)
}

func memoryOfPairs(name string, l []impl.Pair) memory {
	return memoryOf(name, l, func(p impl.Pair) impl.Pair { return impl.Pair{Key: p.Key + "x"} }, equal)
}

func memoriesOfCos(name string, l []impl.Co) []memory {
	other := func(x impl.Co) impl.Co { return impl.Co{Key: x.Key + "x"} }
	sameName := func(x impl.Co, y impl.Co) bool { return x.Key == y.Key }
	all := []memory{memoryOf(name, l, other, sameName)}
	for _, x := range l {
		of := name + ", key " + strconv.Quote(x.Key) + ", "
		all = append(all, memoryOfTexts(of+"A", x.A), memoryOfTexts(of+"B", x.B), memoryOfTexts(of+"C", x.C))
	}
	return all
}
