package tests

import (
	"math"
	"slices"
	"strconv"
	"strings"
	"testing"

	"loop.example/g00630/impl"
)

func TestCogrouped(t *testing.T) {
	for name, c := range map[string]struct {
		a, b, c string
		want    []impl.Co
	}{
		"the example": {"b=2 a=3 a=1", "c=z a=y", "a=q a=p d=w", []impl.Co{
			coOf("a", "1 3", "y", "p q"), coOf("b", "2", "", ""), coOf("c", "", "z", ""), coOf("d", "", "", "w"),
		}},
		"no rows":         {"", "", "", nil},
		"rows of a alone": {"b=2 a=1 b=1", "", "", []impl.Co{coOf("a", "1", "", ""), coOf("b", "1 2", "", "")}},
		"rows of b alone": {"", "b=2 a=1 b=1", "", []impl.Co{coOf("a", "", "1", ""), coOf("b", "", "1 2", "")}},
		"rows of c alone": {"", "", "b=2 a=1 b=1", []impl.Co{coOf("a", "", "", "1"), coOf("b", "", "", "1 2")}},
		"no rows of a": {"", "b=2 a=1", "c=3 a=4", []impl.Co{
			coOf("a", "", "1", "4"), coOf("b", "", "2", ""), coOf("c", "", "", "3"),
		}},
		"no rows of b": {"b=2 a=1", "", "c=3 a=4", []impl.Co{
			coOf("a", "1", "", "4"), coOf("b", "2", "", ""), coOf("c", "", "", "3"),
		}},
		"no rows of c": {"b=2 a=1", "c=3 a=4", "", []impl.Co{
			coOf("a", "1", "4", ""), coOf("b", "2", "", ""), coOf("c", "", "3", ""),
		}},
		"keys by turns": {"a=1 d=4", "b=2 e=5", "c=3 f=6", []impl.Co{
			coOf("a", "1", "", ""), coOf("b", "", "2", ""), coOf("c", "", "", "3"), coOf("d", "4", "", ""), coOf("e", "", "5", ""), coOf("f", "", "", "6"),
		}},
		"keys by turns, from c": {"c=3 f=6", "b=2 e=5", "a=1 d=4", []impl.Co{
			coOf("a", "", "", "1"), coOf("b", "", "2", ""), coOf("c", "3", "", ""), coOf("d", "", "", "4"), coOf("e", "", "5", ""), coOf("f", "6", "", ""),
		}},
		"a key of a and b": {"a=1 a=2", "a=x", "b=y", []impl.Co{coOf("a", "1 2", "x", ""), coOf("b", "", "", "y")}},
		"a key of a and c": {"a=1 a=2", "b=y", "a=x", []impl.Co{coOf("a", "1 2", "", "x"), coOf("b", "", "y", "")}},
		"a key of b and c": {"b=y", "a=1 a=2", "a=x", []impl.Co{coOf("a", "", "1 2", "x"), coOf("b", "y", "", "")}},
		"a key of all":     {"a=2 a=1", "a=4 a=3", "a=6 a=5", []impl.Co{coOf("a", "1 2", "3 4", "5 6")}},
		"equal rows":       {"a=1 a=1 a=1", "a=1 a=1", "a=1 b=1 b=1", []impl.Co{coOf("a", "1 1 1", "1 1", "1"), coOf("b", "", "", "1 1")}},
		"prefixes": {"ab=1 a=2", "abc=3 a=4", "=5 ab=6", []impl.Co{
			coOf("", "", "", "5"), coOf("a", "2", "4", ""), coOf("ab", "1", "", "6"), coOf("abc", "", "3", ""),
		}},
		"bytes": {"\xff=1 \x00=2", "a=3 \x00=4", "\xff=5 a\x00=6", []impl.Co{
			coOf("\x00", "2", "4", ""), coOf("a", "", "3", ""), coOf("a\x00", "", "", "6"), coOf("\xff", "1", "", "5"),
		}},
		"values that are keys": {"a=b", "b=a", "a=a", []impl.Co{coOf("a", "b", "", "a"), coOf("b", "", "a", "")}},
		"values as texts":      {"a=10 a=9 a=2", "", "", []impl.Co{coOf("a", "10 2 9", "", "")}},
	} {
		sameCos(t, name, cogrouped(t, words(c.a), words(c.b), words(c.c)), c.want)
	}
	sameCos(t, "nil", cogrouped(t, nil, nil, nil), nil)
	sameCos(t, "empty values", cogrouped(t, words("a= a="), nil, words("= a=")), []impl.Co{
		{C: []string{""}}, {Key: "a", A: []string{"", ""}, C: []string{""}},
	})
}

// tagsOfOneKey has rows that differ in Tag, in Val, in both and in nothing.
func tagsOfOneKey() []impl.Row {
	return []impl.Row{
		{Key: "k", Tag: 3, Val: "1"}, {Key: "k", Tag: 1, Val: "2"}, {Key: "k", Tag: 1, Val: "1"},
		{Key: "k", Val: "9"}, {Key: "k", Tag: 2, Val: "0"}, {Key: "k", Tag: 3, Val: "1"},
	}
}

// valuesByTag are the values of tagsOfOneKey in the order of rows.
func valuesByTag() []string { return []string{"9", "1", "2", "0", "1", "1"} }

func TestCogroupedOrdersRowsByTagFirst(t *testing.T) {
	r := newRand()
	other := words("k=x a=y")
	for range 50 {
		l := shuffled(r, tagsOfOneKey())
		sameCos(t, "in a", cogrouped(t, l, other, nil), []impl.Co{coOf("a", "", "y", ""), {Key: "k", A: valuesByTag(), B: []string{"x"}}})
		sameCos(t, "in b", cogrouped(t, other, l, nil), []impl.Co{coOf("a", "y", "", ""), {Key: "k", A: []string{"x"}, B: valuesByTag()}})
		sameCos(t, "in c", cogrouped(t, nil, other, l), []impl.Co{coOf("a", "", "y", ""), {Key: "k", B: []string{"x"}, C: valuesByTag()}})
		all := cogrouped(t, l, shuffled(r, l), shuffled(r, l))
		sameCos(t, "in all", all, []impl.Co{{Key: "k", A: valuesByTag(), B: valuesByTag(), C: valuesByTag()}})
	}
}

func testPromise12Cogrouped(t *testing.T, what string, x triple) {
	t.Helper()
	got := cogrouped(t, x.a, x.b, x.c)
	sameCos(t, what, got, cogroupedByHand(x))
	a, b, c := 0, 0, 0
	for i, g := range got {
		if i > 0 && got[i-1].Key >= g.Key {
			t.Errorf("%s: %q does not precede %q", what, got[i-1].Key, g.Key)
		}
		a, b, c = a+len(g.A), b+len(g.B), c+len(g.C)
	}
	if a != len(x.a) || b != len(x.b) || c != len(x.c) {
		t.Errorf("%s: %d, %d and %d values of %d, %d and %d rows", what, a, b, c, len(x.a), len(x.b), len(x.c))
	}
}

func TestPromise12EachKeyOnceWithAllItsValues(t *testing.T) {
	for x := range randomTriples {
		testPromise12Cogrouped(t, "random rows", x)
	}
}

func TestPromise12OfEdges(t *testing.T) {
	r := newRand()
	for range 20 {
		l := shuffled(r, edgeRows())
		testPromise12Cogrouped(t, "edges of texts", triple{l[:75], l[75:150], l[150:]})
		testPromise12Cogrouped(t, "edges of texts, again", triple{l[:maxRows], l[50 : 50+maxRows], l[100 : 100+maxRows]})
	}
	for name, l := range map[string][]impl.Row{
		"equal rows":     make([]impl.Row, maxRows),
		"one key":        sameKey("a", maxRows),
		"different keys": reversed(distinctRows(maxRows)),
		"greatest tag":   filled(maxRows, maxTag),
		"random rows":    randomRows(r, maxRows, 1),
	} {
		for _, other := range [][]impl.Row{nil, words("a=1 =2"), l, sameKey("\x05", maxRows)} {
			for place, x := range places(l, other, nil) {
				testPromise12Cogrouped(t, name+", most rows in "+place, x)
			}
			for place, x := range places(l, nil, other) {
				testPromise12Cogrouped(t, name+", most rows in "+place+", other", x)
			}
			testPromise12Cogrouped(t, name+" and another list twice", triple{l, other, other})
		}
		testPromise12Cogrouped(t, name+" in all", triple{l, l, l})
	}
	testPromise12Cogrouped(t, "most keys", triple{mostKeys('a'), mostKeys('c'), mostKeys('b')})
}

// mostKeys returns rows whose keys no call with another byte returns.
func mostKeys(mark byte) []impl.Row {
	l := distinctRows(maxRows)
	for i := range l {
		l[i].Key += string([]byte{mark})
	}
	return reversed(l)
}

func TestCogroupedRejects(t *testing.T) {
	for name, x := range invalidTriples() {
		got, ok := impl.Cogrouped(x.a, x.b, x.c)
		rejected(t, name, len(got), ok)
	}
}

// TestChained has the texts of the pairs.
func TestChained(t *testing.T) {
	for name, c := range map[string]struct{ a, b, c, want string }{
		"the example":             {"b=2 a=3 a=1", "c=z a=y", "a=q a=p d=w", "a =1y =p; a =1y =q; a =3y =p; a =3y =q"},
		"no rows":                 {"", "", "", ""},
		"no rows of a":            {"", "a=1", "a=2", ""},
		"no rows of b":            {"a=1", "", "a=2", ""},
		"no rows of c":            {"a=1", "a=2", "", ""},
		"rows of a alone":         {"a=1", "", "", ""},
		"rows of b alone":         {"", "a=1", "", ""},
		"rows of c alone":         {"", "", "a=1", ""},
		"a key of a and b":        {"a=1", "a=2", "b=3", ""},
		"a key of a and c":        {"a=1", "b=2", "a=3", ""},
		"a key of b and c":        {"b=1", "a=2", "a=3", ""},
		"a key of all":            {"a=1", "a=2", "a=3", "a =12 =3"},
		"the left value is first": {"a=z", "a=b", "a=c", "a =zb =c"},
		"several rows":            {"a=2 a=1", "a=4 a=3", "a=6 a=5", "a =13 =5; a =13 =6; a =14 =5; a =14 =6; a =23 =5; a =23 =6; a =24 =5; a =24 =6"},
		"several keys":            {"c=1 a=2 b=3", "b=4 c=5 a=6", "a=7 c=8 d=9", "a =26 =7; c =15 =8"},
		"equal rows":              {"a=1 a=1", "a=2", "a=3 a=3", "a =12 =3; a =12 =3; a =12 =3; a =12 =3"},
		"equal values, put together differently": {
			"a=1 a=12", "a=23 a=3", "a=x", "a =1223 =x; a =123 =x; a =123 =x; a =13 =x",
		},
		"another order of values put together": {
			"a=1 a=12", "a= a=3", "a=x", "a =1 =x; a =12 =x; a =123 =x; a =13 =x",
		},
		"empty texts":      {"=", "=", "=", " = ="},
		"empty left value": {"a=", "a=1", "a=", "a =1 ="},
		"prefixes":         {"ab=1 a=2", "a=3 ab=4", "ab=5 abc=6", "ab =14 =5"},
		"bytes":            {"\xff=\x00 \x00=1", "\xff=\xff \x00=2", "\x00=3 \xff=\xff\x00", "\x00 =12 =3; \xff =\x00\xff =\xff\x00"},
		"long values without a partner": {
			"a=123456789012 b=1", "b=2 c=123456789012", "a=1 b=123456789012 c=2", "b =12 =123456789012",
		},
	} {
		if got := pairTexts(chained(t, words(c.a), words(c.b), words(c.c))); got != c.want {
			t.Errorf("%s: %q, want %q", name, got, c.want)
		}
	}
	samePairs(t, "nil", chained(t, nil, nil, nil), nil)
	samePairs(t, "both sides are present", chained(t, words("a="), words("a="), words("a=")), []impl.Pair{both("a", "", "")})
}

// TestChainedOrdersMiddleRowsByValue has tags in a and b, which the rows made of them don't have, and in c, whose rows keep theirs.
func TestChainedOrdersMiddleRowsByValue(t *testing.T) {
	r := newRand()
	a := []impl.Row{{Key: "k", Tag: 3, Val: "1"}, {Key: "k", Val: "3"}, {Key: "k", Tag: 1, Val: "2"}}
	b := []impl.Row{{Key: "k", Tag: 2, Val: "x"}, {Key: "k", Tag: 1, Val: "y"}}
	var want []impl.Pair
	for _, l := range []string{"1x", "1y", "2x", "2y", "3x", "3y"} {
		for _, val := range valuesByTag() {
			want = append(want, both("k", l, val))
		}
	}
	for range 50 {
		samePairs(t, "tags", chained(t, shuffled(r, a), shuffled(r, b), shuffled(r, tagsOfOneKey())), want)
	}
}

// TestPromise12ThreeListsJoined holds each row of each list against each one of the others.
func TestPromise12ThreeListsJoined(t *testing.T) {
	valid, invalid := 0, 0
	for x := range randomTriples {
		middle, ok := middleByHand(x.a, x.b)
		if !ok {
			invalid++
			got, ok := impl.Chained(x.a, x.b, x.c)
			rejected(t, "middle rows that are not valid", len(got), ok)
			continue
		}
		ways := 0
		for _, g := range cogroupedByHand(x) {
			ways += len(g.A) * len(g.B) * len(g.C)
		}
		if ways > 0 {
			valid++
		}
		got := chained(t, x.a, x.b, x.c)
		if len(got) != ways {
			t.Errorf("%d pairs, want %d", len(got), ways)
		}
		samePairs(t, "three lists", got, joinByHand(middle, x.c, inner))
	}
	if valid < 50 || invalid < 50 {
		t.Errorf("only %d and %d cases", valid, invalid)
	}
}

// TestChainedOfLongestValues divides the longest value, and one that is one byte longer, in all ways.
func TestChainedOfLongestValues(t *testing.T) {
	for _, unit := range []string{"v", "\x00", "\xff", "\x00\xff"} {
		text := strings.Repeat(unit, maxText+1)[:maxText+1]
		for n := range maxText + 1 {
			a := []impl.Row{{Key: "b", Val: text[:n]}}
			b := []impl.Row{{Key: "b", Val: text[n:maxText]}}
			c := []impl.Row{{Key: "b", Val: longest()}}
			samePairs(t, "longest value", chained(t, a, b, c), []impl.Pair{both("b", text[:maxText], longest())})
			samePairs(t, "longest value without a partner", chained(t, a, b, words("c=1")), nil)
			samePairs(t, "longest value and no rows", chained(t, a, b, nil), nil)
			if n == 0 {
				continue
			}
			b[0].Val = text[n:]
			testTooLong(t, a, b)
		}
	}
}

// testTooLong has lists that make one value of the key b too long, alone and among other rows, with and without this key in c.
func testTooLong(t *testing.T, a []impl.Row, b []impl.Row) {
	t.Helper()
	for name, more := range map[string]string{"alone": "", "after others": "a=1 a=2", "before others": "c=1 c=2", "among others": "a=1 c=2", "of a frequent key": "a=1 b= c=2"} {
		a, b := append(words(more), a...), append(words(more), b...)
		for place, c := range map[string][]impl.Row{"its key": words("b=1"), "another key": words("c=1"), "a lesser key": words("a=1"), "all keys": words("a=1 b=2 c=3"), "no rows": nil} {
			got, ok := impl.Chained(a, b, c)
			rejected(t, "value too long, "+name+", c has "+place, len(got), ok)
		}
	}
}

// middleOf returns lists of which one key has n and m rows, and another one k rows and one.
func middleOf(n int, m int, k int) (a []impl.Row, b []impl.Row) {
	return append(sameKey("a", n), sameKey("b", k)...), append(sameKey("a", m), words("b=1")...)
}

func someThirds() map[string][]impl.Row {
	return map[string][]impl.Row{
		"no rows":                nil,
		"one key":                words("a=1 a=2 a=3"),
		"the other key":          words("b=1"),
		"both keys":              words("a=1 b=2"),
		"keys without a partner": words("=1 c=2"),
		"most rows":              sameKey("a", maxRows),
		"most keys":              distinctRows(maxRows),
	}
}

func TestChainedOfMostMiddleRows(t *testing.T) {
	for _, s := range []struct{ n, m, k int }{{10, 12, 0}, {12, 10, 0}, {10, 11, 10}, {1, 119, 1}, {119, 1, 1}, {1, 1, 119}, {0, 5, maxRows}, {maxRows, 1, 0}} {
		a, b := middleOf(s.n, s.m, s.k)
		middle, ok := middleByHand(a, b)
		if !ok || len(middle) != maxRows {
			t.Fatal(len(middle), s)
		}
		for name, c := range someThirds() {
			got := chained(t, a, b, c)
			samePairs(t, name, got, joinByHand(middle, c, inner))
			if want := s.n*s.m*len(rowsWithKey(c, "a")) + s.k*len(rowsWithKey(c, "b")); len(got) != want {
				t.Errorf("%s: %d pairs, want %d", name, len(got), want)
			}
		}
	}
}

func TestChainedRejectsTooManyMiddleRows(t *testing.T) {
	for _, s := range []struct{ n, m, k, more int }{
		{11, 11, 0, 1}, {10, 12, 1, 1}, {12, 10, 1, 1}, {10, 11, 11, 1}, {1, 119, 2, 1}, {2, 60, 1, 1}, {60, 2, 1, 1}, {1, 2, 119, 1}, {61, 2, 0, 2}, {60, 60, 60, 3540}, {119, 119, 1, 14042},
	} {
		a, b := middleOf(s.n, s.m, s.k)
		middle, _ := middleByHand(a, b)
		if len(middle) != maxRows+s.more || !impl.RowsOk(a) || !impl.RowsOk(b) {
			t.Fatal(len(middle), s)
		}
		for name, c := range someThirds() {
			got, ok := impl.Chained(a, b, c)
			rejected(t, strconv.Itoa(s.more)+" rows too many, "+name, len(got), ok)
		}
	}
	l := make([]impl.Row, maxRows)
	got, ok := impl.Chained(l, l, l)
	rejected(t, "most rows", len(got), ok)
}

func TestChainedRejects(t *testing.T) {
	for name, x := range invalidTriples() {
		got, ok := impl.Chained(x.a, x.b, x.c)
		rejected(t, name, len(got), ok)
	}
}

func negativeMosts() []int64 {
	return []int64{-1, -2, -maxRows, -1 << 32, -1<<32 + 1, -1<<32 + 2, math.MinInt64, math.MinInt64 + 1}
}

// greatMosts are more than any list has; cut to 32 bits, they are not.
func greatMosts() []int64 {
	return []int64{maxRows, maxRows + 1, 1 << 32, 1<<32 + 1, 1<<32 - 1, 1 << 31, math.MaxInt64 - 1, math.MaxInt64}
}

func TestSkewed(t *testing.T) {
	for _, c := range []struct {
		rows string
		most int64
		want []string
	}{
		{"b=2 a=3 a=1", 0, []string{"a", "b"}},
		{"b=2 a=3 a=1", 1, []string{"a"}},
		{"b=2 a=3 a=1", 2, nil},
		{"b=2 a=3 a=1", 3, nil},
		{"", 0, nil},
		{"", 1, nil},
		{"a=1", 0, []string{"a"}},
		{"a=1", 1, nil},
		{"a=1 a=1 a=1", 2, []string{"a"}},
		{"a=1 a=1 a=1", 3, nil},
		{"c=1 c=2 c=3 b=1 a=1 a=2", 1, []string{"a", "c"}},
		{"a=1 c=3 b=1 a=2 c=1 c=2", 2, []string{"c"}},
		{"a=1 b=1 c=1 b=2", 1, []string{"b"}},
		{"= = a=1 ab=2 a=3", 1, []string{"", "a"}},
		{"\xff=1 \x00=2 a=3 \xff=1 \x00=1", 1, []string{"\x00", "\xff"}},
	} {
		sameKeys(t, c.rows, skewed(t, words(c.rows), c.most), c.want)
	}
	sameKeys(t, "nil", skewed(t, nil, 0), nil)
	sameKeys(t, "no rows", skewed(t, []impl.Row{}, 0), nil)
	sameKeys(t, "tags", skewed(t, tagsOfOneKey(), 5), []string{"k"})
	sameKeys(t, "tags, as many", skewed(t, tagsOfOneKey(), 6), nil)
}

// TestSkewedAtTheNumberOfRows has a key with n rows between two other ones, which have fewer rows.
func TestSkewedAtTheNumberOfRows(t *testing.T) {
	for n := 2; n <= maxRows-2; n++ {
		l := append(rowsOf("c"), append(sameKey("b", n), words("a=1")...)...)
		sameKeys(t, "no row", skewed(t, l, 0), []string{"a", "b", "c"})
		sameKeys(t, "one row", skewed(t, l, 1), []string{"b"})
		sameKeys(t, "one less than the rows", skewed(t, l, int64(n-1)), []string{"b"})
		for _, most := range append([]int64{int64(n), int64(n + 1), int64(n + 2), int64(n + 3)}, greatMosts()...) {
			sameKeys(t, "as many as the rows, or more", skewed(t, l, most), nil)
		}
	}
	for name, l := range map[string][]impl.Row{"equal rows": make([]impl.Row, maxRows), "most rows of a key": sameKey("", maxRows)} {
		sameKeys(t, name+", one less", skewed(t, l, maxRows-1), []string{""})
		for _, most := range greatMosts() {
			sameKeys(t, name, skewed(t, l, most), nil)
		}
	}
	for _, most := range greatMosts() {
		sameKeys(t, "no rows", skewed(t, nil, most), nil)
		sameKeys(t, "one row", skewed(t, words("a=1"), most), nil)
	}
}

func TestSkewedOfDifferentKeys(t *testing.T) {
	sameKeys(t, "most keys", skewed(t, reversed(distinctRows(maxRows)), 0), keysOf(distinctRows(maxRows)))
	sameKeys(t, "most keys, one row each", skewed(t, distinctRows(maxRows), 1), nil)
	var l []impl.Row
	for i, key := range edgeTexts() {
		l = append(l, sameKey(key, i%5+1)...)
	}
	for most := range int64(6) {
		sameKeys(t, "edges of texts", skewed(t, shuffled(newRand(), l), most), skewedByHand(l, most))
	}
	for x := range randomTriples {
		for _, most := range []int64{0, 1, 2, 3, 10, 30, maxRows - 1, maxRows} {
			sameKeys(t, "random rows", skewed(t, x.c, most), skewedByHand(x.c, most))
		}
	}
}

func TestSkewedRejects(t *testing.T) {
	for _, most := range negativeMosts() {
		for name, l := range validTables() {
			got, ok := impl.Skewed(l, most)
			rejected(t, name+", negative number", len(got), ok)
		}
	}
	for name, l := range invalidTables() {
		for _, most := range slices.Concat([]int64{0, 1, 2}, greatMosts(), negativeMosts()) {
			got, ok := impl.Skewed(l, most)
			rejected(t, name, len(got), ok)
		}
	}
}

// TestSkewJoin has numbers below and above those of the rows of each key.
func TestSkewJoin(t *testing.T) {
	for name, c := range map[string]struct{ a, b, want string }{
		"the example":         {"b=2 a=3 a=1", "c=z a=y", "a =1 =y; a =3 =y"},
		"no rows":             {"", "", ""},
		"no rows of a":        {"", "a=x a=y", ""},
		"no rows of b":        {"a=1 a=2 b=3", "", ""},
		"no key of both":      {"a=1 a=2 c=3", "b=x b=y", ""},
		"a frequent first":    {"a=1 a=2 a=3 b=4", "b=x a=y", "a =1 =y; a =2 =y; a =3 =y; b =4 =x"},
		"a frequent last":     {"b=1 b=2 b=3 a=4", "b=x a=y", "a =4 =y; b =1 =x; b =2 =x; b =3 =x"},
		"a frequent between":  {"c=5 b=2 b=1 a=4", "c=z b=x b=w a=y", "a =4 =y; b =1 =w; b =1 =x; b =2 =w; b =2 =x; c =5 =z"},
		"frequent in b alone": {"b=1 a=2", "a=z a=y a=x b=w", "a =2 =x; a =2 =y; a =2 =z; b =1 =w"},
		"equal rows":          {"a=1 a=1 b=2", "a=x a=x b=y", "a =1 =x; a =1 =x; a =1 =x; a =1 =x; b =2 =y"},
		"a frequent key of a": {"a=1 a=2 a=3 b=4", "b=x c=y", "b =4 =x"},
		"empty texts":         {"= = a=", "= a=", " = =;  = =; a = ="},
	} {
		a, b := words(c.a), words(c.b)
		for _, most := range append([]int64{0, 1, 2, 3, 4, 5}, greatMosts()...) {
			if got := pairTexts(skewJoin(t, a, b, most)); got != c.want {
				t.Errorf("%s, %d rows: %q, want %q", name, most, got, c.want)
			}
		}
	}
	samePairs(t, "nil", skewJoin(t, nil, nil, 0), nil)
}

func TestSkewJoinOrdersRowsByTagFirst(t *testing.T) {
	r := newRand()
	b := []impl.Row{{Key: "k", Tag: 2, Val: "x"}, {Key: "k", Val: "x"}, {Key: "k", Tag: 1, Val: "w"}}
	var want []impl.Pair
	for _, l := range valuesByTag() {
		for _, val := range []string{"x", "w", "x"} {
			want = append(want, both("k", l, val))
		}
	}
	for most := range int64(8) {
		samePairs(t, "tags", skewJoin(t, shuffled(r, tagsOfOneKey()), shuffled(r, b), most), want)
	}
}

func TestSkewJoinIsTheInnerJoin(t *testing.T) {
	for x := range randomTriples {
		want := joinByHand(x.a, x.b, inner)
		for _, most := range []int64{0, 1, int64(len(x.a)) / 7, int64(len(x.a)), maxRows, math.MaxInt64} {
			samePairs(t, "random rows", skewJoin(t, x.a, x.b, most), want)
		}
	}
	for n := 1; n < maxRows; n++ {
		a, b := append(words("c=1 a=2"), sameKey("b", n-1)...), words("a=x c=z b=y b=w")
		want := joinByHand(a, b, inner)
		for _, most := range []int64{0, int64(max(n-2, 0)), int64(n - 1), int64(n), int64(n + 1), int64(n + 2)} {
			samePairs(t, "a frequent key", skewJoin(t, a, b, most), want)
		}
	}
	l := make([]impl.Row, maxRows)
	for _, most := range append([]int64{0, maxRows - 1}, greatMosts()...) {
		if got := skewJoin(t, l, l, most); len(got) != maxRows*maxRows {
			t.Errorf("%d pairs of equal rows", len(got))
		}
		if got := skewJoin(t, distinctRows(maxRows), distinctRows(maxRows), most); len(got) != maxRows {
			t.Errorf("%d pairs of different keys", len(got))
		}
	}
}

func TestSkewJoinRejects(t *testing.T) {
	for _, most := range negativeMosts() {
		for name, a := range validTables() {
			for other, b := range validTables() {
				got, ok := impl.SkewJoin(a, b, most)
				rejected(t, name+" and "+other+", negative number", len(got), ok)
			}
		}
	}
	for name, bad := range invalidTables() {
		for _, most := range slices.Concat([]int64{0, 1, 2}, greatMosts(), negativeMosts()) {
			for other, good := range validTables() {
				got, ok := impl.SkewJoin(bad, good, most)
				rejected(t, name+" on the left, "+other+" on the right", len(got), ok)
				got, ok = impl.SkewJoin(good, bad, most)
				rejected(t, other+" on the left, "+name+" on the right", len(got), ok)
			}
			got, ok := impl.SkewJoin(bad, bad, most)
			rejected(t, name+" on both sides", len(got), ok)
		}
	}
}

// someTriples are valid, or not, and have lists that are not sorted; the Chained of most of them is not valid.
func someTriples() map[string]triple {
	all := map[string]triple{
		"no rows":    {},
		"few rows":   {words("b=2 a=3 a=1"), words("c=z a=y"), words("a=q a=p d=w")},
		"one key":    {words("a=3 a=2 a=1"), words("a=6 a=5 a=4"), words("a=9 a=8 a=7")},
		"one row":    {words("b=1"), words("b=2"), words("b=3")},
		"most rows":  {reversed(sameKey("a", maxRows)), words("b=1 a=2"), reversed(sameKey("a", maxRows))},
		"edges":      {edgeRows()[:75], edgeRows()[75:150], edgeRows()[150:]},
		"long value": {append(words("b=2 a=1"), impl.Row{Key: "a", Val: longest()}), words("b=1 a=3"), words("b=2 a=1")},
	}
	for place, x := range places(reversed(make([]impl.Row, maxRows+1)), words("b=2 a=1"), words("d=4 c=3")) {
		all["too many rows in "+place] = x
	}
	return all
}

// testCallsApart calls each function for lists with spare capacity, and looks for memory that results have in common with them or with each other.
func testCallsApart(t *testing.T, what string, x triple, arguments []memory) {
	t.Helper()
	groups, _ := impl.Cogrouped(x.a, x.b, x.c)
	again, _ := impl.Cogrouped(x.a, x.b, x.c)
	testLists(t, what+": Cogrouped", append(memoriesOfCos("groups", groups), memoriesOfCos("second groups", again)...), arguments)
	pairs, _ := impl.Chained(x.a, x.b, x.c)
	morePairs, _ := impl.Chained(x.a, x.b, x.c)
	testLists(t, what+": Chained", []memory{memoryOfPairs("pairs", pairs), memoryOfPairs("second pairs", morePairs)}, arguments)
	for most := int64(-1); most < 4; most++ {
		keys, _ := impl.Skewed(x.a, most)
		moreKeys, _ := impl.Skewed(x.a, most)
		testLists(t, what+": Skewed", []memory{memoryOfTexts("keys", keys), memoryOfTexts("second keys", moreKeys)}, arguments)
		pairs, _ := impl.SkewJoin(x.a, x.b, most)
		morePairs, _ := impl.SkewJoin(x.a, x.b, most)
		testLists(t, what+": SkewJoin", []memory{memoryOfPairs("pairs", pairs), memoryOfPairs("second pairs", morePairs)}, arguments)
	}
}

func TestTriplesAreNotModifiedAndShareNoMemory(t *testing.T) {
	spare := impl.Row{Key: "spare"}
	for name, x := range someTriples() {
		x = triple{roomy(x.a, spare), roomy(x.b, spare), roomy(x.c, spare)}
		arguments := []memory{memoryOfRows("a", x.a), memoryOfRows("b", x.b), memoryOfRows("c", x.c)}
		testCallsApart(t, name, x, arguments)
		testCallsApart(t, name+", one list", triple{x.a, x.a, x.a}, arguments)
		testCallsApart(t, name+", parts of a list", triple{x.a[:len(x.a)/2], x.a[len(x.a)/2:], x.a}, arguments)
	}
}

func TestEqualArgumentsYieldEqualTriples(t *testing.T) {
	r := newRand()
	for name, x := range someTriples() {
		for range 5 {
			again := triple{shuffled(r, x.a), shuffled(r, x.b), shuffled(r, x.c)}
			groups, ok := impl.Cogrouped(x.a, x.b, x.c)
			moreGroups, moreOk := impl.Cogrouped(again.a, again.b, again.c)
			sameCos(t, name, moreGroups, groups)
			pairs, okPairs := impl.Chained(x.a, x.b, x.c)
			morePairs, moreOkPairs := impl.Chained(again.a, again.b, again.c)
			samePairs(t, name, morePairs, pairs)
			if ok != moreOk || okPairs != moreOkPairs {
				t.Errorf("%s: %v and %v, then %v and %v", name, ok, okPairs, moreOk, moreOkPairs)
			}
			for most := int64(-1); most < 4; most++ {
				keys, ok := impl.Skewed(x.a, most)
				moreKeys, moreOk := impl.Skewed(again.a, most)
				sameKeys(t, name, moreKeys, keys)
				pairs, okPairs := impl.SkewJoin(x.a, x.b, most)
				morePairs, moreOkPairs := impl.SkewJoin(again.a, again.b, most)
				samePairs(t, name, morePairs, pairs)
				if ok != moreOk || okPairs != moreOkPairs {
					t.Errorf("%s, %d: %v and %v, then %v and %v", name, most, ok, okPairs, moreOk, moreOkPairs)
				}
			}
		}
	}
}
