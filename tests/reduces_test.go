package tests

import (
	"math"
	"math/rand"
	"slices"
	"strconv"
	"strings"
	"testing"

	"loop.example/g00630/impl"
)

// The kinds as the specification numbers them.
const (
	rdCount = 1
	rdSum   = 2
	rdLeast = 3
	rdMost  = 4
	rdKinds = 5
)

const maxTotal = 999999999999

func allReductions() []int64 { return []int64{rdCount, rdSum, rdLeast, rdMost, rdKinds} }

func combinable() []int64 { return []int64{rdCount, rdSum, rdLeast, rdMost} }

func invalidReductions() []int64 {
	return []int64{0, 6, -1, -5, 7, 1<<32 + 1, -1<<32 + 1, 1<<8 + 1, math.MaxInt64, math.MinInt64}
}

// totalsOf makes totals of words, each a key, = and a number.
func totalsOf(text string) []impl.Total {
	l := []impl.Total{}
	for _, r := range words(text) {
		n, err := strconv.ParseInt(r.Val, 10, 64)
		if err != nil {
			panic(err)
		}
		l = append(l, impl.Total{Key: r.Key, N: n})
	}
	return l
}

// distinctTotals returns n totals whose keys are every second byte from the given one on, so that other totals fit in between.
func distinctTotals(from int, n int) []impl.Total {
	l := []impl.Total{}
	for i := range n {
		l = append(l, impl.Total{Key: string([]byte{byte(from + 2*i)}), N: int64(i)})
	}
	return l
}

func sameTotals(t *testing.T, what string, got []impl.Total, want []impl.Total) {
	t.Helper()
	if !slices.Equal(got, want) {
		t.Errorf("%s: got %#v, want %#v", what, got, want)
	}
}

func reduced(t *testing.T, l []impl.Row, kind int64) []impl.Total {
	t.Helper()
	totals, ok := impl.Reduced(l, kind)
	if !ok {
		t.Fatalf("kind %d: rejected: %#v", kind, l)
	}
	return totals
}

func combined(t *testing.T, a []impl.Total, b []impl.Total, kind int64) []impl.Total {
	t.Helper()
	totals, ok := impl.Combined(a, b, kind)
	if !ok {
		t.Fatalf("kind %d: rejected: %#v, %#v", kind, a, b)
	}
	return totals
}

// numberByHand writes the number again: only a decimal form is what it was read from.
func numberByHand(s string) int64 {
	n, err := strconv.ParseInt(s, 10, 64)
	if err != nil || n < 0 || n > 999999999 || strconv.FormatInt(n, 10) != s {
		return 0
	}
	return n
}

// totalsByHand reduces the values of one key at a time.
func totalsByHand(l []impl.Row, kind int64) []impl.Total {
	var totals []impl.Total
	for _, key := range keysOf(l) {
		var vals []string
		var numbers []int64
		sum := int64(0)
		for _, r := range l {
			if r.Key == key {
				vals = append(vals, r.Val)
				numbers = append(numbers, numberByHand(r.Val))
				sum += numberByHand(r.Val)
			}
		}
		slices.Sort(vals)
		totals = append(totals, impl.Total{Key: key, N: map[int64]int64{
			rdCount: int64(len(vals)),
			rdSum:   sum,
			rdLeast: slices.Min(numbers),
			rdMost:  slices.Max(numbers),
			rdKinds: int64(len(slices.Compact(vals))),
		}[kind]})
	}
	return totals
}

// randomNumbers returns rows with few keys, whose values are mostly numbers, some of them equal and a few none.
func randomNumbers(r *rand.Rand, n int, most int) []impl.Row {
	vals := []string{"", "0", "1", "2", "3", "10", "12", "007", "x", "-1", "999999999", "1000000000", "500000000", "99"}
	l := randomRows(r, n, most)
	for i := range l {
		l[i].Val = vals[r.Intn(len(vals))]
	}
	return l
}

// positiveNumbers has no value that counts as 0, so that the least one is not 0 for most keys.
func positiveNumbers(r *rand.Rand, n int, most int) []impl.Row {
	l := randomRows(r, n, most)
	for i := range l {
		l[i].Val = strconv.Itoa(1 + r.Intn(999999999))
	}
	return l
}

func TestKindsOfReductions(t *testing.T) {
	got := []int64{impl.RdCount, impl.RdSum, impl.RdLeast, impl.RdMost, impl.RdKinds}
	if !slices.Equal(got, allReductions()) {
		t.Error(got)
	}
}

func TestNumberOf(t *testing.T) {
	for s, want := range map[string]int64{
		"":                        0,
		"0":                       0,
		"1":                       1,
		"9":                       9,
		"10":                      10,
		"12":                      12,
		"100":                     100,
		"7007":                    7007,
		"123456789":               123456789,
		"100000000":               100000000,
		"999999999":               999999999,
		"1000000000":              0,
		"1234567890":              0,
		"123456789012":            0,
		"999999999999":            0,
		"000000000000":            0,
		"000000000001":            0,
		"18446744073709551617":    0,
		strings.Repeat("1", 1000): 0,
		"00":                      0,
		"01":                      0,
		"007":                     0,
		"000000001":               0,
		"0000000012":              0,
		"+1":                      0,
		"-1":                      0,
		"+0":                      0,
		"-0":                      0,
		"--1":                     0,
		" 1":                      0,
		"1 ":                      0,
		"1\n":                     0,
		"1\x00":                   0,
		"\x001":                   0,
		"1.0":                     0,
		"1e3":                     0,
		"0x1":                     0,
		"1_000":                   0,
		"1,000":                   0,
		"x":                       0,
		"1x":                      0,
		"x1":                      0,
		"1x1":                     0,
		"1/":                      0,
		"1:":                      0,
		"/1":                      0,
		":1":                      0,
		"12345678x":               0,
		"\xff":                    0,
		"1\xb1":                   0,
		"\xd9\xa1":                0,
		"\xef\xbc\x91":            0,
	} {
		if got := impl.NumberOf(s); got != want {
			t.Errorf("NumberOf(%q) = %d, want %d", s, got, want)
		}
	}
}

func TestNumberOfFindsExactlyTheDecimalForms(t *testing.T) {
	for _, s := range textsOf("0159/: +-_.x\x00\xff", 4) {
		if got := impl.NumberOf(s); got != numberByHand(s) {
			t.Errorf("NumberOf(%q) = %d, want %d", s, got, numberByHand(s))
		}
	}
	for b := range 256 {
		for _, s := range []string{string([]byte{byte(b)}), string([]byte{'1', byte(b)}), string([]byte{byte(b), '1'})} {
			if got := impl.NumberOf(s); got != numberByHand(s) {
				t.Errorf("NumberOf(%q) = %d, want %d", s, got, numberByHand(s))
			}
		}
	}
	r := newRand()
	for range 2000 {
		n := int64(r.Intn(1000000000))
		if got := impl.NumberOf(strconv.FormatInt(n, 10)); got != n {
			t.Errorf("%d is read as %d", n, got)
		}
	}
}

func TestReduced(t *testing.T) {
	for _, c := range []struct {
		name string
		rows []impl.Row
		want [5]string
	}{
		{"nil", nil, [5]string{}},
		{"no rows", []impl.Row{}, [5]string{}},
		{"example", words("a=3 a=10 a=3 a=x"), [5]string{"a=4", "a=16", "a=0", "a=10", "a=3"}},
		{"one row", words("a=7"), [5]string{"a=1", "a=7", "a=7", "a=7", "a=1"}},
		{"a value that is no number", words("a=07"), [5]string{"a=1", "a=0", "a=0", "a=0", "a=1"}},
		{"no key and no value", []impl.Row{{}}, [5]string{"=1", "=0", "=0", "=0", "=1"}},
		{"least first", words("a=2 a=9 a=11"), [5]string{"a=3", "a=22", "a=2", "a=11", "a=3"}},
		{"least last", words("a=11 a=9 a=2"), [5]string{"a=3", "a=22", "a=2", "a=11", "a=3"}},
		{"different values that are no numbers", words("a=x a=y a= a=00 a=0 a=x"), [5]string{"a=6", "a=0", "a=0", "a=0", "a=5"}},
		{"greatest numbers", words("a=999999999 a=999999999 a=1000000000"), [5]string{"a=3", "a=1999999998", "a=0", "a=999999999", "a=2"}},
		{"three keys", words("c=5 a=1 c=6 b=9 a=1 c=5"), [5]string{"a=2 b=1 c=3", "a=2 b=9 c=16", "a=1 b=9 c=5", "a=1 b=9 c=6", "a=1 b=1 c=2"}},
		{"prefixes of keys", words("aa=1 =2 a=4 aa=8 =16"), [5]string{"=2 a=1 aa=2", "=18 a=4 aa=9", "=2 a=4 aa=1", "=16 a=4 aa=8", "=2 a=1 aa=2"}},
		{"keys as bytes", words("\xff=1 a=2 \x01=3"), [5]string{"\x01=1 a=1 \xff=1", "\x01=3 a=2 \xff=1", "\x01=3 a=2 \xff=1", "\x01=3 a=2 \xff=1", "\x01=1 a=1 \xff=1"}},
		{"longest key", words(longest() + "=4 k=5"), [5]string{"k=1 kkkkkkkkkkkk=1", "k=5 kkkkkkkkkkkk=4", "k=5 kkkkkkkkkkkk=4", "k=5 kkkkkkkkkkkk=4", "k=1 kkkkkkkkkkkk=1"}},
	} {
		for i, kind := range allReductions() {
			sameTotals(t, c.name, reduced(t, c.rows, kind), totalsOf(c.want[i]))
		}
	}
}

// TestReducedIgnoresTags has equal values that are apart in the order of rows.
func TestReducedIgnoresTags(t *testing.T) {
	l := []impl.Row{
		{Key: "a", Tag: 3, Val: "5"}, {Key: "a", Tag: 0, Val: "5"}, {Key: "a", Tag: 0, Val: "8"}, {Key: "a", Tag: 1, Val: "5"},
		{Key: "a", Tag: 2, Val: "8"}, {Key: "b", Tag: 3, Val: "1"}, {Key: "b", Tag: 0, Val: "1"},
	}
	for i, want := range []string{"a=5 b=2", "a=31 b=2", "a=5 b=1", "a=8 b=1", "a=2 b=1"} {
		sameTotals(t, "tags", reduced(t, l, allReductions()[i]), totalsOf(want))
	}
}

func TestReducedOfMostRows(t *testing.T) {
	one := slices.Repeat(words("a=999999999"), maxRows)
	for i, want := range []string{"a=120", "a=119999999880", "a=999999999", "a=999999999", "a=1"} {
		sameTotals(t, "one key", reduced(t, one, allReductions()[i]), totalsOf(want))
	}
	for _, kind := range allReductions() {
		got := reduced(t, distinctRows(maxRows), kind)
		sameTotals(t, "as many keys as rows", got, totalsByHand(distinctRows(maxRows), kind))
		if len(got) != maxRows || !impl.TotalsOk(got) {
			t.Errorf("kind %d: %d totals", kind, len(got))
		}
	}
}

// TestPromise7EachKeyHasOneTotal also checks each total against all rows of its key.
func TestPromise7EachKeyHasOneTotal(t *testing.T) {
	r := newRand()
	for size := range maxRows + 1 {
		for most := range 3 {
			for _, l := range [][]impl.Row{randomNumbers(r, size, most), positiveNumbers(r, size, most), randomRows(r, size, most)} {
				for _, kind := range allReductions() {
					got := reduced(t, l, kind)
					var keys []string
					for _, x := range got {
						keys = append(keys, x.Key)
					}
					if !slices.Equal(keys, keysOf(l)) || !impl.TotalsOk(got) {
						t.Errorf("kind %d: keys %q, want %q", kind, keys, keysOf(l))
					}
					sameTotals(t, "totals", got, totalsByHand(l, kind))
					sameTotals(t, "rows in another order", reduced(t, reversed(l), kind), got)
				}
			}
		}
	}
}

func TestReducedRejects(t *testing.T) {
	for _, kind := range invalidReductions() {
		for _, l := range [][]impl.Row{nil, words("a=1 b=2"), make([]impl.Row, maxRows+1)} {
			got, ok := impl.Reduced(l, kind)
			rejected(t, "kind", len(got), ok)
		}
	}
	for name, l := range invalidLists() {
		for _, kind := range allReductions() {
			got, ok := impl.Reduced(l, kind)
			rejected(t, name, len(got), ok)
		}
	}
}

func validTotals() map[string][]impl.Total {
	return map[string][]impl.Total{
		"nil":            nil,
		"none":           {},
		"zero":           {{}},
		"longest key":    {{Key: longest()}},
		"greatest":       {{Key: "a", N: maxTotal}},
		"one below":      {{Key: "a", N: maxTotal - 1}},
		"increasing":     totalsOf("=0 a=5 aa=999999999999 b=0"),
		"just behind":    {{Key: "a"}, {Key: "a\x00"}, {Key: "a\x01"}},
		"keys as bytes":  {{Key: "\x00"}, {Key: "a"}, {Key: "\x80"}, {Key: "\xff"}},
		"most totals":    distinctTotals(0, maxRows),
		"numbers fall":   totalsOf("a=9 b=8 c=7"),
		"numbers repeat": totalsOf("a=9 b=9 c=9"),
	}
}

// invalidTotals returns lists of which each breaks one rule.
func invalidTotals() map[string][]impl.Total {
	return map[string][]impl.Total{
		"equal keys":          totalsOf("a=1 a=1"),
		"equal empty keys":    {{}, {}},
		"equal keys at last":  totalsOf("a=1 b=2 b=3"),
		"decreasing":          totalsOf("b=1 a=1"),
		"decreasing at first": totalsOf("b=1 a=1 c=1"),
		"decreasing at last":  totalsOf("a=1 c=1 b=1"),
		"empty key at last":   totalsOf("a=1 =1"),
		"bytes as signed":     {{Key: "\xff"}, {Key: "a"}},
		"long key":            {{Key: tooLong()}},
		"long key at last":    {{Key: "a"}, {Key: tooLong()}},
		"long key at first":   {{Key: tooLong()}, {Key: "l"}},
		"far too long":        {{Key: strings.Repeat("k", 1000)}},
		"negative":            totalsOf("a=-1"),
		"negative at last":    totalsOf("a=1 b=-1"),
		"negative at first":   totalsOf("a=-1 b=1"),
		"too great":           {{N: maxTotal + 1}},
		"too great at last":   {{}, {Key: "a", N: maxTotal + 1}},
		"too great at first":  {{N: maxTotal + 1}, {Key: "a"}},
		"far too great":       {{N: math.MaxInt64}},
		"far too small":       {{N: math.MinInt64}},
		"too many":            distinctTotals(0, maxRows+1),
	}
}

func TestTotalsOk(t *testing.T) {
	for name, l := range validTotals() {
		if !impl.TotalsOk(l) {
			t.Errorf("%s: not valid", name)
		}
	}
	for name, l := range invalidTotals() {
		if impl.TotalsOk(l) {
			t.Errorf("%s: valid", name)
		}
	}
	keys := []string{"", "\x00", "\x00\x00", "a", "a\x00", "aa", "b", longest(), "\xff"}
	for i := range keys {
		for k := range keys {
			if got := impl.TotalsOk([]impl.Total{{Key: keys[i]}, {Key: keys[k]}}); got != (i < k) {
				t.Errorf("TotalsOk of %q, %q: %v", keys[i], keys[k], got)
			}
		}
	}
}

func TestCombined(t *testing.T) {
	for _, c := range []struct {
		name string
		a    string
		b    string
		want [4]string
	}{
		{"none", "", "", [4]string{}},
		{"left alone", "a=1 b=2", "", [4]string{"a=1 b=2", "a=1 b=2", "a=1 b=2", "a=1 b=2"}},
		{"right alone", "", "=0 b=2", [4]string{"=0 b=2", "=0 b=2", "=0 b=2", "=0 b=2"}},
		{"one key", "a=3", "a=5", [4]string{"a=8", "a=8", "a=3", "a=5"}},
		{"one key, exchanged", "a=5", "a=3", [4]string{"a=8", "a=8", "a=3", "a=5"}},
		{"equal", "a=4", "a=4", [4]string{"a=8", "a=8", "a=4", "a=4"}},
		{"empty key", "=1", "=2", [4]string{"=3", "=3", "=1", "=2"}},
		{"0 and not", "a=0", "a=7", [4]string{"a=7", "a=7", "a=0", "a=7"}},
		{"left before right", "a=1 b=2", "c=3 d=4", [4]string{"a=1 b=2 c=3 d=4", "a=1 b=2 c=3 d=4", "a=1 b=2 c=3 d=4", "a=1 b=2 c=3 d=4"}},
		{"right before left", "c=3 d=4", "a=1 b=2", [4]string{"a=1 b=2 c=3 d=4", "a=1 b=2 c=3 d=4", "a=1 b=2 c=3 d=4", "a=1 b=2 c=3 d=4"}},
		{"in turn", "a=1 c=3 d=9", "b=2 c=4 e=5", [4]string{"a=1 b=2 c=7 d=9 e=5", "a=1 b=2 c=7 d=9 e=5", "a=1 b=2 c=3 d=9 e=5", "a=1 b=2 c=4 d=9 e=5"}},
		{"prefixes", "a=1 aaa=4", "=8 a=2 aa=16", [4]string{"=8 a=3 aa=16 aaa=4", "=8 a=3 aa=16 aaa=4", "=8 a=1 aa=16 aaa=4", "=8 a=2 aa=16 aaa=4"}},
		{"greatest sum", "a=999999999998", "a=1", [4]string{"a=999999999999", "a=999999999999", "a=1", "a=999999999998"}},
		{"greatest and 0", "a=0", "a=999999999999", [4]string{"a=999999999999", "a=999999999999", "a=0", "a=999999999999"}},
	} {
		for i, kind := range combinable() {
			sameTotals(t, c.name, combined(t, totalsOf(c.a), totalsOf(c.b), kind), totalsOf(c.want[i]))
		}
	}
}

func TestCombinedAcceptsValidTotals(t *testing.T) {
	for name, l := range validTotals() {
		for _, kind := range combinable() {
			sameTotals(t, name+" on the left", combined(t, l, nil, kind), l)
			sameTotals(t, name+" on the right", combined(t, nil, l, kind), l)
		}
		sameTotals(t, name+" twice", combined(t, l, l, rdLeast), l)
		sameTotals(t, name+" twice", combined(t, l, l, rdMost), l)
	}
}

func TestCombinedRejects(t *testing.T) {
	for name, bad := range invalidTotals() {
		for _, kind := range combinable() {
			for _, good := range [][]impl.Total{nil, totalsOf("a=1 z=1"), distinctTotals(0, maxRows)} {
				got, ok := impl.Combined(bad, good, kind)
				rejected(t, name+" on the left", len(got), ok)
				got, ok = impl.Combined(good, bad, kind)
				rejected(t, name+" on the right", len(got), ok)
			}
			got, ok := impl.Combined(bad, bad, kind)
			rejected(t, name+" on both sides", len(got), ok)
		}
	}
	for _, kind := range append(invalidReductions(), rdKinds) {
		for _, l := range [][]impl.Total{nil, totalsOf("a=1"), totalsOf("b=1 a=1")} {
			got, ok := impl.Combined(l, totalsOf("a=1 b=2"), kind)
			rejected(t, "kind", len(got), ok)
			got, ok = impl.Combined(nil, l, kind)
			rejected(t, "kind", len(got), ok)
		}
	}
}

// TestCombinedRejectsResults has arguments that are valid, but whose totals together are not.
func TestCombinedRejectsResults(t *testing.T) {
	for _, c := range []struct {
		a string
		b string
	}{
		{"a=999999999999", "a=1"},
		{"a=1", "a=999999999999"},
		{"a=999999999999", "a=999999999999"},
		{"a=500000000000", "a=500000000000"},
		{"a=1 b=999999999999", "b=1 c=1"},
		{"a=1 c=999999999999", "b=1 c=1"},
	} {
		for _, kind := range []int64{rdCount, rdSum} {
			got, ok := impl.Combined(totalsOf(c.a), totalsOf(c.b), kind)
			rejected(t, "too great", len(got), ok)
		}
		for _, kind := range []int64{rdLeast, rdMost} {
			combined(t, totalsOf(c.a), totalsOf(c.b), kind)
		}
	}
	for _, kind := range combinable() {
		got := combined(t, distinctTotals(0, 60), distinctTotals(1, 60), kind)
		if len(got) != maxRows || !impl.TotalsOk(got) {
			t.Errorf("kind %d: %d totals", kind, len(got))
		}
		combined(t, distinctTotals(0, maxRows), distinctTotals(0, maxRows), kind)
		combined(t, distinctTotals(0, maxRows), distinctTotals(2, maxRows-1), kind)
		for _, c := range [][2][]impl.Total{
			{distinctTotals(0, 61), distinctTotals(1, 60)},
			{distinctTotals(0, 60), distinctTotals(1, 61)},
			{distinctTotals(0, maxRows), distinctTotals(1, 1)},
			{distinctTotals(1, 1), distinctTotals(0, maxRows)},
			{distinctTotals(0, maxRows), distinctTotals(2, maxRows)},
			{distinctTotals(0, maxRows), distinctTotals(1, maxRows)},
		} {
			got, ok := impl.Combined(c[0], c[1], kind)
			rejected(t, "too many in all", len(got), ok)
		}
	}
}

// TestPromise7CombinedTotalsAreThoseOfBoth divides lists at all places.
func TestPromise7CombinedTotalsAreThoseOfBoth(t *testing.T) {
	r := newRand()
	for _, size := range []int{0, 1, 2, 3, 10, 60, maxRows} {
		for most := range 3 {
			for _, l := range [][]impl.Row{randomNumbers(r, size, most), positiveNumbers(r, size, most)} {
				for n := range size + 1 {
					for _, kind := range combinable() {
						a, b := reduced(t, l[:n], kind), reduced(t, l[n:], kind)
						want := reduced(t, l, kind)
						sameTotals(t, "combined", combined(t, a, b, kind), want)
						sameTotals(t, "exchanged", combined(t, b, a, kind), want)
					}
					got, ok := impl.Combined(reduced(t, l[:n], rdKinds), reduced(t, l[n:], rdKinds), rdKinds)
					rejected(t, "numbers of values", len(got), ok)
				}
			}
		}
	}
}

func TestReduceFunctionsModifyNothing(t *testing.T) {
	l, check := withSpare(words("c=1 a=3 b=2 a=4 =5 c=1"))
	spare := impl.Total{Key: "spare", N: 9}
	a, checkA := withMarks(totalsOf("a=1 c=3"), spare)
	b, checkB := withMarks(totalsOf("b=2 c=4 d=5"), spare)
	bad, checkBad := withMarks(totalsOf("b=2 a=4"), spare)
	for range 2 {
		for _, kind := range append(allReductions(), 0, 6) {
			impl.Reduced(l, kind)
			impl.Combined(a, b, kind)
			impl.Combined(b, a, kind)
			impl.Combined(a, nil, kind)
			impl.Combined(nil, b, kind)
			impl.Combined(a, a, kind)
			impl.Combined(a, bad, kind)
		}
		impl.TotalsOk(a)
		impl.TotalsOk(bad)
	}
	for _, check := range []func(t *testing.T){check, checkA, checkB, checkBad} {
		check(t)
	}
}

// overwriteTotals also writes to the spare capacity.
func overwriteTotals(l []impl.Total) {
	l = l[:cap(l)]
	for i := range l {
		l[i] = impl.Total{Key: "other", N: -1}
	}
}

// TestReduceResultsShareNoMemory overwrites results: neither an argument nor a later result may show it.
func TestReduceResultsShareNoMemory(t *testing.T) {
	l := words("c=1 a=3 b=2 a=4")
	for _, kind := range allReductions() {
		overwriteTotals(reduced(t, l, kind))
		sameTotals(t, "second call", reduced(t, l, kind), totalsByHand(l, kind))
	}
	sameRows(t, "rows", l, words("c=1 a=3 b=2 a=4"))
	for _, kind := range combinable() {
		for _, c := range [][2]string{{"a=1 b=2", ""}, {"", "a=1 b=2"}, {"a=1", "b=2"}, {"b=1", "a=2"}, {"a=1 b=2", "a=3 c=4"}} {
			a, b := totalsOf(c[0]), totalsOf(c[1])
			got := combined(t, a, b, kind)
			want := slices.Clone(got)
			overwriteTotals(got)
			sameTotals(t, "left argument", a, totalsOf(c[0]))
			sameTotals(t, "right argument", b, totalsOf(c[1]))
			got = combined(t, a, b, kind)
			overwriteTotals(a)
			overwriteTotals(b)
			sameTotals(t, "result", got, want)
		}
	}
}

func TestEqualArgumentsYieldEqualTotals(t *testing.T) {
	l := randomNumbers(newRand(), maxRows, 2)
	for _, kind := range allReductions() {
		first, second := reduced(t, l, kind), reduced(t, slices.Clone(l), kind)
		sameTotals(t, "reduced twice", second, first)
	}
	for _, kind := range combinable() {
		a, b := reduced(t, l[:60], kind), reduced(t, l[60:], kind)
		sameTotals(t, "combined twice", combined(t, slices.Clone(a), slices.Clone(b), kind), combined(t, a, b, kind))
	}
}
