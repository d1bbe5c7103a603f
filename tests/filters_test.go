package tests

import (
	"hash/fnv"
	"math"
	"slices"
	"strings"
	"testing"

	"loop.example/g00630/impl"
)

const maxBits = 256

func allSizes() []int64 {
	var sizes []int64
	for n := int64(8); n <= maxBits; n += 8 {
		sizes = append(sizes, n)
	}
	return sizes
}

// invalidFilterSizes lie beyond both ends of 8..256, between multiples of 8, or are right only in their lower bits.
func invalidFilterSizes() []int64 {
	return []int64{
		0, 7, 1, 4, 9, 12, 15, 17, 252, 255, 257, 264, 512, -1, -8, -16, -256,
		1<<32 + 8, 1 << 32, -1<<32 + 8, math.MaxInt64, math.MaxInt64 - 7, math.MinInt64, math.MinInt64 + 8,
	}
}

// filledFilter returns a filter all of whose bytes are the given one.
func filledFilter(n int64, b byte) impl.Filter {
	return impl.Filter{N: n, Bits: strings.Repeat(string([]byte{b}), int(n/8))}
}

func invalidFilters() map[string]impl.Filter {
	return map[string]impl.Filter{
		"zero":            {},
		"no size":         {Bits: "\xff"},
		"no bits":         {N: 8},
		"a byte too many": {N: 8, Bits: "\xff\xff"},
		"a byte too few":  {N: 16, Bits: "\xff"},
		"bits as bytes":   {N: 8, Bits: strings.Repeat("\xff", 8)},
		"7 in a byte":     {N: 7, Bits: "\xff"},
		"7 in no byte":    {N: 7},
		"9 in a byte":     {N: 9, Bits: "\xff"},
		"9 in two bytes":  {N: 9, Bits: "\xff\xff"},
		"12":              {N: 12, Bits: "\xff"},
		"255":             {N: 255, Bits: strings.Repeat("\xff", 31)},
		"257":             {N: 257, Bits: strings.Repeat("\xff", 32)},
		"264":             {N: 264, Bits: strings.Repeat("\xff", 33)},
		"largest, less":   {N: 256, Bits: strings.Repeat("\xff", 31)},
		"largest, more":   {N: 256, Bits: strings.Repeat("\xff", 33)},
		"-8":              {N: -8, Bits: "\xff"},
		"-8 without bits": {N: -8},
	}
}

func placesByHand(key string, n int64) [3]int64 {
	var at [3]int64
	for i := range at {
		h := fnv.New32a()
		h.Write([]byte{byte(i)})
		h.Write([]byte(key))
		at[i] = int64(h.Sum32()) % n
	}
	return at
}

// addedByHand returns the filter with the bits of the keys in addition.
func addedByHand(f impl.Filter, keys ...string) impl.Filter {
	b := []byte(f.Bits)
	for _, key := range keys {
		for _, i := range placesByHand(key, f.N) {
			b[i/8] |= 1 << (i % 8)
		}
	}
	return impl.Filter{N: f.N, Bits: string(b)}
}

func hasByHand(f impl.Filter, key string) bool {
	for _, i := range placesByHand(key, f.N) {
		if f.Bits[i/8]>>(i%8)&1 == 0 {
			return false
		}
	}
	return true
}

// keysToAdd has the special bytes and the longest keys, whose hashes are those of texts with one byte more.
func keysToAdd() []string {
	keys := textsOf("\x00\x01a\xff", 2)
	return append(keys, longest(), strings.Repeat("\x00", maxText), strings.Repeat("\xff", maxText))
}

func keysTooLong() []string {
	return []string{tooLong(), strings.Repeat("\x00", maxText+1), strings.Repeat("k", 1000)}
}

// someFilters returns filters of a size, from no bits to all of them.
func someFilters(n int64) []impl.Filter {
	r := newRand()
	filters := []impl.Filter{filledFilter(n, 0), filledFilter(n, 0x55), filledFilter(n, 0xfe), filledFilter(n, 0xff)}
	for range 3 {
		b := make([]byte, n/8)
		r.Read(b)
		filters = append(filters, impl.Filter{N: n, Bits: string(b)})
	}
	return filters
}

func filterOf(t *testing.T, l []impl.Row, n int64) impl.Filter {
	t.Helper()
	f, ok := impl.FilterOf(l, n)
	if !ok {
		t.Fatalf("size %d: rejected: %#v", n, l)
	}
	return f
}

func filterRejected(t *testing.T, what string, f impl.Filter, ok bool) {
	t.Helper()
	if ok || f != (impl.Filter{}) {
		t.Errorf("%s: %+v, %v", what, f, ok)
	}
}

func TestLimitOfBits(t *testing.T) {
	if impl.MaxBits != maxBits {
		t.Error(impl.MaxBits)
	}
}

func TestFilterNew(t *testing.T) {
	for _, n := range allSizes() {
		f, ok := impl.FilterNew(n)
		if !ok || f != filledFilter(n, 0) || !impl.FilterOk(f) {
			t.Errorf("FilterNew(%d) = %+v, %v", n, f, ok)
		}
	}
	for _, n := range invalidFilterSizes() {
		f, ok := impl.FilterNew(n)
		filterRejected(t, "size", f, ok)
	}
	for n := int64(-20); n <= 2*maxBits; n++ {
		if _, ok := impl.FilterNew(n); ok != slices.Contains(allSizes(), n) {
			t.Errorf("FilterNew(%d): %v", n, ok)
		}
	}
}

func TestFilterOk(t *testing.T) {
	for _, n := range allSizes() {
		for _, f := range someFilters(n) {
			if !impl.FilterOk(f) {
				t.Errorf("not valid: %+v", f)
			}
		}
		for _, size := range []int64{0, n/8 - 1, n/8 + 1, n} {
			if f := (impl.Filter{N: n, Bits: strings.Repeat("\x00", int(size))}); impl.FilterOk(f) {
				t.Errorf("valid: %+v", f)
			}
		}
	}
	for name, f := range invalidFilters() {
		if impl.FilterOk(f) {
			t.Errorf("%s: valid", name)
		}
	}
	for _, n := range invalidFilterSizes() {
		for size := range 34 {
			if impl.FilterOk(impl.Filter{N: n, Bits: strings.Repeat("\x00", size)}) {
				t.Errorf("%d bits in %d bytes are valid", n, size)
			}
		}
	}
}

// TestFilterAdd has bits that were computed by hand.
func TestFilterAdd(t *testing.T) {
	for _, c := range []struct {
		f    impl.Filter
		key  string
		bits string
	}{
		{filledFilter(8, 0), "a", "\x94"},
		{filledFilter(8, 0), longest(), "\x0b"},
		{filledFilter(8, 0x41), "a", "\xd5"},
		{filledFilter(8, 0xff), "a", "\xff"},
		{filledFilter(16, 0), "a", "\x80\x14"},
		{filledFilter(16, 0), "", "\x20\x90"},
		{filledFilter(16, 0x81), "", "\xa1\x91"},
	} {
		got, ok := impl.FilterAdd(c.f, c.key)
		if !ok || got != (impl.Filter{N: c.f.N, Bits: c.bits}) {
			t.Errorf("FilterAdd(%+v, %q) = %+v, %v", c.f, c.key, got, ok)
		}
	}
}

func TestFilterAddSetsThreeBits(t *testing.T) {
	for _, n := range allSizes() {
		for _, f := range someFilters(n) {
			for _, key := range keysToAdd() {
				got, ok := impl.FilterAdd(f, key)
				if !ok || got != addedByHand(f, key) || !impl.FilterOk(got) {
					t.Fatalf("FilterAdd(%+v, %q) = %+v, %v", f, key, got, ok)
				}
				again, ok := impl.FilterAdd(got, key)
				if !ok || again != got {
					t.Fatalf("%q added twice: %+v, %v", key, again, ok)
				}
			}
		}
	}
}

func TestFilterHas(t *testing.T) {
	for _, n := range allSizes() {
		for _, key := range keysToAdd() {
			for _, f := range someFilters(n) {
				if got := impl.FilterHas(f, key); got != hasByHand(f, key) {
					t.Fatalf("FilterHas(%+v, %q) = %v", f, key, got)
				}
			}
			if impl.FilterHas(filledFilter(n, 0), key) || !impl.FilterHas(filledFilter(n, 0xff), key) {
				t.Errorf("size %d: %q", n, key)
			}
		}
	}
}

// TestFilterHasNeedsEachBit takes one bit of a key away at a time.
func TestFilterHasNeedsEachBit(t *testing.T) {
	for _, n := range allSizes() {
		for _, key := range keysToAdd() {
			for _, i := range placesByHand(key, n) {
				b := []byte(filledFilter(n, 0xff).Bits)
				b[i/8] &^= 1 << (i % 8)
				if impl.FilterHas(impl.Filter{N: n, Bits: string(b)}, key) {
					t.Errorf("size %d: %q is found without its bit %d", n, key, i)
				}
			}
		}
	}
}

func TestFilterAddAndHasReject(t *testing.T) {
	for name, f := range invalidFilters() {
		for _, key := range []string{"", "a", longest(), tooLong()} {
			got, ok := impl.FilterAdd(f, key)
			filterRejected(t, name, got, ok)
			if impl.FilterHas(f, key) {
				t.Errorf("%s: %q is found", name, key)
			}
		}
	}
	for _, n := range allSizes() {
		for _, key := range keysTooLong() {
			got, ok := impl.FilterAdd(filledFilter(n, 0xff), key)
			filterRejected(t, "long key", got, ok)
			if impl.FilterHas(filledFilter(n, 0xff), key) {
				t.Errorf("size %d: a key of %d bytes is found", n, len(key))
			}
		}
	}
}

// TestPromise6AddedKeysAreFound also looks for each key behind all the later ones.
func TestPromise6AddedKeysAreFound(t *testing.T) {
	for _, n := range allSizes() {
		f := filledFilter(n, 0)
		for i, key := range keysToAdd() {
			var ok bool
			f, ok = impl.FilterAdd(f, key)
			if !ok {
				t.Fatal("rejected")
			}
			for _, before := range keysToAdd()[:i+1] {
				if !impl.FilterHas(f, before) {
					t.Errorf("size %d: %q is not found behind %q", n, before, key)
				}
			}
		}
	}
}

func TestPromise6KeysOfRowsAreFound(t *testing.T) {
	r := newRand()
	for _, n := range allSizes() {
		for _, size := range []int{0, 1, 2, 10, maxRows} {
			l := randomRows(r, size, maxText)
			f := filterOf(t, l, n)
			for _, row := range l {
				if !impl.FilterHas(f, row.Key) {
					t.Errorf("size %d: %q is not found", n, row.Key)
				}
			}
			sameRows(t, "own rows", impl.Passed(f, l), l)
		}
	}
}

func TestFilterOf(t *testing.T) {
	r := newRand()
	for _, n := range allSizes() {
		for _, size := range []int{0, 1, 2, 10, maxRows} {
			l := randomRows(r, size, 4)
			want := filledFilter(n, 0)
			for _, row := range l {
				want = addedByHand(want, row.Key)
			}
			if got := filterOf(t, l, n); got != want || !impl.FilterOk(got) {
				t.Errorf("size %d: %+v, want %+v", n, got, want)
			}
			if got := filterOf(t, reversed(l), n); got != want {
				t.Errorf("size %d, in another order: %+v, want %+v", n, got, want)
			}
		}
		a := []impl.Row{{Key: "a"}, {Key: "a"}, {Key: "a", Tag: 3, Val: "v"}}
		if got := filterOf(t, a, n); got != addedByHand(filledFilter(n, 0), "a") {
			t.Errorf("size %d: tags or values have bits: %+v", n, got)
		}
	}
}

func TestFilterOfRejects(t *testing.T) {
	for _, n := range invalidFilterSizes() {
		for _, l := range [][]impl.Row{nil, rowsOf("a", "b"), make([]impl.Row, maxRows+1)} {
			f, ok := impl.FilterOf(l, n)
			filterRejected(t, "size", f, ok)
		}
	}
	for name, l := range invalidLists() {
		for _, n := range []int64{8, 16, maxBits} {
			f, ok := impl.FilterOf(l, n)
			filterRejected(t, name, f, ok)
		}
	}
	if f, ok := impl.FilterOf(make([]impl.Row, maxRows), 16); !ok || f.Bits != "\x20\x90" {
		t.Error("the longest list is not accepted", f, ok)
	}
}

func unionByHand(a impl.Filter, b impl.Filter) impl.Filter {
	bits := []byte(a.Bits)
	for i := range bits {
		bits[i] |= b.Bits[i]
	}
	return impl.Filter{N: a.N, Bits: string(bits)}
}

func TestFilterBoth(t *testing.T) {
	got, ok := impl.FilterBoth(impl.Filter{N: 16, Bits: "\x81\x02"}, impl.Filter{N: 16, Bits: "\x11\x40"})
	if !ok || got != (impl.Filter{N: 16, Bits: "\x91\x42"}) {
		t.Error(got, ok)
	}
	for _, n := range allSizes() {
		for _, a := range someFilters(n) {
			for _, b := range someFilters(n) {
				got, ok := impl.FilterBoth(a, b)
				if !ok || got != unionByHand(a, b) || !impl.FilterOk(got) {
					t.Fatalf("FilterBoth(%+v, %+v) = %+v, %v", a, b, got, ok)
				}
			}
		}
	}
}

func TestFilterBothHasTheKeysOfBoth(t *testing.T) {
	r := newRand()
	for _, n := range allSizes() {
		a, b := randomRows(r, 9, 3), randomRows(r, 5, 3)
		got, ok := impl.FilterBoth(filterOf(t, a, n), filterOf(t, b, n))
		if all := slices.Concat(a, b); !ok || got != filterOf(t, all, n) {
			t.Errorf("size %d: %+v, %v", n, got, ok)
		}
	}
}

func TestFilterBothRejects(t *testing.T) {
	for _, n := range allSizes() {
		for _, m := range allSizes() {
			if n != m {
				f, ok := impl.FilterBoth(filledFilter(n, 1), filledFilter(m, 1))
				filterRejected(t, "different sizes", f, ok)
			}
		}
	}
	for name, bad := range invalidFilters() {
		for _, good := range []impl.Filter{filledFilter(8, 0xff), filledFilter(16, 0xff), filledFilter(maxBits, 0xff)} {
			f, ok := impl.FilterBoth(bad, good)
			filterRejected(t, name+" on the left", f, ok)
			f, ok = impl.FilterBoth(good, bad)
			filterRejected(t, name+" on the right", f, ok)
		}
		f, ok := impl.FilterBoth(bad, bad)
		filterRejected(t, name+" on both sides", f, ok)
	}
}

func TestPassed(t *testing.T) {
	f := filterOf(t, rowsOf("a", "b"), maxBits)
	l := []impl.Row{
		{Key: "b", Tag: 3, Val: "z"}, {Key: "zebra"}, {Key: "a", Val: "2"}, {Key: ""}, {Key: "b"}, {Key: "a", Val: "1"}, {Key: "a", Val: "2"}, {Key: longest()},
	}
	sameRows(t, "passed", impl.Passed(f, l), []impl.Row{l[0], l[2], l[4], l[5], l[6]})
	r := newRand()
	for _, n := range allSizes() {
		l := randomRows(r, maxRows, 3)
		for _, f := range someFilters(n) {
			var want []impl.Row
			for _, row := range l {
				if hasByHand(f, row.Key) {
					want = append(want, row)
				}
			}
			sameRows(t, "passed", impl.Passed(f, l), want)
			sameRows(t, "no rows", impl.Passed(f, nil), nil)
		}
		sameRows(t, "no bits", impl.Passed(filledFilter(n, 0), l), nil)
		sameRows(t, "all bits", impl.Passed(filledFilter(n, 0xff), l), l)
	}
}

func TestPassedOfInvalidArguments(t *testing.T) {
	for name, f := range invalidFilters() {
		for _, l := range [][]impl.Row{nil, rowsOf("a", ""), make([]impl.Row, maxRows)} {
			if got := impl.Passed(f, l); len(got) != 0 {
				t.Errorf("%s: %d rows", name, len(got))
			}
		}
	}
	for name, l := range invalidLists() {
		for _, n := range []int64{8, 16, maxBits} {
			if got := impl.Passed(filledFilter(n, 0xff), l); len(got) != 0 {
				t.Errorf("%s: %d rows", name, len(got))
			}
		}
	}
}

// TestPromise6SameInnerJoin also checks that the filters of these tables do withhold rows.
func TestPromise6SameInnerJoin(t *testing.T) {
	withheld := false
	for a, b := range randomTables {
		want := joinOf(t, a, b, inner)
		for _, n := range allSizes() {
			ofA := impl.Passed(filterOf(t, b, n), a)
			ofB := impl.Passed(filterOf(t, a, n), b)
			samePairs(t, "left side passed", joinOf(t, ofA, b, inner), want)
			samePairs(t, "right side passed", joinOf(t, a, ofB, inner), want)
			samePairs(t, "both sides passed", joinOf(t, ofA, ofB, inner), want)
			withheld = withheld || len(a) > 0 && len(b) > 0 && len(ofA) < len(a)
		}
	}
	if !withheld {
		t.Error("no filter withholds a row")
	}
}

func TestFilterFunctionsModifyNothing(t *testing.T) {
	l, check := withSpare(rowsOf("c", "a", "b", "a", "", "c"))
	f := filterOf(t, rowsOf("a", "c"), 64)
	before := impl.Filter{N: f.N, Bits: strings.Clone(f.Bits)}
	for range 2 {
		impl.FilterOk(f)
		impl.FilterAdd(f, "b")
		impl.FilterHas(f, "b")
		impl.FilterBoth(f, filledFilter(64, 0xff))
		impl.FilterBoth(filledFilter(64, 0xff), f)
		impl.Passed(f, l)
		impl.Passed(filledFilter(64, 0xff), l)
		impl.FilterOf(l, 64)
	}
	check(t)
	if f != before {
		t.Error("a filter was modified", f, before)
	}
}

func TestPassedSharesNoMemory(t *testing.T) {
	l := rowsOf("a", "b", "c", "a")
	for _, f := range []impl.Filter{filledFilter(8, 0xff), filterOf(t, l, maxBits), filterOf(t, l[:1], maxBits)} {
		got := impl.Passed(f, l)
		if len(got) == 0 {
			t.Fatal("no rows")
		}
		testApart(t, []impl.Part{{Rows: got}}, l)
	}
}

func TestEqualArgumentsYieldEqualFilters(t *testing.T) {
	l := randomRows(newRand(), maxRows, 3)
	for _, n := range allSizes() {
		first, second := filterOf(t, l[:7], n), filterOf(t, slices.Clone(l[:7]), n)
		if first != second {
			t.Error(first, second)
		}
		sameRows(t, "passed", impl.Passed(second, slices.Clone(l)), impl.Passed(first, l))
		a, _ := impl.FilterAdd(first, "a")
		b, _ := impl.FilterAdd(second, "a")
		if a != b || impl.FilterHas(first, "b") != impl.FilterHas(second, "b") {
			t.Error(a, b)
		}
	}
}
