package tests

import (
	"math/rand"
	"slices"
	"strings"
	"testing"

	"loop.example/g00630/impl"
)

// The limits as the specification states them, so that a changed constant is noticed.
const (
	maxText  = 12
	maxRows  = 120
	maxTag   = 3
	maxParts = 8
)

func longest() string { return strings.Repeat("k", maxText) }
func tooLong() string { return strings.Repeat("k", maxText+1) }

// textsOf returns all texts over the alphabet with at most the given number of bytes.
func textsOf(alphabet string, most int) []string {
	all := []string{""}
	last := all
	for range most {
		var next []string
		for _, s := range last {
			for i := range len(alphabet) {
				next = append(next, s+alphabet[i:i+1])
			}
		}
		all = append(all, next...)
		last = next
	}
	return all
}

func newRand() *rand.Rand { return rand.New(rand.NewSource(630)) }

// randomText draws from few bytes, the special ones among them, so that equal texts and prefixes are frequent.
func randomText(r *rand.Rand, most int) string {
	const alphabet = "\x00\x01ab\xfe\xff"
	b := make([]byte, r.Intn(most+1))
	for i := range b {
		b[i] = alphabet[r.Intn(len(alphabet))]
	}
	return string(b)
}

func randomRows(r *rand.Rand, n int, most int) []impl.Row {
	l := make([]impl.Row, 0, n)
	for range n {
		l = append(l, impl.Row{Key: randomText(r, most), Tag: int64(r.Intn(maxTag + 1)), Val: randomText(r, most)})
	}
	return l
}

// rowsOf returns rows with the given keys, each with its index as value.
func rowsOf(keys ...string) []impl.Row {
	l := []impl.Row{}
	for i, k := range keys {
		l = append(l, impl.Row{Key: k, Tag: int64(i % (maxTag + 1)), Val: string([]byte{byte(i)})})
	}
	return l
}

// invalidLists returns lists of which each breaks one rule.
func invalidLists() map[string][]impl.Row {
	bad := map[string]impl.Row{
		"long key":    {Key: tooLong()},
		"long value":  {Val: tooLong()},
		"tag below 0": {Tag: -1},
		"tag above":   {Tag: maxTag + 1},
	}
	lists := map[string][]impl.Row{"too many rows": make([]impl.Row, maxRows+1)}
	for name, r := range bad {
		lists[name+" first"] = []impl.Row{r, {}}
		lists[name+" last"] = []impl.Row{{}, r}
	}
	return lists
}

func sameRows(t *testing.T, what string, got []impl.Row, want []impl.Row) {
	t.Helper()
	if !slices.Equal(got, want) {
		t.Errorf("%s: got %#v, want %#v", what, got, want)
	}
}

// withSpare returns the rows with marked spare capacity behind them, and a check that neither was written to.
func withSpare(l []impl.Row) ([]impl.Row, func(t *testing.T)) {
	return withMarks(l, impl.Row{Key: "spare", Tag: 3, Val: "spare"})
}

func withMarks[T comparable](l []T, mark T) ([]T, func(t *testing.T)) {
	memory := append(slices.Clone(l), mark, mark, mark)
	before := slices.Clone(memory)
	return memory[:len(l)], func(t *testing.T) {
		t.Helper()
		if !slices.Equal(memory, before) {
			t.Errorf("an argument was modified: %#v, before %#v", memory, before)
		}
	}
}
