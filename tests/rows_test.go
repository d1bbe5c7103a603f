package tests

import (
	"math"
	"slices"
	"strings"
	"testing"

	"loop.example/g00630/impl"
)

// special has the bytes that the encoding treats in a special way and their neighbours.
const special = "\x00\x01\xfe\xff"

func TestLimitsOfRows(t *testing.T) {
	if impl.MaxText != maxText || impl.MaxRows != maxRows || impl.MaxTag != maxTag {
		t.Error(impl.MaxText, impl.MaxRows, impl.MaxTag)
	}
}

func TestRowOk(t *testing.T) {
	for _, r := range []impl.Row{
		{},
		{Key: longest(), Tag: maxTag, Val: longest()},
		{Key: strings.Repeat("\x00", maxText), Val: strings.Repeat("\xff", maxText)},
		{Key: "\xff\xfe\x80", Tag: 1, Val: "\x00"},
	} {
		if !impl.RowOk(r) {
			t.Errorf("valid row rejected: %#v", r)
		}
	}
	for _, r := range []impl.Row{
		{Key: tooLong()},
		{Val: tooLong()},
		{Key: strings.Repeat("\x00", maxText+1)},
		{Tag: -1},
		{Tag: maxTag + 1},
		{Tag: 256},
		{Tag: math.MaxInt64},
		{Tag: math.MinInt64},
	} {
		if impl.RowOk(r) {
			t.Errorf("invalid row accepted: %#v", r)
		}
	}
}

func TestRowsOk(t *testing.T) {
	for _, n := range []int{0, 1, maxRows} {
		if !impl.RowsOk(make([]impl.Row, n)) {
			t.Errorf("%d rows rejected", n)
		}
	}
	if !impl.RowsOk(nil) {
		t.Error("nil rejected")
	}
	for name, l := range invalidLists() {
		if impl.RowsOk(l) {
			t.Errorf("accepted: %s", name)
		}
	}
}

func TestKeyCode(t *testing.T) {
	for key, code := range map[string]string{
		"":                                  "\x00\x00",
		"a":                                 "a\x00\x00",
		"\x00":                              "\x00\xff\x00\x00",
		"\x00\x00":                          "\x00\xff\x00\xff\x00\x00",
		"\xff":                              "\xff\x00\x00",
		"\x00\xff":                          "\x00\xff\xff\x00\x00",
		"a\x00b":                            "a\x00\xffb\x00\x00",
		"\xc3\x28\x00":                      "\xc3\x28\x00\xff\x00\x00",
		longest():                           longest() + "\x00\x00",
		strings.Repeat("\x00", maxText):     strings.Repeat("\x00\xff", maxText) + "\x00\x00",
		tooLong():                           "",
		strings.Repeat("\x00", maxText+1):   "",
		strings.Repeat("\xff", 100*maxText): "",
	} {
		if got := impl.KeyCode(key); got != code {
			t.Errorf("KeyCode(%q) = %q, want %q", key, got, code)
		}
	}
}

// followers are texts behind an encoding, those among them that could be taken for a part of it.
func followers() []string {
	return append(textsOf("\x00\xff", 3), "more", "\x01", "\x00\x01", tooLong(), strings.Repeat("\x00\xff", 200))
}

func testKeyRecovered(t *testing.T, key string) {
	t.Helper()
	code := impl.KeyCode(key)
	for _, f := range followers() {
		got, n, ok := impl.ReadKeyCode(code + f)
		if !ok || got != key || n != int64(len(code)) {
			t.Errorf("ReadKeyCode(%q) = %q, %d, %v, want %q, %d", code+f, got, n, ok, key, len(code))
		}
	}
	for i := range len(code) {
		testNoKey(t, code[:i])
	}
}

func testNoKey(t *testing.T, s string) {
	t.Helper()
	if key, n, ok := impl.ReadKeyCode(s); ok || key != "" || n != 0 {
		t.Errorf("ReadKeyCode(%q) = %q, %d, %v, want nothing", s, key, n, ok)
	}
}

func TestPromise1KeysAreRecovered(t *testing.T) {
	for _, key := range textsOf(special, 3) {
		testKeyRecovered(t, key)
	}
	for b := range 256 {
		testKeyRecovered(t, string([]byte{byte(b)}))
		testKeyRecovered(t, string([]byte{'a', byte(b), 'z'}))
	}
	for _, b := range []string{"\x00", "a", "\xff"} {
		testKeyRecovered(t, strings.Repeat(b, maxText))
	}
}

func TestPromise1KeysHaveTheOrderOfTheirCodes(t *testing.T) {
	keys := append(textsOf(special, 3), longest(), strings.Repeat("\x00", maxText), strings.Repeat("\xff", maxText))
	for _, a := range keys {
		for _, b := range keys {
			if got, want := strings.Compare(impl.KeyCode(a), impl.KeyCode(b)), strings.Compare(a, b); got != want {
				t.Errorf("codes of %q and %q compare as %d, want %d", a, b, got, want)
			}
		}
	}
}

func TestReadKeyCodeRejects(t *testing.T) {
	for b := 1; b < 255; b++ {
		testNoKey(t, string([]byte{0, byte(b), 0, 0}))
		testNoKey(t, string([]byte{'a', 0, byte(b), 0, 0}))
	}
	for _, s := range []string{
		"",
		"\x00",
		"\x00\xff",
		"\x00\xff\x00",
		longest(),
		tooLong() + "\x00\x00",
		longest() + "\x00\xff\x00\x00",
		strings.Repeat("\x00\xff", maxText+1) + "\x00\x00",
		strings.Repeat("a", 1000000),
		strings.Repeat("\x00\xff", 1000000),
	} {
		testNoKey(t, s)
	}
}

// TestReadKeyCodeFindsExactlyTheCodes tries all short texts: one is read if and only if it begins with a code.
func TestReadKeyCodeFindsExactlyTheCodes(t *testing.T) {
	keys := textsOf("\x00\x01\xff", 4)
	for _, s := range textsOf("\x00\x01\xff", 6) {
		want := slices.IndexFunc(keys, func(k string) bool { return strings.HasPrefix(s, impl.KeyCode(k)) })
		if want < 0 {
			testNoKey(t, s)
			continue
		}
		key, n, ok := impl.ReadKeyCode(s)
		if !ok || key != keys[want] || n != int64(len(impl.KeyCode(keys[want]))) {
			t.Errorf("ReadKeyCode(%q) = %q, %d, %v, want %q", s, key, n, ok, keys[want])
		}
	}
}

func TestRowBytes(t *testing.T) {
	for _, c := range []struct {
		row  impl.Row
		code string
	}{
		{impl.Row{}, "\x00\x00\x00\x00\x00"},
		{impl.Row{Key: "a", Tag: 2, Val: "x\x00"}, "a\x00\x00\x02x\x00\xff\x00\x00"},
		{impl.Row{Tag: maxTag}, "\x00\x00\x03\x00\x00"},
		{impl.Row{Key: "\xff", Tag: 1, Val: "\xff"}, "\xff\x00\x00\x01\xff\x00\x00"},
		{impl.Row{Key: longest(), Val: longest()}, longest() + "\x00\x00\x00" + longest() + "\x00\x00"},
		{impl.Row{Tag: -1}, ""},
		{impl.Row{Tag: maxTag + 1}, ""},
		{impl.Row{Tag: 256}, ""},
		{impl.Row{Key: tooLong()}, ""},
		{impl.Row{Val: tooLong()}, ""},
	} {
		if got := impl.RowBytes(c.row); got != c.code {
			t.Errorf("RowBytes(%#v) = %q, want %q", c.row, got, c.code)
		}
	}
}

func testNoRow(t *testing.T, s string) {
	t.Helper()
	if r, n, ok := impl.ReadRow(s); ok || r != (impl.Row{}) || n != 0 {
		t.Errorf("ReadRow(%q) = %#v, %d, %v, want nothing", s, r, n, ok)
	}
}

func testRowRecovered(t *testing.T, r impl.Row) {
	t.Helper()
	code := impl.RowBytes(r)
	for _, f := range followers() {
		got, n, ok := impl.ReadRow(code + f)
		if !ok || got != r || n != int64(len(code)) {
			t.Errorf("ReadRow(%q) = %#v, %d, %v, want %#v, %d", code+f, got, n, ok, r, len(code))
		}
	}
	for i := range len(code) {
		testNoRow(t, code[:i])
	}
}

// fewRows returns rows with all combinations of few keys, tags and values.
func fewRows() []impl.Row {
	var l []impl.Row
	for _, key := range append(textsOf("\x00\xff", 2), "a", "a\x00", longest()) {
		for tag := range int64(maxTag + 1) {
			for _, val := range []string{"", "\x00", "\x01", "\xff", "\x00\xff", longest()} {
				l = append(l, impl.Row{Key: key, Tag: tag, Val: val})
			}
		}
	}
	return l
}

func TestPromise1RowsAreRecovered(t *testing.T) {
	for _, r := range fewRows() {
		testRowRecovered(t, r)
	}
	testRowRecovered(t, impl.Row{Key: strings.Repeat("\x00", maxText), Tag: maxTag, Val: strings.Repeat("\x00", maxText)})
	for _, r := range randomRows(newRand(), 500, maxText) {
		testRowRecovered(t, r)
	}
}

func TestPromise1RowsHaveTheOrderOfTheirCodes(t *testing.T) {
	l := append(fewRows(), randomRows(newRand(), 200, 3)...)
	for _, a := range l {
		for _, b := range l {
			if impl.Less(a, b) != (impl.RowBytes(a) < impl.RowBytes(b)) {
				t.Errorf("Less(%#v, %#v) is %v, which is not the order of RowBytes", a, b, impl.Less(a, b))
			}
		}
	}
}

func TestReadRowRejects(t *testing.T) {
	for tag := maxTag + 1; tag < 256; tag++ {
		testNoRow(t, "a\x00\x00"+string([]byte{byte(tag)})+"x\x00\x00")
	}
	for _, s := range []string{
		"",
		"a\x00\x00",
		"a\x00\x00\x02",
		"a\x00\x00\x02x",
		"a\x00\x00\x02x\x00",
		"a\x00\x01\x00\x00\x02x\x00\x00",
		"a\x00\x00\x02x\x00\x01\x00\x00",
		tooLong() + "\x00\x00\x00\x00\x00",
		"\x00\x00\x00" + tooLong() + "\x00\x00",
	} {
		testNoRow(t, s)
	}
}

func TestLess(t *testing.T) {
	increasing := []impl.Row{
		{},
		{Val: "\x00"},
		{Val: "z"},
		{Tag: 1},
		{Tag: maxTag, Val: "z"},
		{Key: "\x00"},
		{Key: "\x00\x00"},
		{Key: "\x00\xff"},
		{Key: "\x01"},
		{Key: "a", Val: "b"},
		{Key: "a", Tag: 1, Val: "a"},
		{Key: "a\x00"},
		{Key: "a\x00\xff"},
		{Key: "a\x01"},
		{Key: "aa"},
		{Key: "b"},
		{Key: "\xff"},
		{Key: strings.Repeat("\xff", maxText), Tag: maxTag, Val: strings.Repeat("\xff", maxText)},
	}
	for i, a := range increasing {
		for k, b := range increasing {
			if impl.Less(a, b) != (i < k) {
				t.Errorf("Less(%#v, %#v) is %v", a, b, impl.Less(a, b))
			}
		}
	}
}

func TestLessOfInvalidRows(t *testing.T) {
	least := impl.Row{}
	greatest := impl.Row{Key: "\xff\xff", Tag: maxTag, Val: "\xff"}
	for _, bad := range []impl.Row{{Tag: -1}, {Tag: maxTag + 1}, {Key: tooLong()}, {Val: tooLong()}} {
		for _, good := range []impl.Row{least, greatest} {
			if impl.Less(bad, good) || impl.Less(good, bad) {
				t.Errorf("%#v and %#v are in order, but one is invalid", bad, good)
			}
		}
		if impl.Less(bad, bad) {
			t.Errorf("%#v precedes itself", bad)
		}
	}
}

func TestRowsBytes(t *testing.T) {
	if impl.RowsBytes(nil) != "" || impl.RowsBytes([]impl.Row{}) != "" {
		t.Error("no rows have a code")
	}
	l := []impl.Row{{Key: "b", Tag: 1, Val: "x"}, {}, {Key: "a\x00"}}
	if got, want := impl.RowsBytes(l), "b\x00\x00\x01x\x00\x00"+"\x00\x00\x00\x00\x00"+"a\x00\xff\x00\x00\x00\x00\x00"; got != want {
		t.Errorf("got %q, want %q", got, want)
	}
	if got := impl.RowsBytes(make([]impl.Row, maxRows)); got != strings.Repeat("\x00", 5*maxRows) {
		t.Errorf("%d rows have %d bytes", maxRows, len(got))
	}
	for name, l := range invalidLists() {
		if got := impl.RowsBytes(l); got != "" {
			t.Errorf("%s: %q", name, got)
		}
	}
}

func testListRecovered(t *testing.T, l []impl.Row) {
	t.Helper()
	got, ok := impl.ReadRows(impl.RowsBytes(l))
	if !ok {
		t.Errorf("not read: %#v", l)
	}
	sameRows(t, "ReadRows", got, l)
}

func TestPromise1ListsAreRecovered(t *testing.T) {
	r := newRand()
	for n := range maxRows + 1 {
		testListRecovered(t, randomRows(r, n, 4))
		testListRecovered(t, randomRows(r, n, maxText))
	}
	testListRecovered(t, nil)
	testListRecovered(t, make([]impl.Row, maxRows))
}

// TestReadRowsOfPrefixes: a prefix of an encoding is one too only where a row ends.
func TestReadRowsOfPrefixes(t *testing.T) {
	l := []impl.Row{{Key: "\x00", Tag: 3, Val: "\xff"}, {}, {Key: "a", Val: "\x00"}}
	code := impl.RowsBytes(l)
	ends := map[int]int{}
	for n := range len(l) + 1 {
		ends[len(impl.RowsBytes(l[:n]))] = n
	}
	for i := range len(code) + 1 {
		got, ok := impl.ReadRows(code[:i])
		n, want := ends[i]
		if ok != want {
			t.Errorf("%q: %v", code[:i], ok)
		}
		sameRows(t, "prefix", got, l[:n])
	}
}

func TestReadRowsRejects(t *testing.T) {
	row := impl.RowBytes(impl.Row{Key: "a"})
	for _, s := range []string{
		"x",
		row + "x",
		row + "\x00",
		row + "\x00\x00\x04\x00\x00",
		row + "\x00\x01",
		"x" + strings.Repeat("x", maxText) + row,
		strings.Repeat(row, maxRows+1),
		strings.Repeat(row, maxRows) + "x",
		strings.Repeat(row, 100000),
	} {
		if l, ok := impl.ReadRows(s); ok || len(l) != 0 {
			t.Errorf("%.40q: read %d rows, %v", s, len(l), ok)
		}
	}
	if l, ok := impl.ReadRows(strings.Repeat(row, maxRows)); !ok || len(l) != maxRows {
		t.Errorf("%d rows: %d, %v", maxRows, len(l), ok)
	}
}

// TestReadersAcceptOnlyEncodings reads texts without a plan: what is read has just this encoding.
func TestReadersAcceptOnlyEncodings(t *testing.T) {
	r := newRand()
	read := 0
	for range 20000 {
		b := make([]byte, r.Intn(16))
		for i := range b {
			b[i] = "\x00\x00\x00\x01\x04\xff"[r.Intn(6)]
		}
		s := string(b)
		if row, n, ok := impl.ReadRow(s); ok && impl.RowBytes(row) != s[:n] {
			t.Errorf("ReadRow(%q) = %#v, %d", s, row, n)
		}
		if l, ok := impl.ReadRows(s); ok {
			read++
			if impl.RowsBytes(l) != s {
				t.Errorf("ReadRows(%q) = %#v", s, l)
			}
		}
	}
	if read < 100 {
		t.Errorf("only %d lists were read", read)
	}
}

func TestRowFunctionsModifyNothing(t *testing.T) {
	l, check := withSpare([]impl.Row{{Key: "b\x00", Val: "2"}, {Key: "a", Tag: 3, Val: "\x00"}})
	if impl.RowsBytes(l) != impl.RowsBytes(l) || !impl.RowsOk(l) {
		t.Error("equal arguments, different results")
	}
	check(t)
}
