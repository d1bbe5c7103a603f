package tests

import (
	"slices"
	"strconv"
	"strings"
	"testing"

	"loop.example/g00630/impl"
)

func TestLimitsOfScripts(t *testing.T) {
	if impl.MaxScript != maxScript || impl.MaxLines != maxLines {
		t.Error(impl.MaxScript, impl.MaxLines)
	}
}

// TestScripts has the lines of scripts and of their outputs.
func TestScripts(t *testing.T) {
	for name, c := range map[string]struct{ lines, want []string }{
		"the example": {
			[]string{"left-rows a=1 b=2 a=3", "right-rows a=x c=y", "inner", "left"},
			[]string{"ok", "ok", "inner; a =1 =x; a =3 =x", "left; a =1 =x; a =3 =x; b =2 -"},
		},
		"all other queries of the example": {
			[]string{"left-rows a=1 b=2 a=3", "right-rows a=x c=y", "right", "full", "semi", "anti", "count", "sum", "least", "most", "kinds", "part 1", "part 8"},
			[]string{
				"ok", "ok", "right; a =1 =x; a =3 =x; c - =y", "full; a =1 =x; a =3 =x; b =2 -; c - =y", "semi; a =1 -; a =3 -", "anti; b =2 -",
				"count a:2 b:1", "sum a:4 b:2", "least a:1 b:2", "most a:3 b:2", "kinds a:2 b:1", "part 3", "part 0 0 0 0 2 1 0 0",
			},
		},
		"no lines":      {nil, nil},
		"an empty line": {[]string{""}, nil},
		"lines without words": {
			[]string{"", "left-rows a=1", " ", "", "count", "      ", "sum", ""},
			[]string{"ok", "count a:1", "sum a:1"},
		},
		"tables are filled again": {
			[]string{"left-rows a=1 b=2", "count", "left-rows c=3", "count", "right-rows c=4", "inner", "right-rows d=5", "full", "left-rows", "count", "full", "right-rows", "full"},
			[]string{"ok", "count a:1 b:1", "ok", "count c:1", "ok", "inner; c =3 =4", "ok", "full; c =3 -; d - =5", "ok", "count", "full; d - =5", "ok", "full"},
		},
		"the right table alone is not aggregated": {
			[]string{"right-rows a=1 b=2", "count", "sum", "least", "most", "kinds", "part 2", "inner", "right"},
			[]string{"ok", "count", "sum", "least", "most", "kinds", "part 0 0", "inner", "right; a - =1; b - =2"},
		},
		"the right table does not matter": {
			[]string{"left-rows a=1", "right-rows a=5 a=7 b=2", "count", "sum", "least", "most", "kinds", "part 1"},
			[]string{"ok", "ok", "count a:1", "sum a:1", "least a:1", "most a:1", "kinds a:1", "part 1"},
		},
		"equal rows": {
			[]string{"left-rows a=1 a=1", "right-rows a=2 a=2", "inner", "semi", "count", "sum", "kinds", "part 1"},
			[]string{"ok", "ok", "inner; a =1 =2; a =1 =2; a =1 =2; a =1 =2", "semi; a =1 -; a =1 -", "count a:2", "sum a:2", "kinds a:1", "part 2"},
		},
		"rows are sorted, values as texts": {
			[]string{"left-rows b=9 a=9 a=10 \xff=0 =5 a=", "left", "most"},
			[]string{"ok", "left;  =5 -; a = -; a =10 -; a =9 -; b =9 -; \xff =0 -", "most :5 a:10 b:9 \xff:0"},
		},
	} {
		answers(t, name, linesOf(c.lines...), c.want...)
	}
}

func TestWordsOfLines(t *testing.T) {
	rows := []string{"left-rows a=1 b=2", "right-rows a=x"}
	for _, c := range [][2]string{
		{" inner", "inner; a =1 =x"},
		{"inner ", "inner; a =1 =x"},
		{"     inner         ", "inner; a =1 =x"},
		{"  part   1  ", "part 2"},
		{"part                 1", "part 2"},
		{"left-rows   a=1     b=2   ", "ok"},
		{" left-rows", "ok"},
		{"   right-rows   ", "ok"},
		{"   fly   ", "what"},
		{"in ner", "what"},
		{"left -rows", "what"},
		{" inner now ", "what"},
	} {
		sameText(t, brief(c[0]), answer(t, rows, c[0]), c[1])
	}
	for _, l := range []string{" left-rows   a=1  b=2", "left-rows a=1 b=2    ", "left-rows  a=1 b=2", "          left-rows          a=1          b=2          "} {
		answers(t, "spaces between rows", linesOf(l, "left"), "ok", "left; a =1 -; b =2 -")
	}
	for n := range 5 {
		answers(t, "lines of spaces only", strings.Repeat(strings.Repeat(" ", n)+"\n", n))
	}
}

// TestOnlySpacesSeparateWords has bytes that look like a space and are part of a word.
func TestOnlySpacesSeparateWords(t *testing.T) {
	for _, s := range []string{
		"\t", "\r", "\v", "\f", "\x00", "\x08", "\x0e", "\x1c", "\x1f", "\x21", "\x7f", "\x85", "\xa0", "\xe0", "\u0085", "\u00a0", "\u1680", "\u2003", "\u2028", "\u2029", "\u3000", "\ufeff", "+", "%20", ",", "\xc2", "\xe2\x80", "\xff",
	} {
		what := "between words " + brief(s)
		for _, line := range []string{s, s + s, " " + s, s + " ", s + "count", "count" + s, s + " count", "count " + s, "part" + s + "1", "part 1" + s, "part " + s + "1", "left-rows" + s, "left-rows" + s + "a=1", "left-rows a=1 " + s} {
			answers(t, what, linesOf("left-rows a=3", line, "sum"), "ok", "what", "sum a:3")
		}
		answers(t, what, linesOf("left-rows a=1"+s+"b=2", "left", "count"), "ok", "left; a =1"+s+"b=2 -", "count a:1")
		answers(t, what, linesOf("left-rows "+s+"a"+s+"=1"+s, "left", "sum"), "ok", "left; "+s+"a"+s+" =1"+s+" -", "sum "+s+"a"+s+":0")
		answers(t, what, linesOf("right-rows "+s+"="+s+" =", "right"), "ok", "right;  - =; "+s+" - ="+s)
	}
	answers(t, "carriage returns", "left-rows a=1\r\ncount\r\n\r\nleft\n", "ok", "what", "what", "left; a =1\r -")
}

func TestWrongLines(t *testing.T) {
	for _, line := range wrongLines() {
		answers(t, "without rows", linesOf(line), "what")
		answers(t, "with rows", linesOf("left-rows a=1 b=2 a=3", "right-rows a=x c=y", line, "full", line, "count"),
			"ok", "ok", "what", "full; a =1 =x; a =3 =x; b =2 -; c - =y", "what", "count a:2 b:1")
	}
	for _, word := range slices.Concat(joinWords(), totalWords()) {
		for _, line := range []string{strings.ToUpper(word), strings.ToUpper(word[:1]) + word[1:], word + "s1", word[1:], word[:len(word)-1], word + " " + word, word + " a=1", word + " =", "x " + word, "left-rows a=1 " + word} {
			answers(t, "near "+word, linesOf(line, "count"), "what", "count")
		}
	}
}

// TestRowsOfWords has the words of rows and the text of the left join without a right table.
func TestRowsOfWords(t *testing.T) {
	accents := strings.Repeat("é", maxText/2)
	for _, c := range [][2]string{
		{"", ""},
		{"a=1", "; a =1 -"},
		{"=", ";  = -"},
		{"=v", ";  =v -"},
		{"k=", "; k = -"},
		{"==", ";  == -"},
		{"===", ";  === -"},
		{"a=b=c", "; a =b=c -"},
		{"a==b", "; a ==b -"},
		{"a=b=", "; a =b= -"},
		{"=a=b", ";  =a=b -"},
		{"=a= = b=", ";  = -;  =a= -; b = -"},
		{"a:1=2", "; a:1 =2 -"},
		{";=;", "; ; =; -"},
		{"-=-", "; - =- -"},
		{"left-rows=right-rows", "; left-rows =right-rows -"},
		{longest() + "=" + longest(), "; " + longest() + " =" + longest() + " -"},
		{longest() + "=", "; " + longest() + " = -"},
		{"=" + longest(), ";  =" + longest() + " -"},
		{accents + "=" + accents, "; " + accents + " =" + accents + " -"},
		{strings.Repeat("\xff", maxText) + "=" + strings.Repeat("\x00", maxText), "; " + strings.Repeat("\xff", maxText) + " =" + strings.Repeat("\x00", maxText) + " -"},
		{strings.Repeat("=", maxText+1), ";  =" + strings.Repeat("=", maxText) + " -"},
		{"k" + strings.Repeat("=", maxText+1), "; k =" + strings.Repeat("=", maxText) + " -"},
	} {
		answers(t, "left rows", linesOf("left-rows "+c[0], "left"), "ok", "left"+c[1])
		answers(t, "left rows again", linesOf("left-rows x=y z=w", "left-rows "+c[0], "left"), "ok", "ok", "left"+c[1])
		answers(t, "right rows", linesOf("right-rows "+c[0], "left-rows "+c[0], "anti"), "ok", "ok", "anti")
		answers(t, "right rows alone", linesOf("right-rows "+c[0], "left"), "ok", "left")
	}
	answers(t, "right rows", linesOf("right-rows =v k= a=b=c", "right"), "ok", "right;  - =v; a - =b=c; k - =")
}

func wrongRows() []string {
	return []string{
		"a", "-", "abc", "1", longest(), tooLong(), "a:1", "\x00", "\t", "é",
		tooLong() + "=1", "a=" + tooLong(), tooLong() + "=" + tooLong(), tooLong() + "=", "=" + tooLong(), "1234567890123=1",
		strings.Repeat("é", maxText/2) + "a=1", "a=" + strings.Repeat("é", maxText/2) + "a", strings.Repeat("é", maxText/2+1) + "=",
		strings.Repeat("\x00", maxText+1) + "=", "=" + strings.Repeat("\xff", maxText+1), strings.Repeat("=", maxText+2), "k" + strings.Repeat("=", maxText+2), "a=b" + strings.Repeat("=", maxText),
		strings.Repeat("k", 300) + "=", "=" + strings.Repeat("v", 300),
	}
}

// TestWrongRowsLeaveTheTable has a wrong row in each place among others.
func TestWrongRowsLeaveTheTable(t *testing.T) {
	for _, wrong := range wrongRows() {
		for _, line := range []string{wrong, wrong + " c=3", "c=3 " + wrong, "c=3 " + wrong + " d=4", wrong + " " + wrong} {
			answers(t, "left rows", linesOf("left-rows a=1 b=2", "right-rows b=x", "left-rows "+line, "full"), "ok", "ok", "what", "full; a =1 -; b =2 =x")
			answers(t, "right rows", linesOf("left-rows a=1 b=2", "right-rows b=x", "right-rows "+line, "full"), "ok", "ok", "what", "full; a =1 -; b =2 =x")
			answers(t, "no rows before", linesOf("left-rows "+line, "right-rows "+line, "full", "count"), "what", "what", "full", "count")
			answers(t, "and then right ones", linesOf("left-rows "+line, "left-rows c=5", "sum", "right-rows "+line, "right-rows c=6", "inner"), "what", "ok", "sum c:5", "what", "ok", "inner; c =5 =6")
		}
	}
}

func TestMostRowsOfATable(t *testing.T) {
	for name, word := range map[string]string{"empty": "=", "short": "k=1", "longest": longest() + "=" + longest()} {
		most := strings.Repeat(" "+word, maxRows)
		key, val, _ := strings.Cut(word, "=")
		count := "count " + key + ":120"
		answers(t, name+" left rows", linesOf("left-rows"+most, "count", "part 1"), "ok", count, "part 120")
		answers(t, name+" right rows", linesOf("left-rows "+word, "right-rows"+most, "inner"), "ok", "ok", "inner"+strings.Repeat("; "+key+" ="+val+" ="+val, maxRows))
		if len(most) > maxLines/2 {
			answers(t, name+", a row too many", linesOf("left-rows a=3", "left-rows "+word+most, "sum"), "ok", "what", "sum a:3")
			answers(t, name+", a row too many on the right", linesOf("right-rows a=3", "right-rows "+word+most, "right"), "ok", "what", "right; a - =3")
			continue
		}
		answers(t, name+", a row too many", linesOf("left-rows"+most, "left-rows "+word+most, "left-rows"+most+" a=1", "count"), "ok", "what", "what", count)
		answers(t, name+", a row too many on the right", linesOf("left-rows "+word, "right-rows "+word, "right-rows "+word+most, "right-rows"+most+" a=1", "inner"), "ok", "ok", "what", "what", "inner; "+key+" ="+val+" ="+val)
		answers(t, name+", far too many", linesOf("left-rows"+strings.Repeat(" =", 1500), "count"), "what", "count")
	}
	lines := []string{"left-rows"}
	want := "count"
	for i := range maxRows {
		lines[0] += " k" + strconv.Itoa(500-i) + "=" + strconv.Itoa(i)
		want += " k" + strconv.Itoa(501-maxRows+i) + ":1"
	}
	answers(t, "different keys", linesOf(lines[0], "count"), "ok", want)
	answers(t, "different keys, a row too many", linesOf(lines[0], lines[0]+" k=", "count"), "ok", "what", want)
}

// TestJoinsOfScripts has the outputs of the joins with both tables filled, with the left one, the right one, and none.
func TestJoinsOfScripts(t *testing.T) {
	leftRows, rightRows := "left-rows b=2 a=3 a=1", "right-rows c=z a=y a=x"
	for word, want := range map[string][4]string{
		"inner": {"; a =1 =x; a =1 =y; a =3 =x; a =3 =y", "", "", ""},
		"left":  {"; a =1 =x; a =1 =y; a =3 =x; a =3 =y; b =2 -", "; a =1 -; a =3 -; b =2 -", "", ""},
		"right": {"; a =1 =x; a =1 =y; a =3 =x; a =3 =y; c - =z", "", "; a - =x; a - =y; c - =z", ""},
		"full":  {"; a =1 =x; a =1 =y; a =3 =x; a =3 =y; b =2 -; c - =z", "; a =1 -; a =3 -; b =2 -", "; a - =x; a - =y; c - =z", ""},
		"semi":  {"; a =1 -; a =3 -", "", "", ""},
		"anti":  {"; b =2 -", "; a =1 -; a =3 -; b =2 -", "", ""},
	} {
		answers(t, "both", linesOf(leftRows, rightRows, word), "ok", "ok", word+want[0])
		answers(t, "both, the right one first", linesOf(rightRows, leftRows, word), "ok", "ok", word+want[0])
		answers(t, "left one", linesOf(leftRows, word), "ok", word+want[1])
		answers(t, "right one", linesOf(rightRows, word), "ok", word+want[2])
		answers(t, "none", linesOf(word), word+want[3])
		answers(t, "all by turns", linesOf(word, leftRows, word, rightRows, word, "left-rows", word, "right-rows", word),
			word+want[3], "ok", word+want[1], "ok", word+want[0], "ok", word+want[2], "ok", word+want[3])
	}
}

// TestJoinsWithMorePairsThanRows joins one key of both tables.
func TestJoinsWithMorePairsThanRows(t *testing.T) {
	rows := strings.Repeat(" =", maxRows)
	all := strings.Repeat(";  = =", maxRows*maxRows)
	for word, want := range map[string]string{"inner": all, "left": all, "right": all, "full": all, "semi": strings.Repeat(";  = -", maxRows), "anti": ""} {
		answers(t, "most pairs", linesOf("left-rows"+rows, "right-rows"+rows, word), "ok", "ok", word+want)
	}
	answers(t, "a few more", linesOf("left-rows a=1 a=2 a=3", "right-rows a=4 a=5 a=6", "inner"), "ok", "ok",
		"inner; a =1 =4; a =1 =5; a =1 =6; a =2 =4; a =2 =5; a =2 =6; a =3 =4; a =3 =5; a =3 =6")
}

// TestTotalsOfScripts has the outputs of count, sum, least, most and kinds, in this order.
func TestTotalsOfScripts(t *testing.T) {
	for rows, want := range map[string][5]string{
		"":                                      {},
		"a=3 a=10 a=3 a=x":                      {" a:4", " a:16", " a:0", " a:10", " a:3"},
		"a=7":                                   {" a:1", " a:7", " a:7", " a:7", " a:1"},
		"b=4 a=5 b=6 a=6":                       {" a:2 b:2", " a:11 b:10", " a:5 b:4", " a:6 b:6", " a:2 b:2"},
		"= =1":                                  {" :2", " :1", " :0", " :1", " :2"},
		"a=x a=y a=x":                           {" a:3", " a:0", " a:0", " a:0", " a:2"},
		"a=x b=y":                               {" a:1 b:1", " a:0 b:0", " a:0 b:0", " a:0 b:0", " a:1 b:1"},
		"a=007 a=5":                             {" a:2", " a:5", " a:0", " a:5", " a:2"},
		"a=-1 a=+2 a=3=":                        {" a:3", " a:0", " a:0", " a:0", " a:3"},
		"a=1000000000 a=999999999":              {" a:2", " a:999999999", " a:0", " a:999999999", " a:2"},
		"a=0 a=00":                              {" a:2", " a:0", " a:0", " a:0", " a:2"},
		"a=9 a=10 a=08":                         {" a:3", " a:19", " a:0", " a:10", " a:3"},
		":=1 a:=2 \xff=3 \x00=4":                {" \x00:1 ::1 a::1 \xff:1", " \x00:4 ::1 a::2 \xff:3", " \x00:4 ::1 a::2 \xff:3", " \x00:4 ::1 a::2 \xff:3", " \x00:1 ::1 a::1 \xff:1"},
		"ab=1 a=2 abc=3 = b=\x001":              {" :1 a:1 ab:1 abc:1 b:1", " :0 a:2 ab:1 abc:3 b:0", " :0 a:2 ab:1 abc:3 b:0", " :0 a:2 ab:1 abc:3 b:0", " :1 a:1 ab:1 abc:1 b:1"},
		strings.Repeat("a=999999999 ", maxRows): {" a:120", " a:119999999880", " a:999999999", " a:999999999", " a:1"},
	} {
		for i, word := range totalWords() {
			answers(t, "totals", linesOf("left-rows "+rows, word), "ok", word+want[i])
			answers(t, "totals beside a right table", linesOf("right-rows a=4 z=1", "left-rows "+rows, word), "ok", "ok", word+want[i])
		}
	}
	answers(t, "totals of no table", linesOf(totalWords()...), totalWords()...)
}

func TestPartsOfScripts(t *testing.T) {
	for n, want := range []string{"3", "2 1", "2 1 0", "1 0 1 1", "1 2 0 0 0", "1 0 0 1 1 0", "0 0 1 0 0 2 0", "0 0 1 0 1 0 0 1"} {
		answers(t, "parts", linesOf("left-rows a=1 \x00=2 ab=3", "part "+strconv.Itoa(n+1)), "ok", "part "+want)
	}
	for n, want := range []string{"0", "0 0", "0 0 0", "0 0 0 0", "0 0 0 0 0", "0 0 0 0 0 0", "0 0 0 0 0 0 0", "0 0 0 0 0 0 0 0"} {
		answers(t, "parts of no table", linesOf("part "+strconv.Itoa(n+1)), "part "+want)
		answers(t, "parts beside a right table", linesOf("right-rows a=1", "part "+strconv.Itoa(n+1)), "ok", "part "+want)
	}
	rows := "left-rows a=1 b=2 a=3 a=1"
	answers(t, "least number", linesOf(rows, "part 1"), "ok", "part 4")
	answers(t, "greatest number", linesOf(rows, "part 8"), "ok", "part 0 0 0 0 3 1 0 0")
	for _, number := range numbersOfNoParts() {
		answers(t, "number "+brief(number), linesOf(rows, "part "+number, "count"), "ok", "what", "count a:3 b:1")
		answers(t, "number without rows "+brief(number), linesOf("part "+number), "what")
	}
	for _, line := range []string{"part", "part ", "part 1 1", "part 1 2", "part 1 x", "part x 1", "part 1 =", "1 part", "PART 1", "part1", "part 1part"} {
		answers(t, "form", linesOf(rows, line, "part 1"), "ok", "what", "part 4")
	}
}

func TestMostLinesOfScripts(t *testing.T) {
	for name, line := range map[string]string{"empty": "", "spaces": "  ", "wrong": "x", "query": "count", "rows": "left-rows a=1"} {
		for _, n := range []int{0, 1, 2, maxScript - 1, maxScript} {
			script := strings.Repeat(line+"\n", n)
			sameText(t, name+", "+strconv.Itoa(n), impl.RunScript(script), scriptByHand(script))
			if got := impl.RunScript(script); got == tooLongScript {
				t.Errorf("%s: %d lines: %q", name, n, got)
			}
			sameText(t, name+", a last line without a line feed", impl.RunScript(script+"count"), tooLongScript)
		}
		for _, n := range []int{maxScript + 1, maxScript + 2, 2 * maxScript, 256, 296} {
			sameText(t, name+", "+strconv.Itoa(n), impl.RunScript(strings.Repeat(line+"\n", n)), tooLongScript)
		}
	}
	most := strings.Repeat("\n", maxScript-1)
	answers(t, "a query in the last line", most+"count\n", "count")
	answers(t, "a query in the first line", "count\n"+most, "count")
	sameText(t, "a query behind the last line", impl.RunScript(most+"\ncount\n"), tooLongScript)
	sameText(t, "far too many lines", impl.RunScript(strings.Repeat("\n", maxLines)), tooLongScript)
}

func TestMostBytesOfScripts(t *testing.T) {
	rows := "left-rows a=1\n"
	for _, n := range []int{maxLines - 1, maxLines} {
		spaces := strings.Repeat(" ", n)
		answers(t, "a line of spaces", spaces[1:]+"\n")
		answers(t, "spaces behind a word", rows+"count"+spaces[len(rows)+len("count\n"):]+"\n", "ok", "count a:1")
		answers(t, "spaces before a word", rows+spaces[len(rows)+len("count\n"):]+"count\n", "ok", "count a:1")
		answers(t, "a long word", rows+strings.Repeat("x", n-len(rows)-1)+"\n", "ok", "what")
		answers(t, "40 lines", strings.Repeat("\n", maxScript-1)+spaces[maxScript:]+"\n")
		sameText(t, "no line feed", impl.RunScript(spaces), tooLongScript)
	}
	for _, n := range []int{maxLines + 1, maxLines + 2, 2 * maxLines, 1<<16 + 1, 1 << 20} {
		spaces := strings.Repeat(" ", n)
		for name, script := range map[string]string{
			"a line of spaces":     spaces[1:] + "\n",
			"spaces behind a word": rows + "count" + spaces[len(rows)+len("count\n"):] + "\n",
			"spaces before a word": rows + spaces[len(rows)+len("count\n"):] + "count\n",
			"a long word":          rows + strings.Repeat("x", n-len(rows)-1) + "\n",
			"40 lines":             strings.Repeat("\n", maxScript-1) + spaces[maxScript:] + "\n",
			"spaces behind":        rows + spaces[len(rows):],
			"no line feed":         spaces,
		} {
			sameText(t, name+", "+strconv.Itoa(n), impl.RunScript(script), tooLongScript)
		}
	}
	// A character may have several bytes.
	sameText(t, "bytes, not characters", impl.RunScript(strings.Repeat("é", maxLines/2)+"\n"), tooLongScript)
	sameText(t, "as many bytes as there may be", impl.RunScript("x"+strings.Repeat("é", maxLines/2-1)+"\n"), "what\n")
}

func TestLastLineWithoutALineFeed(t *testing.T) {
	sameText(t, "empty script", impl.RunScript(""), "")
	for _, script := range []string{
		"inner", " ", "   ", "x", "\r", "\x00", "count\nsum", "count\n ", "\n ", "\n\n\nx", "left-rows a=1\ncount", "count\n\r", "count\r", "count\n\x00", "count\u2028", "count\\n",
	} {
		sameText(t, brief(script), impl.RunScript(script), tooLongScript)
		if got := impl.RunScript(script + "\n"); got == tooLongScript {
			t.Errorf("%q with a line feed: %q", script, got)
		}
	}
}

func TestScriptsAgreeWithTheirRules(t *testing.T) {
	r := newRand()
	for range 400 {
		script := linesOf(randomScript(r)...)
		sameText(t, brief(script), impl.RunScript(script), scriptByHand(script))
	}
}

// TestPromise13PrefixOfOutput runs each beginning of a script.
func TestPromise13PrefixOfOutput(t *testing.T) {
	r := newRand()
	for range 100 {
		lines := randomScript(r)
		before := ""
		for n := range len(lines) + 1 {
			script := linesOf(lines[:n]...)
			got := impl.RunScript(script)
			if !strings.HasPrefix(got, before) {
				t.Fatalf("%s: %s does not begin with %s", brief(script), brief(got), brief(before))
			}
			more := strings.Count(got[len(before):], "\n")
			if want := n > 0 && len(wordsByHand(lines[n-1])) > 0; (more == 1) != want || more > 1 {
				t.Fatalf("%s: %d lines of output for the last line", brief(script), more)
			}
			before = got
		}
	}
}

// TestPromise13ScriptsThatAreTooLong adds the line that is one too many.
func TestPromise13ScriptsThatAreTooLong(t *testing.T) {
	r := newRand()
	for range 50 {
		lines := randomScript(r)
		script := linesOf(lines...)
		most := script + strings.Repeat("\n", min(maxScript-len(lines), maxLines-len(script)))
		sameText(t, "empty lines behind", impl.RunScript(most), impl.RunScript(script))
		sameText(t, "a line too many", impl.RunScript(most+"\n"), tooLongScript)
		if len(lines) < maxScript {
			last := strings.Repeat(" ", max(0, maxLines-len(script)-1))
			sameText(t, "bytes too many", impl.RunScript(script+last+" \n"), tooLongScript)
			if len(script) < maxLines {
				sameText(t, "most bytes", impl.RunScript(script+last+"\n"), impl.RunScript(script))
			}
		}
	}
}

// TestPromise13QueriesChangeNothing leaves out queries, and repeats them.
func TestPromise13QueriesChangeNothing(t *testing.T) {
	r := newRand()
	for range 200 {
		lines := slices.DeleteFunc(randomScript(r), func(line string) bool { return len(wordsByHand(line)) == 0 })
		outputs := brokenLines(impl.RunScript(linesOf(lines...)))
		if len(outputs) != len(lines) {
			t.Fatalf("%d lines, %d of output", len(lines), len(outputs))
		}
		for i, line := range lines {
			if !isQuery(line) {
				continue
			}
			without := impl.RunScript(linesOf(slices.Delete(slices.Clone(lines), i, i+1)...))
			sameText(t, "without "+brief(line), without, linesOf(slices.Delete(slices.Clone(outputs), i, i+1)...))
			script := linesOf(slices.Insert(slices.Clone(lines), i, line)...)
			if len(lines) < maxScript && len(script) <= maxLines {
				sameText(t, "twice "+brief(line), impl.RunScript(script), linesOf(slices.Insert(slices.Clone(outputs), i, outputs[i])...))
			}
		}
	}
}

// TestPromise13EachQueryBetweenOthers asks each query behind each other one.
func TestPromise13EachQueryBetweenOthers(t *testing.T) {
	rows := []string{"left-rows a=1 b=2 a=3", "right-rows a=x c=y"}
	queries := slices.Concat(joinWords(), totalWords(), []string{"part 1", "part 8"}, wrongLines())
	for _, first := range queries {
		want := answer(t, rows, first)
		for _, second := range queries {
			before := append(slices.Clone(rows), second)
			sameText(t, brief(first)+" behind "+brief(second), answer(t, before, first), want)
			sameText(t, brief(first)+" twice behind "+brief(second), answer(t, append(before, first), first), want)
		}
	}
}

// TestPromise14EqualScripts runs scripts twice in a row, and behind other scripts.
func TestPromise14EqualScripts(t *testing.T) {
	r := newRand()
	for range 200 {
		script, other := linesOf(randomScript(r)...), linesOf(randomScript(r)...)
		first := impl.RunScript(script)
		sameText(t, "second call", impl.RunScript(strings.Clone(script)), first)
		impl.RunScript(other)
		sameText(t, "behind another script", impl.RunScript(script), first)
	}
	for range 2 {
		answers(t, "no rows of the script before", "full\ncount\nleft-rows a=1\nright-rows b=2\n", "full", "count", "ok", "ok")
		sameText(t, "too long", impl.RunScript("left-rows a=1\ncount"), tooLongScript)
		sameText(t, "nothing is left of it", impl.RunScript("count\n"), "count\n")
	}
}
