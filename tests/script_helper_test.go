package tests

import (
	"hash/fnv"
	"math/rand"
	"slices"
	"strconv"
	"strings"
	"testing"

	"loop.example/g00630/impl"
)

// The limits as the specification states them.
const (
	maxScript = 40
	maxLines  = 4000
)

const tooLongScript = "too long\n"

// linesOf ends each line with a line feed.
func linesOf(lines ...string) string {
	if len(lines) == 0 {
		return ""
	}
	return strings.Join(lines, "\n") + "\n"
}

// brokenLines is the inverse of linesOf.
func brokenLines(text string) []string {
	if text == "" {
		return nil
	}
	return strings.Split(strings.TrimSuffix(text, "\n"), "\n")
}

func sameText(t *testing.T, what string, got string, want string) {
	t.Helper()
	if got != want {
		t.Errorf("%s: got %s, want %s", what, brief(got), brief(want))
	}
}

// answers checks that a script has these lines of output.
func answers(t *testing.T, what string, script string, want ...string) {
	t.Helper()
	sameText(t, what+", script "+brief(script), impl.RunScript(script), linesOf(want...))
}

// answer is that of one line behind others.
func answer(t *testing.T, before []string, line string) string {
	t.Helper()
	lines := brokenLines(impl.RunScript(linesOf(append(slices.Clone(before), line)...)))
	if len(lines) == 0 {
		t.Fatalf("no output: %q", line)
	}
	return lines[len(lines)-1]
}

func joinWords() []string { return []string{"inner", "left", "right", "full", "semi", "anti"} }

func totalWords() []string { return []string{"count", "sum", "least", "most", "kinds"} }

// tablesByHand have the two tables of a script.
type tablesByHand struct{ left, right []impl.Row }

// scriptByHand follows the rules of the specification line by line.
func scriptByHand(text string) string {
	ended := text == "" || text[len(text)-1] == '\n'
	if !ended || len(text) > maxLines || strings.Count(text, "\n") > maxScript {
		return tooLongScript
	}
	var tables tablesByHand
	out := ""
	for _, line := range brokenLines(text) {
		if list := wordsByHand(line); len(list) > 0 {
			out += tables.line(list) + "\n"
		}
	}
	return out
}

// wordsByHand collects bytes up to the next space.
func wordsByHand(line string) []string {
	var list []string
	word := ""
	for _, c := range []byte(line + " ") {
		if c != ' ' {
			word += string([]byte{c})
		} else if word != "" {
			list = append(list, word)
			word = ""
		}
	}
	return list
}

func (x *tablesByHand) line(list []string) string {
	word, more := list[0], list[1:]
	kind, reduction := slices.Index(joinWords(), word)+1, slices.Index(totalWords(), word)+1
	switch {
	case word == "left-rows":
		return fillByHand(&x.left, more)
	case word == "right-rows":
		return fillByHand(&x.right, more)
	case word == "part" && len(more) == 1:
		return partLineByHand(x.left, more[0])
	case kind > 0 && len(more) == 0:
		for _, p := range joinByHand(x.left, x.right, int64(kind)) {
			word += "; " + pairTextByHand(p)
		}
		return word
	case reduction > 0 && len(more) == 0:
		for _, total := range totalsByHand(x.left, int64(reduction)) {
			word += " " + total.Key + ":" + strconv.FormatInt(total.N, 10)
		}
		return word
	}
	return "what"
}

func fillByHand(l *[]impl.Row, list []string) string {
	var rows []impl.Row
	for _, w := range list {
		i := strings.IndexByte(w, '=')
		if i < 0 || i > maxText || len(w)-i-1 > maxText || len(list) > maxRows {
			return "what"
		}
		rows = append(rows, impl.Row{Key: w[:i], Val: w[i+1:]})
	}
	*l = rows
	return "ok"
}

func partLineByHand(l []impl.Row, number string) string {
	n := slices.Index([]string{"1", "2", "3", "4", "5", "6", "7", "8"}, number) + 1
	if n == 0 {
		return "what"
	}
	counts := make([]int, n)
	for _, r := range l {
		h := fnv.New32a()
		h.Write([]byte(r.Key))
		counts[int(h.Sum32()%uint32(n))]++
	}
	out := "part"
	for _, c := range counts {
		out += " " + strconv.Itoa(c)
	}
	return out
}

func pairTextByHand(p impl.Pair) string {
	l, r := "-", "-"
	if p.HasL {
		l = "=" + p.L
	}
	if p.HasR {
		r = "=" + p.R
	}
	return p.Key + " " + l + " " + r
}

// wrongLines are answered with what, whatever the tables are.
func wrongLines() []string {
	return []string{
		"fly", "ok", "what", "-", "=", "a=1", "rows", "left-row", "left-rowss", "leftrows", "left rows", "left-rows=", "left_rows a=1", "left-rowsa=1",
		"Left-Rows a=1", "LEFT-ROWS", "Inner", "INNER", "innerx", "inne", "outer", "Count", "COUNT", "counts", "min", "max", "Part 1", "PART 1", "parts 1", "part1",
		"inner now", "left a=1", "right inner", "full full", "semi 1", "anti =", "count 1", "sum a", "least x y", "most 2", "kinds kinds",
		"part", "part 0", "part 9", "part 1 2", "part 1 x", "part part", "1 part", "left-rows a", "right-rows a=1 b", "left-rows a:1", "right-rows -",
		"\t", "\tcount", "count\t", "inner\r", "\r", "\x00", "part\t1", "part 1\t", "part 1\r", "\u00a0", "count\u00a0", "\xa0", "\x0b", "\x0c", "\x85", "\xff",
	}
}

// numbersOfNoParts are no decimal numbers in 1..8; some of them are one modulo a power of 2.
func numbersOfNoParts() []string {
	return []string{
		"0", "9", "10", "11", "12", "18", "80", "99", "120", "256", "257", "65537", "999999999", "1000000000", "4294967297", "4294967304", "18446744073709551617", "18446744073709551624",
		"+1", "-1", "+0", "-0", "+8", "-8", "--1", "1+", "1-", "00", "01", "08", "001", "000000001", "0000000001", strings.Repeat("0", 30) + "1", strings.Repeat("1", 1000),
		"x", "one", "1x", "x1", "1.0", "1.", ".1", "1e0", "0x1", "0b1", "1_", "1,", "=1", "1=", "'1'", "1\x00", "\x001", "\x01", "/", ":", "\xb1", "\xd9\xa1", "\xef\xbc\x91", "\xc2\xb9",
	}
}

// randomWord is one of few keys with = and one of few values, or sometimes not a valid row.
func randomWord(r *rand.Rand) string {
	keys := []string{"a", "b", "c", "", "ab", "\xff", "\t", "é", longest()}
	vals := []string{"1", "2", "10", "", "x", "007", "=", "999999999", "\x00", longest()}
	wrong := []string{"a", tooLong() + "=1", "a=" + tooLong(), "-", "a:1"}
	if r.Intn(60) == 0 {
		return wrong[r.Intn(len(wrong))]
	}
	return keys[r.Intn(len(keys))] + "=" + vals[r.Intn(len(vals))]
}

// randomLine has words of one of the forms, mostly of a valid one, and spaces at any place.
func randomLine(r *rand.Rand) string {
	var list []string
	switch r.Intn(10) {
	case 0, 1, 2:
		list = append(list, []string{"left-rows", "right-rows"}[r.Intn(2)])
		for range r.Intn(9) {
			list = append(list, randomWord(r))
		}
	case 3, 4, 5:
		list = append(list, joinWords()[r.Intn(len(joinWords()))])
	case 6, 7:
		list = append(list, totalWords()[r.Intn(len(totalWords()))])
	case 8:
		list = append(list, "part", strconv.Itoa(r.Intn(10)))
	default:
		lines := append(wrongLines(), "", " ", "   ")
		return lines[r.Intn(len(lines))]
	}
	spaces := func(least int) string { return strings.Repeat(" ", least+max(0, r.Intn(6)-3)) }
	line := spaces(0) + list[0]
	for _, w := range list[1:] {
		line += spaces(1) + w
	}
	return line + spaces(0)
}

func randomScript(r *rand.Rand) []string {
	var lines []string
	size := 0
	for range r.Intn(maxScript + 1) {
		line := randomLine(r)
		size += len(line) + 1
		if size > maxLines {
			break
		}
		lines = append(lines, line)
	}
	return lines
}

func isQuery(line string) bool {
	list := wordsByHand(line)
	return len(list) > 0 && list[0] != "left-rows" && list[0] != "right-rows"
}
