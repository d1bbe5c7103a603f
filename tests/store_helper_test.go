package tests

import (
	"encoding/binary"
	"hash/crc32"
	"math"
	"math/rand"
	"slices"
	"strconv"
	"strings"
	"testing"

	"loop.example/g00630/impl"
)

// The numbers as the specification states them.
const (
	stOk    = 0
	stDisk  = 1
	stNone  = 2
	stForm  = 3
	stFull  = 4
	stPower = 5
	stTorn  = 6
	stNot   = 8

	acNew   = 1
	acAdd   = 2
	acOpen  = 3
	acCrash = 4

	maxFrame  = 100000
	frameHead = 8
	maxOuts   = 100
)

func newLog() impl.Act { return impl.Act{Kind: acNew, Power: -1} }

func add(o impl.Out) impl.Act { return impl.Act{Kind: acAdd, Out: o, Power: -1} }

func addSynced(o impl.Out) impl.Act { return impl.Act{Kind: acAdd, Out: o, Sync: true, Power: -1} }

func openLog() impl.Act { return impl.Act{Kind: acOpen, Power: -1} }

func lose(keep []int64, torn int64) impl.Act {
	return impl.Act{Kind: acCrash, Keep: keep, Torn: torn, Power: -1}
}

func withPower(a impl.Act, power int64) impl.Act {
	a.Power = power
	return a
}

func invalidActs() []int64 {
	return []int64{0, 5, -1, -4, 9, 1<<8 + 1, 1<<32 + 2, -1<<32 + 3, math.MaxInt64, math.MinInt64}
}

func outOf(p int64, totals string) impl.Out { return impl.Out{P: p, L: totalsOf(totals)} }

// someOuts returns n outputs of different parts, the first one without totals.
func someOuts(n int) []impl.Out {
	l := []impl.Out{}
	for i := range n {
		o := impl.Out{P: int64(i*3+1) % maxParts}
		for k := range i {
			o.L = append(o.L, impl.Total{Key: "k" + strconv.Itoa(k), N: int64(i)})
		}
		l = append(l, o)
	}
	return l
}

func validOuts() map[string]impl.Out {
	outs := map[string]impl.Out{}
	for name, l := range validTotals() {
		for p := range int64(maxParts) {
			outs[name+", part "+strconv.FormatInt(p, 10)] = impl.Out{P: p, L: l}
		}
	}
	return outs
}

// invalidOuts returns outputs of which each breaks one rule.
func invalidOuts() map[string]impl.Out {
	outs := map[string]impl.Out{}
	for name, l := range invalidTotals() {
		outs[name] = impl.Out{P: 1, L: l}
	}
	for _, p := range append(outside(maxParts), 256, 257) {
		outs["part "+strconv.FormatInt(p, 10)] = outOf(p, "a=1")
		outs["no totals, part "+strconv.FormatInt(p, 10)] = impl.Out{P: p}
	}
	return outs
}

func keyByHand(s string) string {
	return strings.ReplaceAll(s, "\x00", "\x00\xff") + "\x00\x00"
}

func outByHand(o impl.Out) string {
	s := string([]byte{byte(o.P)})
	for _, x := range o.L {
		s += keyByHand(x.Key) + "\x00" + keyByHand(strconv.FormatInt(x.N, 10))
	}
	return s
}

// frameByHand also makes frames that are too long.
func frameByHand(data string) string {
	head := binary.BigEndian.AppendUint32(nil, uint32(len(data)))
	return string(binary.LittleEndian.AppendUint32(head, crc32.ChecksumIEEE([]byte(data)))) + data
}

func numbered(i int, o impl.Out) string {
	return frameByHand(strconv.Itoa(i) + " " + outByHand(o))
}

func logOf(outs ...impl.Out) string {
	s := ""
	for i, o := range outs {
		s += numbered(i, o)
	}
	return s
}

// withLog returns a synchronized disk with a log between other files.
func withLog(log string, more ...impl.File) impl.Disk {
	files := mapOf(more)
	files["a"], files["z"], files["log"] = "1", "2", log
	return synced(listOf(files))
}

func equalOut(a impl.Out, b impl.Out) bool { return a.P == b.P && slices.Equal(a.L, b.L) }

func sameOuts(t *testing.T, what string, got []impl.Out, want []impl.Out) {
	t.Helper()
	if !slices.EqualFunc(got, want, equalOut) {
		t.Fatalf("%s: got %s, want %s", what, brief(got), brief(want))
	}
}

func viewed(t *testing.T, d impl.Disk) []impl.Out {
	t.Helper()
	outs, code := impl.StoreView(d)
	if code != stOk {
		t.Fatalf("code %d: %s", code, brief(d))
	}
	return outs
}

// stored performs actions of which each must be possible.
func stored(t *testing.T, d impl.Disk, acts ...impl.Act) impl.Disk {
	t.Helper()
	for _, a := range acts {
		d = acted(t, d, a, stOk)
	}
	return d
}

func acted(t *testing.T, d impl.Disk, a impl.Act, want int64) impl.Disk {
	t.Helper()
	got, code := impl.StoreDo(d, a)
	if code != want {
		t.Fatalf("%s: code %d, want %d: %s", brief(a), code, want, brief(d))
	}
	if !impl.DiskOk(got) {
		t.Fatalf("%s: not valid: %s", brief(a), brief(got))
	}
	return got
}

// refusedAct checks that an action changes nothing and has a code, with any power, as it performs no step.
func refusedAct(t *testing.T, what string, d impl.Disk, a impl.Act, want int64) {
	t.Helper()
	for _, power := range []int64{-1, 0, 1, 9, math.MinInt64, math.MaxInt64} {
		sameDisk(t, what, acted(t, d, withPower(a, power), want), d)
	}
}

// A step of an action is one of chapter 10.
type diskStep func(d impl.Disk) impl.Disk

func doing(t *testing.T, op impl.DOp) diskStep {
	return func(d impl.Disk) impl.Disk { return onDisk(t, d, op) }
}

// testSteps checks an action with each power: that it performs exactly these steps, from the given disk on.
func testSteps(t *testing.T, what string, d impl.Disk, a impl.Act, start impl.Disk, steps ...diskStep) {
	t.Helper()
	reached := start
	for n, step := range steps {
		got := acted(t, d, withPower(a, int64(n)), stPower)
		sameDisk(t, what+" with power "+strconv.Itoa(n), got, reached)
		reached = step(reached)
	}
	for _, power := range []int64{int64(len(steps)), int64(len(steps)) + 1, 1 << 32, math.MaxInt64, -1, -2, -1 << 32, math.MinInt64} {
		got := acted(t, d, withPower(a, power), stOk)
		sameDisk(t, what+" with power "+strconv.FormatInt(power, 10), got, reached)
	}
}

// openingSteps are those of AcOpen of a torn log.
func openingSteps(t *testing.T, d impl.Disk, counts string) []diskStep {
	var steps []diskStep
	if _, ok := impl.ReadFile(d, "log.new"); ok {
		steps = append(steps, doing(t, remove("log.new")))
	}
	return append(steps, doing(t, appendTo("log.new", counts)), impl.Sync, doing(t, rename("log.new", "log")), impl.Sync)
}

// A tornLog is a log of which only the beginning counts.
type tornLog struct {
	counts []impl.Out
	rest   string
}

func (l tornLog) text() string { return logOf(l.counts...) + l.rest }

// tornLogs breaks each rule, after no, one, or more frames that count.
func tornLogs() map[string]tornLog {
	logs := map[string]tornLog{}
	for n := range 4 {
		counts := someOuts(4)[:n]
		next := someOuts(4)[n]
		behind := " behind " + strconv.Itoa(n)
		frame := numbered(n, next)
		for k := 1; k < len(frame); k++ {
			logs["truncated at "+strconv.Itoa(k)+behind] = tornLog{counts, frame[:k]}
		}
		for k := range frameHead {
			wrong := []byte(frame)
			wrong[k] ^= 1
			logs["wrong byte "+strconv.Itoa(k)+behind] = tornLog{counts, string(wrong) + numbered(n+1, impl.Out{P: 0})}
		}
		for name, data := range wrongData(n, next) {
			logs[name+behind] = tornLog{counts, frameByHand(data)}
			logs[name+behind+" and before another"] = tornLog{counts, frameByHand(data) + numbered(n+1, impl.Out{P: 0})}
			logs[name+behind+" and before the right one"] = tornLog{counts, frameByHand(data) + frame}
		}
		for _, o := range counts {
			again := " part " + strconv.FormatInt(o.P, 10)
			logs["again"+again+behind] = tornLog{counts, numbered(n, o)}
			logs["again, other totals,"+again+behind] = tornLog{counts, numbered(n, outOf(o.P, "other=1")) + numbered(n+1, impl.Out{P: 0})}
			logs["again, and the number used twice,"+again+behind] = tornLog{counts, numbered(n, o) + frame}
		}
		logs["too long a frame"+behind] = tornLog{counts, frameByHand(strings.Repeat("x", maxFrame+1))}
		logs["zeros"+behind] = tornLog{counts, strings.Repeat("\x00", 40)}
	}
	return logs
}

// wrongData returns the data of frames that do not have the form or the number of the one at index n.
func wrongData(n int, o impl.Out) map[string]string {
	number, bytes := strconv.Itoa(n), outByHand(o)
	data := map[string]string{
		"nothing":               "",
		"number alone":          number + " ",
		"no space":              number + bytes,
		"two spaces":            number + "  " + bytes,
		"space before":          " " + number + " " + bytes,
		"no number":             " " + bytes,
		"output alone":          bytes,
		"another space":         number + "\t" + bytes,
		"leading zero":          "0" + number + " " + bytes,
		"sign":                  "+" + number + " " + bytes,
		"negative":              "-" + number + " " + bytes,
		"next number":           strconv.Itoa(n+1) + " " + bytes,
		"number before":         strconv.Itoa(n-1) + " " + bytes,
		"ten times":             number + "0 " + bytes,
		"bytes behind":          number + " " + bytes + "\x00",
		"no such part":          number + " \x08",
		"tag":                   number + " \x07a\x00\x00\x011\x00\x00",
		"number with zero":      number + " \x07a\x00\x00\x0001\x00\x00",
		"thirteen digits":       number + " \x07a\x00\x00\x001000000000000\x00\x00",
		"keys not increasing":   number + " \x07" + strings.Repeat("a\x00\x00\x001\x00\x00", 2),
		"truncated in the data": number + " \x07a\x00\x00\x001\x00",
	}
	return data
}

func memoriesOfOuts(outs []impl.Out) []memory {
	longer := func(o impl.Out) impl.Out { return impl.Out{P: o.P + 1} }
	all := []memory{memoryOf("outputs", outs, longer, func(a impl.Out, b impl.Out) bool { return a.P == b.P })}
	for _, o := range outs {
		all = append(all, memoryOfTotals("totals", o.L))
	}
	return all
}

func memoryOfNumbers(name string, l []int64) memory {
	return memoryOf(name, l, func(x int64) int64 { return x + 1 }, equal)
}

func memoriesOfActs(acts []impl.Act) []memory {
	other := func(a impl.Act) impl.Act { return impl.Act{Kind: a.Kind + 1} }
	all := []memory{memoryOf("acts", acts, other, func(a impl.Act, b impl.Act) bool { return a.Kind == b.Kind })}
	for _, a := range acts {
		all = append(all, memoryOfTotals("totals of an action", a.Out.L), memoryOfNumbers("keep of an action", a.Keep))
	}
	return all
}

// randomKeep chooses among n operations.
func randomKeep(r *rand.Rand, n int) []int64 {
	return slices.DeleteFunc(allOf(n), func(int64) bool { return r.Intn(3) == 0 })
}
