package tests

import (
	"bytes"
	"math"
	"math/rand"
	"slices"
	"strconv"
	"strings"
	"testing"

	"loop.example/g00630/impl"
)

func TestNumbersOfStores(t *testing.T) {
	got := []int64{impl.StOk, impl.StDisk, impl.StNone, impl.StForm, impl.StFull, impl.StPower, impl.StTorn, impl.StNot, impl.AcNew, impl.AcAdd, impl.AcOpen, impl.AcCrash}
	want := []int64{stOk, stDisk, stNone, stForm, stFull, stPower, stTorn, stNot, acNew, acAdd, acOpen, acCrash}
	if !slices.Equal(got, want) {
		t.Error(got)
	}
}

func TestOutOk(t *testing.T) {
	for name, o := range validOuts() {
		if !impl.OutOk(o) {
			t.Errorf("%s: not valid", name)
		}
	}
	for name, o := range invalidOuts() {
		if impl.OutOk(o) {
			t.Errorf("%s: valid", name)
		}
	}
}

func TestOutBytes(t *testing.T) {
	for _, c := range []struct {
		o    impl.Out
		want string
	}{
		{impl.Out{}, "\x00"},
		{impl.Out{P: 7}, "\x07"},
		{outOf(1, "=0"), "\x01\x00\x00\x000\x00\x00"},
		{outOf(3, "=0 a=999999999999"), "\x03\x00\x00\x000\x00\x00a\x00\x00\x00999999999999\x00\x00"},
		{impl.Out{P: 2, L: []impl.Total{{Key: "a\x00b", N: 10}}}, "\x02a\x00\xffb\x00\x00\x0010\x00\x00"},
		{outOf(0, "kkkkkkkkkkkk=100000000000"), "\x00kkkkkkkkkkkk\x00\x00\x00100000000000\x00\x00"},
	} {
		if got := impl.OutBytes(c.o); got != c.want {
			t.Errorf("%v: got %q, want %q", c.o, got, c.want)
		}
	}
	for name, o := range invalidOuts() {
		if got := impl.OutBytes(o); got != "" {
			t.Errorf("%s: %q", name, got)
		}
	}
}

func TestOutsAreRecovered(t *testing.T) {
	for name, o := range validOuts() {
		s := impl.OutBytes(o)
		if s != outByHand(o) {
			t.Errorf("%s: %q", name, s)
		}
		got, ok := impl.ReadOut(s)
		if !ok || !equalOut(got, o) {
			t.Errorf("%s: %v, %v", name, got, ok)
		}
	}
}

func noOut(t *testing.T, s string) {
	t.Helper()
	got, ok := impl.ReadOut(s)
	if ok || !equalOut(got, impl.Out{}) {
		t.Errorf("%.200q: %v, %v", s, got, ok)
	}
}

func TestReadOutRejects(t *testing.T) {
	for _, s := range []string{"", "\x08", "\x09", "\x80", "\xff", "\x08a\x00\x00\x001\x00\x00", "7", "\x07\x07"} {
		noOut(t, s)
	}
	row := func(key string, tag string, val string) string { return keyByHand(key) + tag + keyByHand(val) }
	for _, tag := range []string{"\x01", "\x02", "\x03", "\x04", "\xff", "", "0"} {
		noOut(t, "\x03"+row("a", tag, "1"))
		noOut(t, "\x03"+row("a", "\x00", "1")+row("b", tag, "1"))
	}
	for _, val := range []string{"", "x", "00", "01", "0000000000", "000000000001", "-1", "-0", "+1", " 1", "1 ", "1.0", "1e3", "0x1", "1_0", "1\x00", "\x00", "１", "1000000000000", "9999999999999", "0999999999999", "/", ":", "12345678901/", "12345678901:"} {
		noOut(t, "\x03"+row("a", "\x00", val))
		noOut(t, "\x03"+row("a", "\x00", "1")+row("b", "\x00", val))
	}
	for _, l := range invalidTotals() {
		noOut(t, outByHand(impl.Out{P: 3, L: l}))
	}
	for _, o := range []impl.Out{outOf(3, "=0 a=999999999999"), {P: 1, L: []impl.Total{{Key: "\x00\x00", N: 10}, {Key: longest()}}}} {
		s := outByHand(o)
		whole := map[int]bool{}
		for k := range o.L {
			whole[len(outByHand(impl.Out{L: o.L[:k]}))] = true
		}
		for n := range s {
			if !whole[n] {
				noOut(t, s[:n])
			}
		}
		for _, more := range []string{"\x00", "\x00\x00", "x", "\xff", "\x00\x00\x00"} {
			noOut(t, s+more)
		}
	}
}

// TestReadOutFindsExactlyTheEncodings changes encodings at random: whatever is still read is encoded as it was.
func TestReadOutFindsExactlyTheEncodings(t *testing.T) {
	r := newRand()
	read := 0
	for range 30000 {
		s := []byte(outByHand(someOuts(maxParts)[r.Intn(4)]))
		for range r.Intn(3) {
			i := r.Intn(len(s))
			switch r.Intn(3) {
			case 0:
				s[i] = "\x00\x01\xff0198ak"[r.Intn(9)]
			case 1:
				s = slices.Delete(s, i, i+1)
			case 2:
				s = slices.Insert(s, i, "\x00\x01\xff0198ak"[r.Intn(9)])
			}
			if len(s) == 0 {
				break
			}
		}
		o, ok := impl.ReadOut(string(s))
		if !ok {
			noOut(t, string(s))
			continue
		}
		read++
		if outByHand(o) != string(s) || !impl.OutOk(o) || impl.OutBytes(o) != string(s) {
			t.Errorf("%q read as %v", s, o)
		}
	}
	if read < 1000 {
		t.Errorf("only %d read", read)
	}
}

func TestFrameOf(t *testing.T) {
	if got := impl.FrameOf("abc"); got != "\x00\x00\x00\x03\xc2\x41\x24\x35abc" {
		t.Errorf("%q", got)
	}
	if got := impl.FrameOf(""); got != strings.Repeat("\x00", 8) {
		t.Errorf("%q", got)
	}
	var all []byte
	for i := range maxFrame {
		all = append(all, byte(i*i>>3))
	}
	for _, n := range []int{0, 1, 2, 3, 4, 7, 8, 9, 255, 256, 257, 4097, 65535, 65536, 65537, maxFrame - 1, maxFrame} {
		if data := string(all[:n]); impl.FrameOf(data) != frameByHand(data) {
			t.Errorf("%d bytes: %q", n, impl.FrameOf(data)[:frameHead])
		}
	}
	for c := range 256 {
		if data := string([]byte{byte(c)}); impl.FrameOf(data) != frameByHand(data) {
			t.Errorf("byte %d: %q", c, impl.FrameOf(data))
		}
	}
	for _, n := range []int{maxFrame + 1, maxFrame + 2, 2 * maxFrame, 10 * maxFrame} {
		if got := impl.FrameOf(strings.Repeat("x", n)); got != "" {
			t.Errorf("%d bytes: %.20q", n, got)
		}
	}
}

// sameFrames checks that a text begins with exactly these frames.
func sameFrames(t *testing.T, what string, s string, want ...string) {
	t.Helper()
	got, n := impl.TakeFrames(s)
	size := 0
	for _, data := range want {
		size += frameHead + len(data)
	}
	if !slices.Equal(got, want) || n != int64(size) {
		t.Errorf("%s: %d frames, %d bytes, want %d, %d", what, len(got), n, len(want), size)
	}
}

func TestTakeFrames(t *testing.T) {
	x := frameByHand("abc")
	sameFrames(t, "nothing", "")
	sameFrames(t, "one", x, "abc")
	sameFrames(t, "two and a byte", x+x+"x", "abc", "abc")
	sameFrames(t, "without data", frameByHand("")+x+frameByHand(""), "", "abc", "")
	sameFrames(t, "frame in a frame", frameByHand(x)+x, x, "abc")
	for k := range len(x) {
		sameFrames(t, "truncated", x[:k])
		sameFrames(t, "truncated, third", x+frameByHand("")+x[:k], "abc", "")
	}
	for k := range 8 * len(x) {
		wrong := []byte(x)
		wrong[k/8] ^= 1 << (k % 8)
		sameFrames(t, "wrong bit", string(wrong))
		sameFrames(t, "wrong bit before others", string(wrong)+x+x)
		sameFrames(t, "wrong bit behind another", x+string(wrong)+x, "abc")
	}
	for _, more := range []string{"x", "\x00", "\x00\x00\x00\x03", "\xff\xff\xff\xff\xff\xff\xff\xff\xff", "\x80\x00\x00\x00\x00\x00\x00\x00", "\x00\x00\x00\x00\x01\x00\x00\x00"} {
		sameFrames(t, "bytes behind", x+more, "abc")
		sameFrames(t, "bytes before", more+x)
	}
	sameFrames(t, "seven zeros behind", x+strings.Repeat("\x00", 7), "abc")
	sameFrames(t, "eight zeros behind", x+strings.Repeat("\x00", 8), "abc", "")
	sameFrames(t, "byte order of the length", "\x03\x00\x00\x00"+x[4:])
	sameFrames(t, "byte order of the check sum", "\x00\x00\x00\x03\x35\x24\x41\xc2abc")
}

func TestTakeFramesOfLongData(t *testing.T) {
	most, more := strings.Repeat("m", maxFrame), strings.Repeat("m", maxFrame+1)
	sameFrames(t, "longest", frameByHand(most)+frameByHand("x"), most, "x")
	sameFrames(t, "too long", frameByHand(more)+frameByHand("x"))
	sameFrames(t, "too long behind another", frameByHand("x")+frameByHand(more), "x")
	sameFrames(t, "longest, truncated", frameByHand(most)[:maxFrame+frameHead-1])
	sameFrames(t, "longer than two bytes tell", frameByHand(most[:65536])+frameByHand(""), most[:65536], "")
	wrong := []byte(frameByHand(most))
	wrong[len(wrong)-1] ^= 1
	sameFrames(t, "longest, wrong", string(wrong))
	var many []string
	for i := range 1000 {
		many = append(many, strconv.Itoa(i))
	}
	text := ""
	for _, data := range many {
		text += frameByHand(data)
	}
	sameFrames(t, "many", text+"\x00\x00", many...)
}

func TestFramesAreRecovered(t *testing.T) {
	r := newRand()
	for range 300 {
		var all []string
		text := ""
		for range r.Intn(6) {
			data := randomText(r, 20)
			all = append(all, data)
			text += impl.FrameOf(data)
		}
		sameFrames(t, "frames", text, all...)
		sameFrames(t, "frames and a byte", text+"\xff", all...)
	}
}

func TestStoreView(t *testing.T) {
	outs := someOuts(maxParts)
	for n := range maxParts + 1 {
		sameOuts(t, "complete", viewed(t, withLog(logOf(outs[:n]...))), outs[:n])
	}
	back := reversedOuts(outs)
	sameOuts(t, "in the order of the log", viewed(t, withLog(logOf(back...))), back)
	for name, o := range validOuts() {
		sameOuts(t, name, viewed(t, withLog(logOf(o))), []impl.Out{o})
	}
	for name, l := range tornLogs() {
		sameOuts(t, name, viewed(t, withLog(l.text())), l.counts)
	}
	for _, d := range []impl.Disk{{}, synced(filesOf("a=1")), synced([]impl.File{{Name: "log.new", Data: logOf(outs...)}}), synced([]impl.File{{Name: "Log"}}), {Safe: filesOf("log="), Ops: []impl.DOp{remove("log")}}} {
		if got, code := impl.StoreView(d); code != stNone || len(got) != 0 {
			t.Errorf("no log: %v, %d", got, code)
		}
	}
	unsafe := onDisk(t, synced(filesOf("a=1")), appendTo("log", logOf(outs[:2]...)))
	sameOuts(t, "not synchronized", viewed(t, unsafe), outs[:2])
}

func reversedOuts(outs []impl.Out) []impl.Out {
	l := slices.Clone(outs)
	slices.Reverse(l)
	return l
}

func TestRejectedDisksOfStores(t *testing.T) {
	acts := []impl.Act{newLog(), add(impl.Out{}), openLog(), lose(nil, 0), {Kind: 9}, add(impl.Out{P: 9}), withPower(newLog(), 0), lose([]int64{-1}, -1)}
	for name, d := range invalidDisks() {
		if got, code := impl.StoreView(d); code != stDisk || len(got) != 0 {
			t.Errorf("%s: StoreView: %v, %d", name, got, code)
		}
		for n, a := range acts {
			got, code := impl.StoreDo(d, a)
			if code != stDisk {
				t.Errorf("%s: StoreDo: code %d", name, code)
			}
			noDisk(t, name, got)
			got, codes := impl.StorePlay(d, acts[:n])
			if len(codes) != 0 {
				t.Errorf("%s: StorePlay: codes %v", name, codes)
			}
			noDisk(t, name, got)
		}
	}
}

// TestMostOuts has 100 frames, and one more, with the right numbers. As there are eight parts, the ninth has one of a preceding output, so that it is the first that does not count.
func TestMostOuts(t *testing.T) {
	for _, n := range []int{maxParts, maxParts + 1, maxOuts - 1, maxOuts, maxOuts + 1, 2 * maxOuts} {
		log := ""
		var outs []impl.Out
		for i := range n {
			o := outOf(int64(i%maxParts), "n="+strconv.Itoa(i))
			outs = append(outs, o)
			log += numbered(i, o)
		}
		d := withLog(log)
		sameOuts(t, "most outputs", viewed(t, d), outs[:maxParts])
		for p := range int64(maxParts) {
			want := int64(stTorn)
			if n == maxParts {
				want = stNot
			}
			refusedAct(t, "one more", d, add(outOf(p, "")), want)
		}
		sameDisk(t, "opened", stored(t, d, openLog()), withLog(logOf(outs[:maxParts]...)))
	}
}

func TestNewLog(t *testing.T) {
	for _, d := range []impl.Disk{{}, synced(filesOf("a=1 z=2")), synced(filesOf("log.new=x")), onDisk(t, synced(filesOf("a=1")), appendTo("a", "2")), onDisk(t, synced(filesOf("log=")), remove("log"))} {
		testSteps(t, "new", d, newLog(), d, doing(t, appendTo("log", "")), impl.Sync)
		sameOuts(t, "new", viewed(t, stored(t, d, newLog())), nil)
	}
	sameDisk(t, "new", stored(t, impl.Disk{}, newLog()), synced(filesOf("log=")))
	for _, d := range []impl.Disk{synced(filesOf("log=")), withLog(logOf(someOuts(3)...)), withLog("torn"), onDisk(t, impl.Disk{}, appendTo("log", ""))} {
		refusedAct(t, "there is a log", d, newLog(), stForm)
	}
}

func TestNewLogWithoutRoom(t *testing.T) {
	for name, d := range map[string]impl.Disk{"files": synced(manyFiles(maxFiles)), "operations": unsynced(nil, maxOps), "both": unsynced(manyFiles(maxFiles-1), maxOps)} {
		for _, power := range []int64{-1, 1, 2} {
			sameDisk(t, name, acted(t, d, withPower(newLog(), power), stFull), d)
		}
		sameDisk(t, name+", no power", acted(t, d, withPower(newLog(), 0), stPower), d)
	}
	stored(t, synced(manyFiles(maxFiles-1)), newLog())
	stored(t, unsynced(nil, maxOps-1), newLog())
	stored(t, synced([]impl.File{{Name: "a", Data: strings.Repeat("x", maxBytes)}}), newLog())
}

func TestAdd(t *testing.T) {
	outs := someOuts(maxParts)
	for n, o := range outs {
		frame := doing(t, appendTo("log", numbered(n, o)))
		log := logOf(outs[:n]...)
		for _, d := range []impl.Disk{withLog(log), withLog(log, impl.File{Name: "log.new", Data: "x"}), onDisk(t, withLog(""), appendTo("log", log), appendTo("a", "x"))} {
			testSteps(t, "without Sync", d, add(o), d, frame)
			testSteps(t, "with Sync", d, addSynced(o), d, frame, impl.Sync)
			sameOuts(t, "added", viewed(t, stored(t, d, add(o))), outs[:n+1])
			for _, other := range outs[:n] {
				refusedAct(t, "part is there", d, add(other), stNot)
				refusedAct(t, "part is there", d, addSynced(outOf(other.P, "other=1")), stNot)
			}
		}
	}
	for name, o := range validOuts() {
		d := stored(t, withLog(logOf(outOf((o.P+1)%maxParts, "a=1"))), add(o))
		if got := viewed(t, d); len(got) != 2 || !equalOut(got[1], o) {
			t.Errorf("%s: %v", name, got)
		}
	}
}

func TestAddRejects(t *testing.T) {
	for name, o := range invalidOuts() {
		refusedAct(t, name, withLog(logOf(someOuts(2)...)), add(o), stForm)
		refusedAct(t, name+", torn", withLog("torn"), addSynced(o), stForm)
		refusedAct(t, name+", no log", synced(filesOf("a=1 log.new=")), add(o), stNone)
	}
	for name, l := range tornLogs() {
		refusedAct(t, name, withLog(l.text()), add(outOf(7, "a=1")), stTorn)
		for _, o := range l.counts {
			refusedAct(t, name+", part is there", withLog(l.text()), addSynced(o), stTorn)
		}
	}
	for _, d := range []impl.Disk{{}, synced(filesOf("a=1 z=2")), synced(filesOf("log.new=")), onDisk(t, withLog(""), remove("log"))} {
		refusedAct(t, "no log", d, add(impl.Out{}), stNone)
	}
}

func TestAddWithoutRoom(t *testing.T) {
	o := someOuts(4)[3]
	frame := numbered(0, o)
	rest := strings.Repeat("x", maxBytes-len(frame))
	full := synced([]impl.File{{Name: "a", Data: rest + "x"}, {Name: "log"}})
	for name, d := range map[string]impl.Disk{"bytes": full, "operations": unsynced(filesOf("log="), maxOps)} {
		for _, a := range []impl.Act{add(o), addSynced(o)} {
			for _, power := range []int64{-1, 1, 2} {
				sameDisk(t, name, acted(t, d, withPower(a, power), stFull), d)
			}
			sameDisk(t, name+", no power", acted(t, d, withPower(a, 0), stPower), d)
		}
	}
	d := synced([]impl.File{{Name: "a", Data: rest}, {Name: "log"}})
	testSteps(t, "just enough bytes", d, addSynced(o), d, doing(t, appendTo("log", frame)), impl.Sync)
	d = unsynced(filesOf("log="), maxOps-1)
	testSteps(t, "just enough operations", d, addSynced(o), d, doing(t, appendTo("log", frame)), impl.Sync)
	there := unsynced([]impl.File{{Name: "log", Data: frame}}, maxOps)
	refusedAct(t, "part is there, most operations", there, add(o), stNot)
}

func TestOpenOfACompleteLog(t *testing.T) {
	for n := range maxParts + 1 {
		log := logOf(someOuts(maxParts)[:n]...)
		for _, d := range []impl.Disk{withLog(log), withLog(log, impl.File{Name: "log.new", Data: "x"}), onDisk(t, withLog(""), appendTo("log", log), appendTo("a", "x"))} {
			testSteps(t, "complete", d, openLog(), d)
		}
	}
	refusedAct(t, "most operations", unsynced(filesOf("log="), maxOps), openLog(), stOk)
	for _, d := range []impl.Disk{{}, synced(filesOf("a=1 z=2")), synced(filesOf("log.new=x")), onDisk(t, withLog("torn"), remove("log"))} {
		refusedAct(t, "no log", d, openLog(), stNone)
	}
}

func TestOpenOfATornLog(t *testing.T) {
	for name, l := range tornLogs() {
		counts := logOf(l.counts...)
		for _, d := range []impl.Disk{
			withLog(l.text()),
			withLog(l.text(), impl.File{Name: "log.new"}),
			withLog(l.text(), impl.File{Name: "log.new", Data: logOf(someOuts(4)...)}),
			onDisk(t, withLog(""), appendTo("log", l.text()), appendTo("log.new", "x"), appendTo("a", "x")),
		} {
			testSteps(t, name, d, openLog(), d, openingSteps(t, d, counts)...)
			got := stored(t, d, openLog())
			sameOuts(t, name, viewed(t, got), l.counts)
			sameDisk(t, name+" again", stored(t, got, openLog()), got)
			o := outOf(0, "a=1")
			sameOuts(t, name+" and one more", viewed(t, stored(t, got, add(o))), append(slices.Clone(l.counts), o))
		}
		sameDisk(t, name, stored(t, withLog(l.text()), openLog()), withLog(counts))
	}
}

func TestOpenWithoutRoom(t *testing.T) {
	torn := someOuts(3)
	log := logOf(torn...) + "x"
	for _, c := range []struct {
		files []impl.File
		need  int
	}{
		{[]impl.File{{Name: "log", Data: log}}, 1},
		{[]impl.File{{Name: "log", Data: log}, {Name: "log.new", Data: "x"}}, 2},
	} {
		for left := range 4 {
			d := unsynced(c.files, maxOps-left)
			if left >= c.need {
				testSteps(t, "just enough operations", d, openLog(), d, openingSteps(t, d, logOf(torn...))...)
				continue
			}
			for _, power := range []int64{-1, int64(left) + 1, 9} {
				sameDisk(t, "too few operations left", acted(t, d, withPower(openLog(), power), stFull), d)
			}
			got := acted(t, d, withPower(openLog(), int64(left)), stPower)
			if len(got.Ops) != maxOps {
				t.Errorf("%d operations", len(got.Ops))
			}
		}
	}
	files := append(manyFiles(maxFiles-1), impl.File{Name: "log", Data: log})
	sameDisk(t, "most files", acted(t, synced(files), openLog(), stFull), synced(files))
	stored(t, synced(files[1:]), openLog())
	stored(t, synced(append(slices.Clone(files[1:]), impl.File{Name: "log.new"})), openLog())
	rest := strings.Repeat("x", maxBytes-len(log)-len(log)+1)
	full := synced([]impl.File{{Name: "a", Data: rest + "x"}, {Name: "log", Data: log}})
	sameDisk(t, "most bytes", acted(t, full, openLog(), stFull), full)
	stored(t, synced([]impl.File{{Name: "a", Data: rest}, {Name: "log", Data: log}}), openLog())
	stored(t, synced([]impl.File{{Name: "a", Data: rest}, {Name: "log", Data: log}, {Name: "log.new", Data: "x"}}), openLog())
}

func TestLoss(t *testing.T) {
	outs := someOuts(3)
	d := stored(t, impl.Disk{}, newLog(), add(outs[0]), add(outs[1]), add(outs[2]))
	for _, c := range []struct {
		keep []int64
		torn int64
		want int
	}{{[]int64{0, 1}, 99, 2}, {[]int64{1}, 99, 0}, {[]int64{0, 1, 2}, 9, 2}, {[]int64{0, 1, 2}, 99, 3}, {nil, 99, 0}, {[]int64{0}, 0, 0}, {[]int64{0}, 99, 1}, {[]int64{0, 2}, 99, 1}, {[]int64{0, 1}, 0, 1}} {
		got := stored(t, d, lose(c.keep, c.torn))
		sameDisk(t, "opened", got, synced([]impl.File{{Name: "log", Data: logOf(outs[:c.want]...)}}))
	}
}

func TestLossThenOpen(t *testing.T) {
	outs := someOuts(4)
	base := stored(t, withLog(logOf(outs[0]), impl.File{Name: "b", Data: "3"}), add(outs[1]), add(outs[2]))
	for _, d := range []impl.Disk{base, onDisk(t, base, rename("b", "log.new"), appendTo("log.new", "x")), onDisk(t, impl.Sync(base), appendTo("log", "torn"), remove("a"))} {
		for _, keep := range subsets(len(d.Ops)) {
			for _, torn := range tornLengths(d, keep) {
				start := crashed(t, d, keep, torn)
				counts := logOf(viewed(t, start)...)
				steps := openingSteps(t, start, counts)
				if log, _ := impl.ReadFile(start, "log"); log == counts {
					steps = nil
				}
				testSteps(t, "lost", d, lose(keep, torn), start, steps...)
			}
		}
	}
}

func TestLossRejects(t *testing.T) {
	for name, d := range map[string]impl.Disk{
		"log":    stored(t, withLog(""), add(someOuts(1)[0]), add(someOuts(2)[1])),
		"torn":   onDisk(t, withLog("torn"), appendTo("a", "x"), appendTo("a", "y")),
		"no log": onDisk(t, synced(filesOf("a=1")), appendTo("a", "x"), appendTo("b", "x")),
	} {
		for _, keep := range [][]int64{{-1}, {2}, {0, 0}, {1, 0}, {0, 1, 2}, {math.MaxInt64}, {math.MinInt64}} {
			refusedAct(t, name, d, lose(keep, 9), stForm)
		}
		for _, torn := range []int64{-1, math.MinInt64} {
			refusedAct(t, name, d, lose([]int64{0}, torn), stForm)
			refusedAct(t, name, d, lose(nil, torn), stForm)
		}
	}
	many := onDisk(t, synced(append(manyFiles(maxFiles-1), impl.File{Name: "log"})), remove("f100"), appendTo("g", ""))
	refusedAct(t, "too many files", many, lose([]int64{1}, 9), stForm)
}

// TestLossOfTheLog has the disk after Crash, not the one before.
func TestLossOfTheLog(t *testing.T) {
	for _, c := range []struct {
		d    impl.Disk
		keep []int64
	}{
		{impl.Disk{}, nil},
		{synced(filesOf("a=1 log.new=x")), nil},
		{acted(t, synced(filesOf("a=1")), withPower(newLog(), 1), stPower), nil},
		{onDisk(t, withLog(logOf(someOuts(2)...)), remove("log"), appendTo("a", "x"), appendTo("log", "")), []int64{0, 1}},
		{onDisk(t, withLog(logOf(someOuts(2)...)), rename("log", "a"), appendTo("log", "")), []int64{0}},
	} {
		for _, power := range []int64{-1, 0, 1, 5} {
			got := acted(t, c.d, withPower(lose(c.keep, 9), power), stNone)
			sameDisk(t, "no log", got, crashed(t, c.d, c.keep, 9))
		}
	}
}

func TestLossWithoutRoom(t *testing.T) {
	files := append(manyFiles(maxFiles-1), impl.File{Name: "log", Data: logOf(someOuts(2)...)})
	d := onDisk(t, synced(files), appendTo("log", "torn"), remove("f100"))
	for _, power := range []int64{-1, 1, 9} {
		got := acted(t, d, withPower(lose([]int64{0}, 9), power), stFull)
		sameDisk(t, "most files", got, crashed(t, d, []int64{0}, 9))
	}
	sameDisk(t, "no power", acted(t, d, withPower(lose([]int64{0}, 9), 0), stPower), crashed(t, d, []int64{0}, 9))
	sameOuts(t, "room", viewed(t, stored(t, d, lose([]int64{0, 1}, 9))), someOuts(2))
}

func TestKindsOfActs(t *testing.T) {
	for _, kind := range invalidActs() {
		for _, d := range []impl.Disk{{}, withLog(""), withLog("torn"), unsynced(filesOf("log=torn"), maxOps)} {
			refusedAct(t, "kind", d, impl.Act{Kind: kind, Keep: []int64{-1}, Out: impl.Out{P: 9}}, stForm)
			refusedAct(t, "kind", d, impl.Act{Kind: kind}, stForm)
		}
	}
}

// TestFieldsThatAnActionDoesNotUse has such that other actions would reject.
func TestFieldsThatAnActionDoesNotUse(t *testing.T) {
	spoil := func(a impl.Act) impl.Act {
		if a.Kind != acAdd {
			a.Out, a.Sync = impl.Out{P: 9, L: totalsOf("b=1 a=1")}, true
		}
		if a.Kind != acCrash {
			a.Keep, a.Torn = []int64{5, -1}, -1
		}
		return a
	}
	for _, a := range []impl.Act{newLog(), add(someOuts(1)[0]), openLog(), lose(nil, 0)} {
		for _, d := range []impl.Disk{{}, withLog(""), withLog("torn"), onDisk(t, withLog(""), appendTo("log", "torn"))} {
			want, wantCode := impl.StoreDo(d, a)
			got, code := impl.StoreDo(d, spoil(a))
			sameDisk(t, "other fields", got, want)
			if code != wantCode {
				t.Errorf("kind %d: code %d, want %d", a.Kind, code, wantCode)
			}
		}
	}
}

func TestStorePlay(t *testing.T) {
	outs := someOuts(3)
	d := stored(t, impl.Disk{}, newLog(), add(outs[0]), add(outs[1]), add(outs[2]))
	for _, c := range []struct {
		acts  []impl.Act
		codes []int64
		want  impl.Disk
	}{
		{nil, nil, d},
		{[]impl.Act{}, nil, d},
		{[]impl.Act{openLog(), {Kind: 9, Power: -1}}, []int64{stOk, stForm}, d},
		{[]impl.Act{newLog(), add(outs[0]), add(impl.Out{P: 8}), lose([]int64{0}, 99), add(outs[0]), addSynced(outs[2]), withPower(add(outs[1]), 0)}, []int64{stForm, stNot, stForm, stOk, stNot, stOk, stPower}, synced([]impl.File{{Name: "log", Data: logOf(outs[0], outs[2])}})},
		{[]impl.Act{lose([]int64{0, 1}, 9), withPower(addSynced(outs[1]), 1), openLog()}, []int64{stOk, stPower, stOk}, onDisk(t, synced([]impl.File{{Name: "log", Data: logOf(outs[0])}}), appendTo("log", numbered(1, outs[1])))},
	} {
		got, codes := impl.StorePlay(d, c.acts)
		if !slices.Equal(codes, c.codes) {
			t.Errorf("codes %v, want %v", codes, c.codes)
		}
		sameDisk(t, "played", got, c.want)
	}
	for name, d := range validDisks() {
		got, codes := impl.StorePlay(d, nil)
		if len(codes) != 0 {
			t.Errorf("%s: codes %v", name, codes)
		}
		sameDisk(t, name, got, d)
	}
}

// TestStorePlayOfManyActs has no limit.
func TestStorePlayOfManyActs(t *testing.T) {
	d := stored(t, impl.Disk{}, newLog(), add(someOuts(1)[0]))
	acts := slices.Repeat([]impl.Act{openLog(), add(impl.Out{P: 1}), {Kind: 9}}, 1000)
	got, codes := impl.StorePlay(d, acts)
	if !slices.Equal(codes, slices.Repeat([]int64{stOk, stNot, stForm}, 1000)) {
		t.Errorf("%d codes", len(codes))
	}
	sameDisk(t, "played", got, d)
}

// randomActs returns a function that draws actions, outputs more often than others.
func randomActs(r *rand.Rand) func(d impl.Disk) impl.Act {
	return func(d impl.Disk) impl.Act {
		a := impl.Act{Kind: int64(r.Intn(5)), Out: someOuts(maxParts)[r.Intn(maxParts)], Sync: r.Intn(3) == 0, Power: int64(r.Intn(8)) - 2, Torn: int64(r.Intn(40))}
		if r.Intn(2) == 0 {
			a.Kind = acAdd
		}
		a.Keep = randomKeep(r, len(d.Ops))
		return a
	}
}

func TestStorePlayAgreesWithActs(t *testing.T) {
	next := randomActs(newRand())
	for range 60 {
		d := impl.Disk{}
		var acts []impl.Act
		var want []int64
		for range 25 {
			a := next(d)
			after, code := impl.StoreDo(d, a)
			d, acts, want = after, append(acts, a), append(want, code)
		}
		got, codes := impl.StorePlay(impl.Disk{}, acts)
		sameDisk(t, "played", got, d)
		if !slices.Equal(codes, want) {
			t.Fatalf("codes %v, want %v", codes, want)
		}
	}
}

// isPrefix reports whether the outputs of a are the first ones of b.
func isPrefix(a []impl.Out, b []impl.Out) bool {
	return len(a) <= len(b) && slices.EqualFunc(a, b[:len(a)], equalOut)
}

// testLosses loses power with each choice of what is kept, and checks that the log has what was synchronized and a prefix of what came after it.
func testLosses(t *testing.T, d impl.Disk, safe []impl.Out, all []impl.Out, then func(after impl.Disk, a impl.Act)) {
	t.Helper()
	for _, keep := range subsets(len(d.Ops)) {
		for _, torn := range tornLengths(d, keep) {
			a := lose(keep, torn)
			got := stored(t, d, a)
			outs := viewed(t, got)
			if !isPrefix(safe, outs) || !isPrefix(outs, all) {
				t.Fatalf("keep %v, torn %d: %s, synchronized %s, of %s", keep, torn, brief(outs), brief(safe), brief(all))
			}
			if log, _ := impl.ReadFile(got, "log"); log != logOf(outs...) {
				t.Fatalf("not complete: %q", log)
			}
			if len(keep) == len(d.Ops) && torn == math.MaxInt64 {
				sameOuts(t, "all kept", outs, all)
			}
			if len(keep) == 0 {
				sameOuts(t, "none kept", outs, safe)
			}
			then(got, a)
		}
	}
}

// TestPromise11LossBetweenAnyTwoSteps adds outputs, each with or without Sync, and loses power after each step of each action.
func TestPromise11LossBetweenAnyTwoSteps(t *testing.T) {
	outs := someOuts(5)
	nothing := func(impl.Disk, impl.Act) {}
	for _, which := range textsOf("01", len(outs)) {
		d := stored(t, impl.Disk{}, newLog())
		safe := 0
		for i := range which {
			a := impl.Act{Kind: acAdd, Out: outs[i], Sync: which[i] == '1'}
			testLosses(t, acted(t, d, a, stPower), outs[:safe], outs[:i], nothing)
			a.Power = 1
			if a.Sync {
				testLosses(t, acted(t, d, a, stPower), outs[:safe], outs[:i+1], nothing)
				safe = i + 1
			}
			d = stored(t, d, withPower(a, -1))
		}
		testLosses(t, d, outs[:safe], outs[:len(which)], nothing)
	}
}

// TestPromise11LossWhileTheLogIsOpened loses power again after each step of AcOpen: what the log had then, it keeps.
func TestPromise11LossWhileTheLogIsOpened(t *testing.T) {
	outs := someOuts(4)
	for _, more := range [][]impl.File{nil, {{Name: "log.new", Data: logOf(outs[3])}}, {{Name: "log.new", Data: "x"}}} {
		d := stored(t, withLog(logOf(outs[0]), more...), add(outs[1]), add(outs[2]), add(outs[3]))
		testLosses(t, d, outs[:1], outs, func(after impl.Disk, a impl.Act) {
			has := viewed(t, after)
			for power := int64(0); ; power++ {
				middle, code := impl.StoreDo(d, withPower(a, power))
				testLosses(t, middle, has, has, func(impl.Disk, impl.Act) {})
				if code == stOk {
					return
				}
				if code != stPower || power > 5 {
					t.Fatalf("code %d with power %d", code, power)
				}
				sameOuts(t, "opened at last", viewed(t, stored(t, middle, openLog())), has)
			}
		})
	}
}

// TestPromise11LossWhileTheLogIsNew may leave no log, but none with outputs.
func TestPromise11LossWhileTheLogIsNew(t *testing.T) {
	for power := range int64(3) {
		d, _ := impl.StoreDo(synced(filesOf("a=1")), withPower(newLog(), power))
		for _, keep := range subsets(len(d.Ops)) {
			got, code := impl.StoreDo(d, lose(keep, 9))
			if code != stOk && code != stNone || code == stNone && power == 2 {
				t.Errorf("code %d with power %d", code, power)
			}
			if code == stNone {
				got = stored(t, got, newLog())
			}
			sameOuts(t, "new", viewed(t, got), nil)
		}
	}
}

// TestPromise11RandomActs follows the outputs of the log through actions that may lose power at any step.
func TestPromise11RandomActs(t *testing.T) {
	losses := 0
	next := randomActs(newRand())
	for range 300 {
		d := stored(t, impl.Disk{}, newLog())
		var safe, all []impl.Out
		for range 20 {
			a := next(d)
			got, code := impl.StoreDo(d, a)
			outs := viewed(t, got)
			added := a.Kind == acAdd && (code == stOk || code == stPower && a.Power == 1)
			if added {
				all = append(slices.Clone(all), a.Out)
			}
			if lost := a.Kind == acCrash && code != stForm; lost {
				losses++
				if !isPrefix(safe, outs) || !isPrefix(outs, all) {
					t.Fatalf("%s, synchronized %s, of %s", brief(outs), brief(safe), brief(all))
				}
				safe, all = outs, outs
			}
			sameOuts(t, "log", outs, all)
			if added && a.Sync && code == stOk {
				safe = all
			}
			for i, o := range outs {
				if slices.ContainsFunc(outs[:i], func(x impl.Out) bool { return x.P == o.P }) {
					t.Fatalf("a part has two outputs: %s", brief(outs))
				}
			}
			d = got
		}
	}
	if losses < 300 {
		t.Errorf("only %d losses", losses)
	}
}

// someActs has spare capacity in each list.
func someActs() []impl.Act {
	acts := []impl.Act{newLog(), add(someOuts(4)[3]), addSynced(outOf(7, "a=1 b=2")), add(impl.Out{P: 9}), openLog(), lose([]int64{0}, 3), lose([]int64{0, 1}, 9), lose([]int64{-1}, 9), withPower(openLog(), 2), {Kind: 9}}
	for i := range acts {
		acts[i].Out.L = roomy(acts[i].Out.L, impl.Total{Key: "spare"})
		acts[i].Keep = roomy(acts[i].Keep, 77)
	}
	return roomy(acts, impl.Act{Kind: 77})
}

func someStores(t *testing.T) map[string]impl.Disk {
	t.Helper()
	disks := map[string]impl.Disk{"zero": {}, "no log": mixedDisk(), "not valid": {Live: filesOf("a=1")}, "not valid, with a log": {Live: filesOf("log="), Safe: filesOf("a=1 log=")}}
	for n := range 5 {
		outs := someOuts(n)
		d := withLog(logOf(outs...), impl.File{Name: "log.new", Data: "x"})
		name := strconv.Itoa(n) + " outputs"
		disks[name] = d
		disks[name+", torn"] = onDisk(t, d, appendTo("log", "torn"))
		disks[name+", not synchronized"] = stored(t, d, add(outOf(0, "x=1")), add(outOf(3, "y=1")))
	}
	return disks
}

// TestStoresModifyNothingAndShareNoMemory has spare capacity in each argument, which no function may write to either.
func TestStoresModifyNothingAndShareNoMemory(t *testing.T) {
	for name, d := range someStores(t) {
		d = copiedDisk(d)
		acts := someActs()
		arguments := append(memoriesOfDisk(d), memoriesOfActs(acts)...)
		outs, _ := impl.StoreView(d)
		testLists(t, name+": StoreView", memoriesOfOuts(outs), arguments)
		for _, a := range acts {
			got, _ := impl.StoreDo(d, a)
			testLists(t, name+": StoreDo", memoriesOfDisk(got), arguments)
		}
		for n := range acts {
			got, codes := impl.StorePlay(d, acts[:n])
			testLists(t, name+": StorePlay", append(memoriesOfDisk(got), memoryOfNumbers("codes", codes)), arguments)
		}
	}
}

func TestOutsModifyNothingAndShareNoMemory(t *testing.T) {
	for name, o := range validOuts() {
		o.L = roomy(o.L, impl.Total{Key: "spare"})
		arguments := []memory{memoryOfTotals("totals", o.L)}
		impl.OutOk(o)
		impl.OutBytes(o)
		got, _ := impl.ReadOut(outByHand(o))
		testLists(t, name, []memory{memoryOfTotals("totals read", got.L)}, arguments)
	}
	for name, o := range invalidOuts() {
		o.L = roomy(o.L, impl.Total{Key: "spare"})
		arguments := []memory{memoryOfTotals("totals", o.L)}
		impl.OutOk(o)
		impl.OutBytes(o)
		untouched(t, name, arguments)
	}
}

// TestFramesAreNotBytesOfTheirText changes the bytes that a text was made of.
func TestFramesAreNotBytesOfTheirText(t *testing.T) {
	memory := []byte(frameByHand("abc") + frameByHand("de"))
	frames, _ := impl.TakeFrames(string(memory))
	copy(memory, bytes.Repeat([]byte("x"), len(memory)))
	if !slices.Equal(frames, []string{"abc", "de"}) {
		t.Errorf("%q", frames)
	}
}

func TestEqualArgumentsYieldEqualStores(t *testing.T) {
	for name, d := range someStores(t) {
		again := copiedDisk(d)
		for range 5 {
			outs, code := impl.StoreView(again)
			want, wantCode := impl.StoreView(d)
			sameOuts(t, name, outs, want)
			if code != wantCode {
				t.Errorf("%s: StoreView: code %d, then %d", name, wantCode, code)
			}
			for i, a := range someActs() {
				got, code := impl.StoreDo(again, a)
				want, wantCode := impl.StoreDo(d, someActs()[i])
				sameDisk(t, name, got, want)
				if code != wantCode {
					t.Errorf("%s: StoreDo: code %d, then %d", name, wantCode, code)
				}
			}
			got, codes := impl.StorePlay(again, someActs())
			wanted, wantedCodes := impl.StorePlay(d, someActs())
			sameDisk(t, name, got, wanted)
			if !slices.Equal(codes, wantedCodes) {
				t.Errorf("%s: StorePlay: codes %v, then %v", name, wantedCodes, codes)
			}
		}
	}
}
