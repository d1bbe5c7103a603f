package tests

import (
	"math"
	"slices"
	"strconv"
	"strings"
	"testing"

	"loop.example/g00630/impl"
)

func TestNumbersOfDisks(t *testing.T) {
	got := []int64{impl.DkAppend, impl.DkRename, impl.DkRemove, impl.DkOk, impl.DkDisk, impl.DkForm, impl.DkNone, impl.DkFull, impl.MaxFiles, impl.MaxBytes, impl.MaxOps}
	want := []int64{dkAppend, dkRename, dkRemove, dkOk, dkDisk, dkForm, dkNone, dkFull, maxFiles, maxBytes, maxOps}
	if !slices.Equal(got, want) {
		t.Error(got)
	}
}

func TestDiskOk(t *testing.T) {
	for name, d := range validDisks() {
		if !impl.DiskOk(d) {
			t.Errorf("%s: not valid", name)
		}
		if !impl.DiskOk(copiedDisk(d)) {
			t.Errorf("%s: not valid with spare capacity", name)
		}
	}
	for name, d := range invalidDisks() {
		if impl.DiskOk(d) {
			t.Errorf("%s: valid", name)
		}
	}
}

// TestRejectedDisks has the fixed result of each function, whatever its other arguments are.
func TestRejectedDisks(t *testing.T) {
	ops := []impl.DOp{appendTo("a", "x"), rename("a", "b"), remove("a"), remove("none"), {}, {Kind: 9, Name: "a"}}
	for name, d := range invalidDisks() {
		for _, op := range ops {
			got, code := impl.Do(d, op)
			if code != dkDisk {
				t.Errorf("%s: Do: code %d", name, code)
			}
			noDisk(t, name, got)
		}
		noDisk(t, name, impl.Sync(d))
		for _, keep := range [][]int64{nil, {0}, {-1}} {
			got, ok := impl.Crash(d, keep, 0)
			if ok {
				t.Errorf("%s: Crash", name)
			}
			noDisk(t, name, got)
		}
		if data, ok := impl.ReadFile(d, "a"); ok || data != "" {
			t.Errorf("%s: ReadFile: %q, %v", name, data, ok)
		}
		for _, file := range []string{"a", "", nameOf(maxName)} {
			got, code := impl.Replace(d, file, "x")
			if code != dkDisk {
				t.Errorf("%s: Replace: code %d", name, code)
			}
			noDisk(t, name, got)
		}
	}
}

// refusedOp checks that an operation changes nothing and has a code.
func refusedOp(t *testing.T, what string, d impl.Disk, op impl.DOp, want int64) {
	t.Helper()
	got, code := impl.Do(d, op)
	if code != want {
		t.Fatalf("%s: code %d, want %d", what, code, want)
	}
	sameDisk(t, what, got, d)
}

func TestDo(t *testing.T) {
	long := nameOf(maxName)
	for _, c := range []struct {
		before string
		op     impl.DOp
		after  string
	}{
		{"a=1 b=2", appendTo("a", "34"), "a=134 b=2"},
		{"a=1 b=2", appendTo("b", ""), "a=1 b=2"},
		{"a=1 c=2", appendTo("b", "3"), "a=1 b=3 c=2"},
		{"b=1 c=2", appendTo("a", ""), "a= b=1 c=2"},
		{"", appendTo("a", ""), "a="},
		{"", appendTo("a", "x"), "a=x"},
		{"a=1", appendTo("aa", "2"), "a=1 aa=2"},
		{"a=1 b=2", rename("a", "b"), "b=1"},
		{"a=1 b=2", rename("b", "a"), "a=2"},
		{"a=1 b=", rename("b", "a"), "a="},
		{"a=1 b=2", rename("a", "c"), "b=2 c=1"},
		{"b=1 c=2", rename("c", "a"), "a=2 b=1"},
		{"a=1 b=2", rename("a", "a"), "a=1 b=2"},
		{"a=1 b=2", rename("b", "b"), "a=1 b=2"},
		{"a=1 b=2", remove("a"), "b=2"},
		{"a=1 b=2", remove("b"), "a=1"},
		{"a=", remove("a"), ""},
		{"", appendTo(long, "x"), long + "=x"},
		{"a=1", rename("a", long), long + "=1"},
		{long + "=1", rename(long, "a"), "a=1"},
		{long + "=1", remove(long), ""},
	} {
		d := synced(filesOf(c.before))
		got := onDisk(t, d, c.op)
		sameDisk(t, c.before, got, impl.Disk{Live: filesOf(c.after), Safe: d.Safe, Ops: []impl.DOp{c.op}})
		sameDisk(t, c.before+" synchronized", impl.Sync(got), synced(filesOf(c.after)))
	}
}

func TestDoKeepsOperations(t *testing.T) {
	m := mixedDisk()
	d := synced(m.Safe)
	for i, op := range m.Ops {
		d = onDisk(t, d, op)
		sameFiles(t, "safe", d.Safe, m.Safe)
		if !slices.Equal(d.Ops, m.Ops[:i+1]) {
			t.Errorf("operations %s", brief(d.Ops))
		}
	}
	sameDisk(t, "mixed", d, m)
}

func TestDoAgreesWithItsRules(t *testing.T) {
	r := newRand()
	for range 300 {
		d := impl.Disk{}
		for range 30 {
			op := randomOp(r)
			files := mapOf(d.Live)
			got, code := impl.Do(d, op)
			if performedByHand(files, op) {
				sameDisk(t, "performed", got, impl.Disk{Live: listOf(files), Safe: d.Safe, Ops: append(slices.Clone(d.Ops), op)})
			} else {
				refusedOp(t, "no file", d, op, dkNone)
			}
			if found := code == dkOk; found != (len(got.Ops) > len(d.Ops)) {
				t.Fatalf("code %d", code)
			}
			d = got
		}
	}
}

func TestDoRejectsForms(t *testing.T) {
	for name, op := range invalidForms() {
		for _, files := range []string{"a=1 b=2", ""} {
			refusedOp(t, name, synced(filesOf(files)), op, dkForm)
			refusedOp(t, name+", most operations", unsynced(filesOf(files), maxOps), op, dkForm)
		}
		refusedOp(t, name+", most files", synced(manyFiles(maxFiles)), op, dkForm)
	}
}

func TestDoRejectsFilesThatAreNotThere(t *testing.T) {
	for _, op := range []impl.DOp{rename("c", "d"), rename("c", "a"), rename("c", "c"), rename("A", "a"), rename("a\x00", "b"), rename(nameOf(maxName), "a"), remove("c"), remove("aa"), remove("\x00"), remove(nameOf(maxName))} {
		refusedOp(t, "no file", synced(filesOf("a=1 b=2")), op, dkNone)
		refusedOp(t, "no files", impl.Disk{}, op, dkNone)
		refusedOp(t, "most operations", unsynced(filesOf("a=1 b=2"), maxOps), op, dkNone)
		refusedOp(t, "most files", synced(manyFiles(maxFiles)), op, dkNone)
	}
	removed := onDisk(t, synced(filesOf("a=1 b=2")), remove("a"))
	refusedOp(t, "removed", removed, remove("a"), dkNone)
	refusedOp(t, "removed", removed, rename("a", "b"), dkNone)
	renamed := onDisk(t, synced(filesOf("a=1 b=2")), rename("a", "c"))
	refusedOp(t, "renamed", renamed, remove("a"), dkNone)
}

func TestMostFiles(t *testing.T) {
	d := onDisk(t, synced(manyFiles(maxFiles-1)), appendTo("g", ""))
	for _, full := range []impl.Disk{d, impl.Sync(d), synced(manyFiles(maxFiles))} {
		refusedOp(t, "one more", full, appendTo("h", "x"), dkFull)
		refusedOp(t, "one more without data", full, appendTo("a", ""), dkFull)
		onDisk(t, full, appendTo("f100", "x"))
		onDisk(t, full, rename("f100", "h"), rename("f101", "h"), appendTo("i", ""))
		onDisk(t, full, remove("f100"), appendTo("i", ""))
	}
}

func TestMostBytes(t *testing.T) {
	rest := strings.Repeat("r", maxBytes-10)
	d := onDisk(t, synced(filesOf("a=12345 b=")), appendTo("b", rest))
	refusedOp(t, "one more than most", d, appendTo("a", "123456"), dkFull)
	refusedOp(t, "far more", d, appendTo("a", rest), dkFull)
	refusedOp(t, "more in a new file", d, appendTo("c", "123456"), dkFull)
	full := onDisk(t, d, appendTo("a", "12345"))
	for _, full := range []impl.Disk{full, impl.Sync(full)} {
		refusedOp(t, "one more", full, appendTo("a", "x"), dkFull)
		refusedOp(t, "one more in a new file", full, appendTo("c", "x"), dkFull)
		onDisk(t, full, appendTo("a", ""), appendTo("c", ""), rename("a", "d"))
		onDisk(t, full, rename("b", "a"), appendTo("a", "1234512345"))
		onDisk(t, full, remove("a"), appendTo("a", "1234512345"))
	}
	refusedOp(t, "all at once", impl.Disk{}, appendTo("a", rest+"12345123451"), dkFull)
	onDisk(t, impl.Disk{}, appendTo("a", rest+"1234512345"))
}

func TestMostOperations(t *testing.T) {
	files := filesOf("a=1 b=2")
	for _, op := range []impl.DOp{appendTo("a", ""), appendTo("c", "x"), rename("a", "b"), rename("a", "a"), remove("a")} {
		refusedOp(t, "one more", unsynced(files, maxOps), op, dkFull)
		d := onDisk(t, unsynced(files, maxOps-1), op)
		if len(d.Ops) != maxOps {
			t.Errorf("%d operations", len(d.Ops))
		}
		onDisk(t, impl.Sync(unsynced(files, maxOps)), op)
	}
}

func TestSync(t *testing.T) {
	for name, d := range validDisks() {
		sameDisk(t, name, impl.Sync(d), synced(d.Live))
		sameDisk(t, name+" twice", impl.Sync(impl.Sync(d)), synced(d.Live))
	}
}

func TestReadFile(t *testing.T) {
	for name, d := range validDisks() {
		for _, f := range d.Live {
			if data, ok := impl.ReadFile(d, f.Name); !ok || data != f.Data {
				t.Errorf("%s: %.100q: %.100q, %v", name, f.Name, data, ok)
			}
		}
		for _, file := range []string{"", "none", "\x00\x01", nameOf(maxName + 1)} {
			if data, ok := impl.ReadFile(d, file); ok || data != "" {
				t.Errorf("%s: %.100q: %.100q, %v", name, file, data, ok)
			}
		}
	}
	d := impl.Disk{Live: filesOf("b=1"), Safe: filesOf("a=1"), Ops: []impl.DOp{rename("a", "b")}}
	if data, ok := impl.ReadFile(d, "a"); ok || data != "" {
		t.Errorf("a file that was renamed: %q, %v", data, ok)
	}
	if data, ok := impl.ReadFile(synced(filesOf("a=")), "a"); !ok || data != "" {
		t.Errorf("a file without data: %q, %v", data, ok)
	}
}

func crashed(t *testing.T, d impl.Disk, keep []int64, torn int64) impl.Disk {
	t.Helper()
	got, ok := impl.Crash(d, keep, torn)
	if !ok {
		t.Fatalf("rejected: %v, %d, %s", keep, torn, brief(d))
	}
	if !impl.DiskOk(got) {
		t.Fatalf("not valid: %s", brief(got))
	}
	return got
}

func TestCrash(t *testing.T) {
	safe := filesOf("b=2 log=ab")
	for _, c := range []struct {
		ops  []impl.DOp
		keep []int64
		torn int64
		want string
	}{
		{nil, nil, 0, "b=2 log=ab"},
		{[]impl.DOp{appendTo("log", "cd"), appendTo("c", "x")}, []int64{0}, 1, "b=2 log=abc"},
		{[]impl.DOp{appendTo("log", "cd"), appendTo("c", "x")}, []int64{0, 1}, 0, "b=2 c= log=abcd"},
		{[]impl.DOp{appendTo("log", "cd"), appendTo("c", "x")}, []int64{1}, 9, "b=2 c=x log=ab"},
		{[]impl.DOp{appendTo("log", "cd"), appendTo("log", "ef")}, []int64{1}, 9, "b=2 log=abef"},
		{[]impl.DOp{appendTo("log", "cd"), appendTo("log", "ef")}, []int64{0, 1}, 1, "b=2 log=abcde"},
		{[]impl.DOp{appendTo("log", "cd")}, []int64{0}, 0, "b=2 log=ab"},
		{[]impl.DOp{appendTo("log", "cd")}, []int64{0}, 2, "b=2 log=abcd"},
		{[]impl.DOp{appendTo("log", "cd")}, []int64{0}, 3, "b=2 log=abcd"},
		{[]impl.DOp{appendTo("log", "cd")}, []int64{0}, math.MaxInt64, "b=2 log=abcd"},
		{[]impl.DOp{appendTo("new", "")}, []int64{0}, 0, "b=2 log=ab new="},
		{[]impl.DOp{appendTo("log", "cd"), rename("b", "log")}, []int64{0, 1}, 0, "log=2"},
		{[]impl.DOp{appendTo("log", "cd"), rename("log", "b")}, []int64{0, 1}, 0, "b=abcd"},
		{[]impl.DOp{appendTo("log", "cd"), remove("b")}, []int64{0, 1}, 0, "log=abcd"},
		{[]impl.DOp{appendTo("c", "x"), rename("c", "b")}, []int64{1}, 0, "b=2 log=ab"},
		{[]impl.DOp{appendTo("c", "x"), rename("c", "b")}, []int64{0, 1}, 0, "b=x log=ab"},
		{[]impl.DOp{appendTo("c", "x"), rename("c", "c")}, []int64{1}, 0, "b=2 log=ab"},
		{[]impl.DOp{appendTo("c", "x"), remove("c")}, []int64{1}, 0, "b=2 log=ab"},
		{[]impl.DOp{appendTo("c", "x"), remove("c"), appendTo("c", "y")}, []int64{0, 2}, 9, "b=2 c=xy log=ab"},
		{[]impl.DOp{remove("b"), appendTo("b", "y")}, []int64{1}, 9, "b=2y log=ab"},
		{[]impl.DOp{rename("b", "c"), appendTo("c", "y"), rename("c", "b")}, []int64{0, 2}, 0, "b=2 log=ab"},
		{[]impl.DOp{rename("b", "c"), appendTo("c", "y"), rename("c", "b")}, []int64{1, 2}, 0, "b=y log=ab"},
		{[]impl.DOp{rename("b", "b"), remove("log")}, []int64{0, 1}, 0, "b=2"},
	} {
		d := onDisk(t, synced(safe), c.ops...)
		sameDisk(t, c.want, crashed(t, d, c.keep, c.torn), synced(filesOf(c.want)))
	}
}

func TestCrashAgreesWithItsRules(t *testing.T) {
	r := newRand()
	disks := []impl.Disk{mixedDisk()}
	for range 100 {
		disks = append(disks, randomDisk(t, r, 12))
	}
	for _, d := range disks {
		if len(d.Ops) > 8 {
			d.Ops, d.Live = d.Ops[:0], d.Safe
		}
		for _, keep := range subsets(len(d.Ops)) {
			for _, torn := range tornLengths(d, keep) {
				sameDisk(t, "crashed", crashed(t, d, keep, torn), crashedByHand(d, keep, torn))
			}
		}
	}
}

func TestCrashRejects(t *testing.T) {
	m := mixedDisk()
	n := int64(len(m.Ops))
	for _, keep := range [][]int64{{-1}, {n}, {n + 1}, {0, n}, {0, 0}, {1, 1}, {1, 0}, {0, 2, 1}, {0, 1, 1}, {2, 1, 3}, {-1, 0}, {0, -1}, {1 << 32}, {1<<32 + 1}, {-1 << 32}, {math.MaxInt64}, {math.MinInt64}, append(allOf(int(n)), n), append(allOf(int(n)), 0)} {
		for _, torn := range []int64{0, 1, math.MaxInt64} {
			got, ok := impl.Crash(m, keep, torn)
			if ok {
				t.Errorf("accepted: %v", keep)
			}
			noDisk(t, "keep", got)
		}
	}
	for _, torn := range []int64{-1, -2, -1 << 32, math.MinInt64} {
		for _, keep := range [][]int64{nil, {0}, {2}, allOf(int(n))} {
			got, ok := impl.Crash(m, keep, torn)
			if ok {
				t.Errorf("accepted: torn at %d", torn)
			}
			noDisk(t, "torn", got)
		}
	}
	for _, d := range []impl.Disk{{}, synced(filesOf("a=1"))} {
		if got, ok := impl.Crash(d, []int64{0}, 0); ok {
			t.Errorf("accepted without operations: %s", brief(got))
		}
	}
}

// TestCrashRejectsTooManyFiles loses the removals that made room.
func TestCrashRejectsTooManyFiles(t *testing.T) {
	d := onDisk(t, synced(manyFiles(maxFiles)), remove("f100"), appendTo("g", "x"), remove("f101"))
	for _, c := range []struct {
		keep []int64
		ok   bool
	}{{nil, true}, {[]int64{0}, true}, {[]int64{1}, false}, {[]int64{0, 1}, true}, {[]int64{1, 2}, true}, {[]int64{0, 1, 2}, true}} {
		got, ok := impl.Crash(d, c.keep, 0)
		if ok != c.ok {
			t.Errorf("keep %v: %v", c.keep, ok)
		}
		if !ok {
			noDisk(t, "too many files", got)
			continue
		}
		sameDisk(t, "kept", got, crashedByHand(d, c.keep, 0))
	}
}

// TestCrashRejectsTooManyBytes tears the data so that it just fits.
func TestCrashRejectsTooManyBytes(t *testing.T) {
	half := strings.Repeat("h", maxBytes/2)
	d := onDisk(t, synced([]impl.File{{Name: "a", Data: half}, {Name: "b", Data: half[10:]}}), remove("a"), appendTo("c", half), remove("b"))
	for _, c := range []struct {
		keep []int64
		torn int64
		ok   bool
	}{{[]int64{1}, 10, true}, {[]int64{1}, 11, false}, {[]int64{1}, math.MaxInt64, false}, {[]int64{0, 1}, math.MaxInt64, true}, {[]int64{1, 2}, 0, true}, {[]int64{0, 1, 2}, 0, true}} {
		got, ok := impl.Crash(d, c.keep, c.torn)
		if ok != c.ok {
			t.Errorf("keep %v, torn %d: %v", c.keep, c.torn, ok)
		}
		if !ok {
			noDisk(t, "too many bytes", got)
			continue
		}
		sameDisk(t, "kept", got, crashedByHand(d, c.keep, c.torn))
	}
}

// TestCrashOfManyBytesInBetween keeps appends of far more than a disk has room for, and in the end the removal of all.
func TestCrashOfManyBytesInBetween(t *testing.T) {
	big := strings.Repeat("b", maxBytes)
	d := impl.Disk{}
	var keep []int64
	for i := range maxOps / 2 {
		d.Ops = append(d.Ops, appendTo("a", big), remove("a"))
		keep = append(keep, int64(2*i))
	}
	if _, ok := impl.Crash(d, keep, maxBytes); ok {
		t.Error("too many bytes accepted")
	}
	sameDisk(t, "removed", crashed(t, d, append(keep, maxOps-1), 0), impl.Disk{})
	sameDisk(t, "last one", crashed(t, d, keep[99:], maxBytes), synced([]impl.File{{Name: "a", Data: big}}))
}

func TestPromise10WhatCrashLeaves(t *testing.T) {
	r := newRand()
	disks := validDisks()
	for i := range 200 {
		disks["random "+strconv.Itoa(i)] = randomDisk(t, r, i%40)
	}
	for name, d := range disks {
		sameDisk(t, name+": all kept", crashed(t, d, allOf(len(d.Ops)), math.MaxInt64), synced(d.Live))
		for _, torn := range []int64{0, 1, math.MaxInt64} {
			sameDisk(t, name+": none kept", crashed(t, d, nil, torn), synced(d.Safe))
		}
	}
}

// TestPromise10EffectsAreSeen reads every file before and after each operation.
func TestPromise10EffectsAreSeen(t *testing.T) {
	r := newRand()
	names := []string{"a", "a.new", "b", "log"}
	for i := range 300 {
		d := randomDisk(t, r, i%30)
		op := randomOp(r)
		after, code := impl.Do(d, op)
		if code != dkOk {
			continue
		}
		old, _ := impl.ReadFile(d, op.Name)
		for _, name := range names {
			want, there := impl.ReadFile(d, name)
			switch {
			case op.Kind == dkAppend && name == op.Name:
				want, there = old+op.Data, true
			case op.Kind == dkRename && name == op.To:
				want, there = old, true
			case op.Kind != dkAppend && name == op.Name:
				want, there = "", false
			}
			if data, ok := impl.ReadFile(after, name); data != want || ok != there {
				t.Errorf("%s: %s has %q, %v, not %q, %v", brief(op), name, data, ok, want, there)
			}
		}
	}
}

func replaced(t *testing.T, d impl.Disk, name string, data string) impl.Disk {
	t.Helper()
	got, code := impl.Replace(d, name, data)
	if code != dkOk {
		t.Fatalf("code %d: %.100q, %s", code, name, brief(d))
	}
	if !impl.DiskOk(got) {
		t.Fatalf("not valid: %s", brief(got))
	}
	return got
}

func TestReplace(t *testing.T) {
	for _, c := range []struct {
		before string
		name   string
		data   string
		after  string
		ops    []impl.DOp
	}{
		{"log=ab", "log", "new", "log=new", []impl.DOp{appendTo("log.new", "new"), rename("log.new", "log")}},
		{"log=ab", "log", "", "log=", []impl.DOp{appendTo("log.new", ""), rename("log.new", "log")}},
		{"", "log", "new", "log=new", []impl.DOp{appendTo("log.new", "new"), rename("log.new", "log")}},
		{"a=1 z=2", "log", "new", "a=1 log=new z=2", []impl.DOp{appendTo("log.new", "new"), rename("log.new", "log")}},
		{"log=ab log.new=x", "log", "new", "log=new", []impl.DOp{remove("log.new"), appendTo("log.new", "new"), rename("log.new", "log")}},
		{"log.new=", "log", "new", "log=new", []impl.DOp{remove("log.new"), appendTo("log.new", "new"), rename("log.new", "log")}},
		{"log=ab log.new=x", "log.new", "y", "log=ab log.new=y", []impl.DOp{appendTo("log.new.new", "y"), rename("log.new.new", "log.new")}},
	} {
		d := synced(filesOf(c.before))
		sameDisk(t, c.before, replaced(t, d, c.name, c.data), impl.Disk{Live: filesOf(c.after), Safe: d.Safe, Ops: c.ops})
		u := onDisk(t, d, appendTo("b", "x"))
		got := replaced(t, u, c.name, c.data)
		sameDisk(t, c.before+" with operations", got, onDisk(t, u, c.ops...))
	}
}

// refusedReplace checks that Replace changes nothing, even if an operation of it was possible.
func refusedReplace(t *testing.T, what string, d impl.Disk, name string, data string, want int64) {
	t.Helper()
	got, code := impl.Replace(d, name, data)
	if code != want {
		t.Errorf("%s: code %d, want %d", what, code, want)
	}
	sameDisk(t, what, got, d)
}

func TestReplaceOfLongNames(t *testing.T) {
	longest := nameOf(maxName - len(".new"))
	for _, d := range []impl.Disk{{}, synced([]impl.File{{Name: longest, Data: "old"}}), synced([]impl.File{{Name: longest + ".new", Data: "old"}}), synced([]impl.File{{Name: nameOf(maxName), Data: "old"}})} {
		got := replaced(t, d, longest, "new")
		if data, ok := impl.ReadFile(got, longest); !ok || data != "new" {
			t.Errorf("%.100q, %v", data, ok)
		}
		for _, n := range []int{maxName - 3, maxName - 1, maxName, maxName + 1, 1000} {
			refusedReplace(t, "long name", d, nameOf(n), "new", dkForm)
		}
		got = replaced(t, d, "n", "new")
		if data, ok := impl.ReadFile(got, "n"); !ok || data != "new" {
			t.Errorf("%.100q, %v", data, ok)
		}
	}
}

// TestReplaceOfNoName fails at the last operation, and at an earlier one where that fails first.
func TestReplaceOfNoName(t *testing.T) {
	for _, files := range []string{"", "a=1", ".new=1", ".new=1 a=1"} {
		refusedReplace(t, "no name", synced(filesOf(files)), "", "new", dkForm)
		refusedReplace(t, "no name, operations", onDisk(t, synced(filesOf(files)), appendTo("b", "")), "", "new", dkForm)
	}
	refusedReplace(t, "no name, most files", synced(manyFiles(maxFiles)), "", "new", dkFull)
	refusedReplace(t, "no name, most operations", unsynced(nil, maxOps), "", "new", dkFull)
	refusedReplace(t, "no name, no room for the rename", unsynced(nil, maxOps-1), "", "new", dkForm)
}

func TestReplaceWithoutRoom(t *testing.T) {
	for _, c := range []struct {
		files string
		need  int
	}{{"", 2}, {"a=1", 2}, {"a=1 a.new=2", 3}, {"a.new=2", 3}} {
		for left := range 5 {
			d := unsynced(filesOf(c.files), maxOps-left)
			if left < c.need {
				refusedReplace(t, "too few operations left", d, "a", "new", dkFull)
				continue
			}
			if got := replaced(t, d, "a", "new"); len(got.Ops) != maxOps-left+c.need {
				t.Errorf("%d operations", len(got.Ops))
			}
		}
	}
	files := manyFiles(maxFiles)
	refusedReplace(t, "most files", synced(files), "f100", "new", dkFull)
	refusedReplace(t, "most files", synced(files), "g", "new", dkFull)
	replaced(t, synced(files[1:]), "f101", "new")
	replaced(t, synced(files[1:]), "g", "new")
	files[maxFiles-1] = impl.File{Name: "f158.new", Data: "x"}
	replaced(t, synced(files), "f158", "new")
	refusedReplace(t, "most files but another temporary name", synced(files), "f157", "new", dkFull)
}

// TestReplaceNeedsRoomForBoth has the old and the new data at once.
func TestReplaceNeedsRoomForBoth(t *testing.T) {
	half := strings.Repeat("h", maxBytes/2)
	d := synced([]impl.File{{Name: "a", Data: half}})
	if data, _ := impl.ReadFile(replaced(t, d, "a", half), "a"); data != half {
		t.Error("other data")
	}
	refusedReplace(t, "a byte too many", d, "a", half+"x", dkFull)
	with := synced([]impl.File{{Name: "a", Data: half}, {Name: "a.new", Data: half}})
	replaced(t, with, "a", half)
	refusedReplace(t, "a byte too many, after a removal", with, "a", half+"x", dkFull)
	replaced(t, synced([]impl.File{{Name: "a.new", Data: half + half}}), "a", half+half)
}

// TestPromise10ReplacedFiles keeps each choice of operations, the last one torn at each byte.
func TestPromise10ReplacedFiles(t *testing.T) {
	for _, files := range []string{"", "a=", "a=old", "a=old b=x", "a=old log=ab log.new=y", "b=x"} {
		for _, data := range []string{"", "n", "newer", "old and new"} {
			d := synced(filesOf(files))
			old, was := impl.ReadFile(d, "a")
			r := replaced(t, d, "a", data)
			if len(r.Ops) != 2 {
				t.Fatalf("%d operations", len(r.Ops))
			}
			for _, keep := range subsets(len(r.Ops)) {
				for torn := range int64(len(data) + 2) {
					c := crashed(t, r, keep, torn)
					got, is := impl.ReadFile(c, "a")
					isOld, isNew := got == old && is == was, got == data && is
					if !isOld && !isNew || len(keep) == 2 && !isNew || len(keep) == 0 && !isOld {
						t.Errorf("keep %v: %q, %v instead of %q", keep, got, is, old)
					}
				}
			}
		}
	}
}

// TestDisksModifyNothingAndShareNoMemory has spare capacity in each argument, which no function may write to either.
func TestDisksModifyNothingAndShareNoMemory(t *testing.T) {
	disks := validDisks()
	for name, d := range invalidDisks() {
		disks["not valid: "+name] = d
	}
	ops := []impl.DOp{appendTo("a", "x"), appendTo("new", ""), rename("a", "b"), rename("a", "a"), remove("a"), remove("none"), {}}
	for name, d := range disks {
		d = copiedDisk(d)
		keep := roomy(allOf(len(d.Ops)), 77)
		arguments := append(memoriesOfDisk(d), memoryOf("keep", keep, func(x int64) int64 { return x + 1 }, equal))
		impl.DiskOk(d)
		impl.ReadFile(d, "a")
		for _, op := range ops {
			got, _ := impl.Do(d, op)
			testLists(t, name+": Do", memoriesOfDisk(got), arguments)
		}
		testLists(t, name+": Sync", memoriesOfDisk(impl.Sync(d)), arguments)
		for _, k := range [][]int64{keep, keep[:0], keep[:len(keep)/2]} {
			got, _ := impl.Crash(d, k, 1)
			testLists(t, name+": Crash", memoriesOfDisk(got), arguments)
		}
		for _, file := range []string{"a", "", "new"} {
			got, _ := impl.Replace(d, file, "x")
			testLists(t, name+": Replace", memoriesOfDisk(got), arguments)
		}
	}
}

func TestEqualArgumentsYieldEqualDisks(t *testing.T) {
	for name, d := range validDisks() {
		again := copiedDisk(d)
		for range 3 {
			got, code := impl.Do(again, appendTo("b", "x"))
			want, wantCode := impl.Do(d, appendTo("b", "x"))
			sameDisk(t, name+": Do", got, want)
			if code != wantCode {
				t.Errorf("%s: Do: code %d, then %d", name, wantCode, code)
			}
			sameDisk(t, name+": Sync", impl.Sync(again), impl.Sync(d))
			sameDisk(t, name+": Crash", crashed(t, again, allOf(len(d.Ops)), 1), crashed(t, d, allOf(len(d.Ops)), 1))
			got, code = impl.Replace(again, "b", "x")
			want, wantCode = impl.Replace(d, "b", "x")
			sameDisk(t, name+": Replace", got, want)
			if code != wantCode {
				t.Errorf("%s: Replace: code %d, then %d", name, wantCode, code)
			}
		}
	}
}
