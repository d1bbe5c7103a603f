package tests

import (
	"fmt"
	"maps"
	"math"
	"math/rand"
	"slices"
	"strconv"
	"strings"
	"testing"

	"loop.example/g00630/impl"
)

// The numbers as the specification states them.
const (
	dkAppend = 1
	dkRename = 2
	dkRemove = 3

	dkOk   = 0
	dkDisk = 1
	dkForm = 2
	dkNone = 3
	dkFull = 4

	maxFiles = 60
	maxBytes = 200000
	maxOps   = 200
	maxName  = 100
)

func appendTo(name string, data string) impl.DOp {
	return impl.DOp{Kind: dkAppend, Name: name, Data: data}
}

func rename(name string, to string) impl.DOp {
	return impl.DOp{Kind: dkRename, Name: name, To: to}
}

func remove(name string) impl.DOp { return impl.DOp{Kind: dkRemove, Name: name} }

// nameOf returns a name of n bytes.
func nameOf(n int) string { return strings.Repeat("n", n) }

// filesOf makes files of words, each a name, = and the data.
func filesOf(text string) []impl.File {
	l := []impl.File{}
	for _, w := range strings.Fields(text) {
		name, data, _ := strings.Cut(w, "=")
		l = append(l, impl.File{Name: name, Data: data})
	}
	return l
}

// manyFiles returns n files with increasing names and one byte of data each.
func manyFiles(n int) []impl.File {
	l := []impl.File{}
	for i := range n {
		l = append(l, impl.File{Name: "f" + strconv.Itoa(100+i), Data: "x"})
	}
	return l
}

func synced(files []impl.File) impl.Disk {
	return impl.Disk{Live: slices.Clone(files), Safe: slices.Clone(files)}
}

// unsynced returns a disk with n operations, each of which appends a byte to the file z.
func unsynced(files []impl.File, n int) impl.Disk {
	d := synced(files)
	d.Live = append(d.Live, impl.File{Name: "z", Data: strings.Repeat("z", n)})
	d.Ops = slices.Repeat([]impl.DOp{appendTo("z", "z")}, n)
	return d
}

// onDisk performs operations of which each must be possible.
func onDisk(t *testing.T, d impl.Disk, ops ...impl.DOp) impl.Disk {
	t.Helper()
	for _, op := range ops {
		next, code := impl.Do(d, op)
		if code != dkOk {
			t.Fatalf("%s: code %d for %s", brief(op), code, brief(d))
		}
		if !impl.DiskOk(next) {
			t.Fatalf("%s: not valid: %s", brief(op), brief(next))
		}
		d = next
	}
	return d
}

// brief shows a value, but not all of a disk that is full.
func brief(x any) string {
	s := fmt.Sprintf("%+v", x)
	return strconv.Quote(s[:min(len(s), 1000)])
}

func equalDisks(a impl.Disk, b impl.Disk) bool {
	return slices.Equal(a.Live, b.Live) && slices.Equal(a.Safe, b.Safe) && slices.Equal(a.Ops, b.Ops)
}

func sameDisk(t *testing.T, what string, got impl.Disk, want impl.Disk) {
	t.Helper()
	if !equalDisks(got, want) {
		t.Fatalf("%s: got %s, want %s", what, brief(got), brief(want))
	}
}

func sameFiles(t *testing.T, what string, got []impl.File, want []impl.File) {
	t.Helper()
	if !slices.Equal(got, want) {
		t.Fatalf("%s: got %s, want %s", what, brief(got), brief(want))
	}
}

// noDisk checks for the fixed result of a rejection, in which every list is empty.
func noDisk(t *testing.T, what string, got impl.Disk) {
	t.Helper()
	if !equalDisks(got, impl.Disk{}) {
		t.Errorf("%s: not the zero value: %s", what, brief(got))
	}
}

// copiedDisk makes a copy in which every list has spare capacity with marks; no list of the copy is nil.
func copiedDisk(d impl.Disk) impl.Disk {
	return impl.Disk{
		Live: roomy(d.Live, impl.File{Name: "spare"}),
		Safe: roomy(d.Safe, impl.File{Name: "spare"}),
		Ops:  roomy(d.Ops, impl.DOp{Name: "spare"}),
	}
}

func memoriesOfDisk(d impl.Disk) []memory {
	otherFile := func(f impl.File) impl.File { return impl.File{Name: f.Name + "x"} }
	return []memory{
		memoryOf("live", d.Live, otherFile, equal),
		memoryOf("safe", d.Safe, otherFile, equal),
		memoryOf("ops", d.Ops, func(op impl.DOp) impl.DOp { return impl.DOp{Kind: op.Kind + 1} }, equal),
	}
}

// mixedDisk has operations of each kind, which depend on each other.
func mixedDisk() impl.Disk {
	return impl.Disk{
		Safe: filesOf("a=1 b=22 c= log=ab"),
		Ops: []impl.DOp{
			appendTo("log", "cd"), appendTo("new", ""), rename("b", "a"), remove("c"),
			appendTo("c", "3"), rename("new", "new"), appendTo("a", "4"), appendTo("a", "567"),
		},
		Live: filesOf("a=224567 c=3 log=abcd new="),
	}
}

// validDisks names disks that are just valid, in each way.
func validDisks() map[string]impl.Disk {
	all := filesOf("a= b=1 c=22")
	big := strings.Repeat("x", maxBytes-3)
	longName := nameOf(maxName)
	return map[string]impl.Disk{
		"zero":                 {},
		"with empty lists":     {Live: []impl.File{}, Safe: []impl.File{}, Ops: []impl.DOp{}},
		"synced":               synced(all),
		"mixed":                mixedDisk(),
		"names as bytes":       synced([]impl.File{{Name: "\x00"}, {Name: "\x00\x00"}, {Name: "a"}, {Name: "a\x00"}, {Name: "\x80"}, {Name: "\xff"}}),
		"longest name":         synced([]impl.File{{Name: longName, Data: "x"}}),
		"all removed":          {Safe: filesOf("a=1"), Ops: []impl.DOp{remove("a")}},
		"all new":              {Live: filesOf("a= b=x"), Ops: []impl.DOp{appendTo("b", "x"), appendTo("a", "")}},
		"nothing appended":     {Live: all, Safe: all, Ops: []impl.DOp{appendTo("a", "")}},
		"renamed to itself":    {Live: all, Safe: all, Ops: []impl.DOp{rename("c", "c")}},
		"renamed to and fro":   {Live: all, Safe: all, Ops: []impl.DOp{rename("c", "d"), rename("d", "c")}},
		"renamed to longest":   {Live: []impl.File{{Name: "a"}, {Name: longName, Data: "22"}}, Safe: filesOf("a= c=22"), Ops: []impl.DOp{rename("c", longName)}},
		"most files":           synced(manyFiles(maxFiles)),
		"most files in Ops":    {Live: manyFiles(maxFiles), Safe: manyFiles(maxFiles - 1), Ops: []impl.DOp{appendTo("f159", "x")}},
		"most bytes":           synced([]impl.File{{Name: "a", Data: big}, {Name: "b", Data: "123"}}),
		"most bytes in a file": synced([]impl.File{{Name: "a", Data: big + "123"}}),
		"most bytes in Ops":    {Live: []impl.File{{Name: "a", Data: big + "123"}}, Safe: []impl.File{{Name: "a", Data: big}}, Ops: []impl.DOp{appendTo("a", "123")}},
		"most operations":      unsynced(all, maxOps),
		"one operation less":   unsynced(all, maxOps-1),
	}
}

// invalidFiles returns lists of which each breaks one rule.
func invalidFiles() map[string][]impl.File {
	big := strings.Repeat("x", maxBytes-3)
	return map[string][]impl.File{
		"name without bytes":         {{Data: "x"}},
		"name without bytes, first":  {{}, {Name: "a"}},
		"long name":                  {{Name: nameOf(maxName + 1)}},
		"long name, last":            {{Name: "a"}, {Name: nameOf(maxName + 1)}},
		"far too long name":          {{Name: nameOf(1000)}},
		"equal names":                filesOf("a=1 a=1"),
		"equal names, last":          filesOf("a= b=1 b=2"),
		"decreasing names":           filesOf("b= a="),
		"decreasing names, first":    filesOf("b= a= c="),
		"decreasing names, last":     filesOf("a= c= b="),
		"names as signed bytes":      {{Name: "\xff"}, {Name: "a"}},
		"longer name before shorter": filesOf("aa= a="),
		"a file too many":            manyFiles(maxFiles + 1),
		"far too many files":         manyFiles(900),
		"a byte too many":            {{Name: "a", Data: big}, {Name: "b", Data: "1234"}},
		"a byte too many in a file":  {{Name: "a", Data: big + "1234"}},
		"far too many bytes":         {{Name: "a", Data: big}, {Name: "b", Data: big}, {Name: "c", Data: big}},
	}
}

// invalidForms returns operations on the files a and b of which each breaks one rule.
func invalidForms() map[string]impl.DOp {
	forms := map[string]impl.DOp{"zero": {}}
	for _, kind := range []int64{0, 4, -1, -2, 1<<8 + 1, 1<<32 + 1, 1<<32 + 3, -1<<32 + 2, math.MaxInt64, math.MinInt64} {
		forms["kind "+strconv.FormatInt(kind, 10)] = impl.DOp{Kind: kind, Name: "a"}
		forms["kind "+strconv.FormatInt(kind, 10)+" with To"] = impl.DOp{Kind: kind, Name: "a", To: "b"}
	}
	for _, n := range []int{0, maxName + 1, 1000} {
		length := strconv.Itoa(n)
		forms["append to a name of length "+length] = appendTo(nameOf(n), "x")
		forms["append nothing to a name of length "+length] = appendTo(nameOf(n), "")
		forms["rename a name of length "+length] = rename(nameOf(n), "b")
		forms["remove a name of length "+length] = remove(nameOf(n))
		forms["rename to a name of length "+length] = rename("a", nameOf(n))
		forms["rename both of length "+length] = rename(nameOf(n), nameOf(n))
	}
	for _, to := range []string{"a", "b", "\x00", nameOf(maxName + 1)} {
		forms["append with To "+to] = impl.DOp{Kind: dkAppend, Name: "a", To: to, Data: "x"}
		forms["remove with To "+to] = impl.DOp{Kind: dkRemove, Name: "a", To: to}
	}
	for _, data := range []string{"x", "\x00", "long data"} {
		forms["rename with Data "+data] = impl.DOp{Kind: dkRename, Name: "a", To: "b", Data: data}
		forms["remove with Data "+data] = impl.DOp{Kind: dkRemove, Name: "a", Data: data}
	}
	return forms
}

// invalidDisks returns disks of which each breaks one rule.
func invalidDisks() map[string]impl.Disk {
	disks := invalidDisksOfOps()
	maps.Copy(disks, brokenSafes())
	for name, files := range invalidFiles() {
		disks["both lists: "+name] = synced(files)
		disks["live: "+name] = impl.Disk{Live: files}
		disks["safe: "+name] = impl.Disk{Safe: files}
	}
	all := filesOf("a=1 b=2")
	for name, op := range invalidForms() {
		disks["form: "+name] = impl.Disk{Live: all, Safe: all, Ops: []impl.DOp{op}}
		disks["form behind others: "+name] = impl.Disk{Live: filesOf("a=12 b=2"), Safe: all, Ops: []impl.DOp{appendTo("a", "2"), op}}
		disks["form before others: "+name] = impl.Disk{Live: filesOf("a=12 b=2"), Safe: all, Ops: []impl.DOp{op, appendTo("a", "2")}}
	}
	lives := map[string]string{
		"none": "", "a file less": "a=1", "the other file less": "b=2", "a file more": "a=1 b=2 c=",
		"other data": "a=1 b=3", "data of both exchanged": "a=2 b=1", "longer data": "a=1 b=22", "shorter data": "a= b=2", "another name": "a=1 c=2",
	}
	for name, live := range lives {
		disks["live without operations: "+name] = impl.Disk{Live: filesOf(live), Safe: all}
		disks["live behind an operation: "+name] = impl.Disk{Live: filesOf(live), Safe: filesOf("a=1 b="), Ops: []impl.DOp{appendTo("b", "2")}}
	}
	return disks
}

// brokenSafes have a list Live that is valid, and as near to the other one as that allows.
func brokenSafes() map[string]impl.Disk {
	return map[string]impl.Disk{
		"equal names in safe, the first one live":   {Live: filesOf("a=1"), Safe: filesOf("a=1 a=2")},
		"equal names in safe, the last one live":    {Live: filesOf("a=2"), Safe: filesOf("a=1 a=2")},
		"equal names in safe, both live":            {Live: filesOf("a=12"), Safe: filesOf("a=1 a=2")},
		"equal files in safe, one live":             {Live: filesOf("a=1"), Safe: filesOf("a=1 a=1")},
		"decreasing names in safe, increasing live": {Live: filesOf("a=1 b=2"), Safe: filesOf("b=2 a=1")},
		"long name in safe, removed":                {Safe: []impl.File{{Name: nameOf(maxName + 1)}}, Ops: []impl.DOp{remove(nameOf(maxName + 1))}},
		"a file too many in safe, removed":          {Live: manyFiles(maxFiles), Safe: manyFiles(maxFiles + 1), Ops: []impl.DOp{remove("f160")}},
		"a byte too many in safe, removed":          {Live: filesOf("b="), Safe: []impl.File{{Name: "a", Data: strings.Repeat("x", maxBytes+1)}, {Name: "b"}}, Ops: []impl.DOp{remove("a")}},
	}
}

func invalidDisksOfOps() map[string]impl.Disk {
	big := strings.Repeat("x", maxBytes)
	full := []impl.File{{Name: "a", Data: big}}
	all := filesOf("a=1 b=2")
	return map[string]impl.Disk{
		"an operation too many":             unsynced(all, maxOps+1),
		"far too many operations":           unsynced(all, 5*maxOps),
		"too many operations of nothing":    {Live: all, Safe: all, Ops: slices.Repeat([]impl.DOp{rename("a", "a")}, maxOps+1)},
		"rename of no file":                 {Live: all, Safe: all, Ops: []impl.DOp{rename("c", "d")}},
		"rename of no file to a file":       {Live: all, Safe: all, Ops: []impl.DOp{rename("c", "a")}},
		"rename of no file to itself":       {Live: all, Safe: all, Ops: []impl.DOp{rename("c", "c")}},
		"removal of no file":                {Live: all, Safe: all, Ops: []impl.DOp{remove("c")}},
		"removal twice":                     {Live: filesOf("a=1"), Safe: all, Ops: []impl.DOp{remove("b"), remove("b")}},
		"rename of a file that comes later": {Live: filesOf("a=1 b=2 d=3"), Safe: all, Ops: []impl.DOp{rename("c", "d"), appendTo("d", "3")}},
		"operation not performed":           {Live: all, Safe: all, Ops: []impl.DOp{appendTo("a", "1")}},
		"append not to the end":             {Live: filesOf("a=21 b=2"), Safe: all, Ops: []impl.DOp{appendTo("a", "2")}},
		"rename that keeps its file":        {Live: filesOf("a=1 b=2 c=1"), Safe: all, Ops: []impl.DOp{rename("a", "c")}},
		"rename to itself that loses it":    {Live: filesOf("b=2"), Safe: all, Ops: []impl.DOp{rename("a", "a")}},
		"rename that appends":               {Live: filesOf("b=21"), Safe: all, Ops: []impl.DOp{rename("a", "b")}},
		"empty append that makes no file":   {Live: all, Safe: all, Ops: []impl.DOp{appendTo("c", "")}},
		"operations in another order":       {Live: filesOf("a=123"), Safe: filesOf("a=1"), Ops: []impl.DOp{appendTo("a", "3"), appendTo("a", "2")}},
		"too many files in between":         {Live: manyFiles(maxFiles), Safe: manyFiles(maxFiles), Ops: []impl.DOp{appendTo("g", ""), remove("g")}},
		"too many bytes in between":         {Live: full, Safe: full, Ops: []impl.DOp{appendTo("b", "x"), remove("b")}},
		"too many bytes and all removed":    {Safe: full, Ops: []impl.DOp{appendTo("a", "x"), remove("a")}},
	}
}

// performedByHand works on data by names, and reports whether the file was found.
func performedByHand(files map[string]string, op impl.DOp) bool {
	old, found := files[op.Name]
	switch op.Kind {
	case dkAppend:
		files[op.Name] = old + op.Data
		return true
	case dkRename:
		if found && op.Name != op.To {
			files[op.To] = old
			delete(files, op.Name)
		}
	case dkRemove:
		delete(files, op.Name)
	}
	return found
}

func mapOf(files []impl.File) map[string]string {
	m := map[string]string{}
	for _, f := range files {
		m[f.Name] = f.Data
	}
	return m
}

func listOf(files map[string]string) []impl.File {
	var l []impl.File
	for _, name := range slices.Sorted(maps.Keys(files)) {
		l = append(l, impl.File{Name: name, Data: files[name]})
	}
	return l
}

// crashedByHand performs the operations that were kept, the last one torn.
func crashedByHand(d impl.Disk, keep []int64, torn int64) impl.Disk {
	files := mapOf(d.Safe)
	for i, k := range keep {
		op := d.Ops[k]
		if i == len(keep)-1 && torn < int64(len(op.Data)) {
			op.Data = op.Data[:torn]
		}
		performedByHand(files, op)
	}
	return synced(listOf(files))
}

// subsets yields all strictly increasing lists of 0..n-1.
func subsets(n int) [][]int64 {
	all := [][]int64{nil}
	for i := range int64(n) {
		for _, l := range all {
			all = append(all, append(slices.Clone(l), i))
		}
	}
	return all
}

func allOf(n int) []int64 {
	l := []int64{}
	for i := range int64(n) {
		l = append(l, i)
	}
	return l
}

// tornLengths returns lengths at which the last operation of keep may be torn, and beyond its end.
func tornLengths(d impl.Disk, keep []int64) []int64 {
	if len(keep) == 0 {
		return []int64{0, 5, math.MaxInt64}
	}
	n := int64(len(d.Ops[keep[len(keep)-1]].Data))
	l := []int64{0, 1, n / 2, n - 1, n, n + 1, 1 << 32, math.MaxInt64}
	return slices.DeleteFunc(l, func(x int64) bool { return x < 0 })
}

func randomOp(r *rand.Rand) impl.DOp {
	names := []string{"a", "a.new", "b", "log"}
	name, other := names[r.Intn(len(names))], names[r.Intn(len(names))]
	switch r.Intn(5) {
	case 0:
		return rename(name, other)
	case 1:
		return remove(name)
	}
	return appendTo(name, randomText(r, 5))
}

// randomDisk is synchronized now and then.
func randomDisk(t *testing.T, r *rand.Rand, n int) impl.Disk {
	t.Helper()
	d := impl.Disk{}
	for range n {
		if r.Intn(6) == 0 {
			d = impl.Sync(d)
		}
		d, _ = impl.Do(d, randomOp(r))
	}
	if !impl.DiskOk(d) {
		t.Fatalf("not valid: %s", brief(d))
	}
	return d
}
