package tests

import (
	"math"
	"runtime"
	"slices"
	"strconv"
	"sync"
	"testing"
	"time"

	"loop.example/g00630/impl"
)

func TestNumbersOfClusters(t *testing.T) {
	got := []int64{impl.TsIdle, impl.TsRuns, impl.TsDone, impl.StMap, impl.StRed, impl.StEnd, impl.StKill, impl.StUp, impl.CcOk, impl.CcForm, impl.CcNot, impl.Workers}
	want := []int64{tsIdle, tsRuns, tsDone, stMap, stRed, stEnd, stKill, stUp, ccOk, ccForm, ccNot, workers}
	if !slices.Equal(got, want) {
		t.Error(got)
	}
}

func TestClusterNew(t *testing.T) {
	for name, j := range validJobs() {
		c := newCluster(t, j)
		sameCluster(t, name, c, impl.Cluster{
			Job:  j,
			Maps: make([]impl.Task, len(j.Splits)),
			Reds: make([]impl.Task, j.Parts),
			Up:   []bool{true, true, true, true},
		})
		if !impl.ClusterOk(c) {
			t.Errorf("%s: not valid", name)
		}
	}
	for name, j := range invalidJobs() {
		c, ok := impl.ClusterNew(j)
		if ok {
			t.Errorf("%s: accepted", name)
		}
		noCluster(t, name, c)
	}
}

func TestClusterOk(t *testing.T) {
	for name, c := range validClusters(t) {
		if !impl.ClusterOk(c) {
			t.Errorf("%s: not valid", name)
		}
		if !impl.ClusterOk(copied(c)) {
			t.Errorf("%s: not valid with empty lists", name)
		}
	}
	for name, c := range invalidClusters(t) {
		if impl.ClusterOk(c) {
			t.Errorf("%s: valid", name)
		}
	}
}

// TestClusterOkComparesOutputs has the tasks of mixedCluster written out, with each state where the steps did not lead to it.
func TestClusterOkComparesOutputs(t *testing.T) {
	maps := []impl.Task{
		doneMap(1, words("a=3"), words("b=5")),
		doneMap(2, words("a=10"), words("=4")),
		doneMap(0, words("a=2"), nil),
	}
	reds := []impl.Task{doneRed(3, "a=15"), doneRed(3, "=4 b=5")}
	for _, which := range textsOf("012", len(maps)+len(reds)) {
		if len(which) < len(maps)+len(reds) {
			continue
		}
		c := copied(mixedCluster(t))
		for i := range which {
			tasks, k := c.Maps, i
			ended := maps
			if i >= len(maps) {
				tasks, k, ended = c.Reds, i-len(maps), reds
			}
			switch which[i] {
			case '0':
				tasks[k] = impl.Task{}
			case '1':
				tasks[k] = running(2)
			case '2':
				tasks[k] = ended[k]
			}
		}
		if !impl.ClusterOk(c) {
			t.Errorf("states %s: not valid", which)
		}
	}
}

// invalidClusters returns clusters of which each breaks one rule.
func invalidClusters(t *testing.T) map[string]impl.Cluster {
	t.Helper()
	all := map[string]impl.Cluster{"zero": {}}
	for _, rules := range []map[string]func(c *impl.Cluster){brokenJobs(), brokenCounts(), brokenForms(), brokenOutputs(), brokenWorkers()} {
		for name, spoil := range rules {
			c := copied(mixedCluster(t))
			spoil(&c)
			all[name] = c
		}
	}
	for name, j := range invalidJobs() {
		if j.Parts < 0 || j.Parts > 1000 {
			continue
		}
		all["job: "+name] = impl.Cluster{Job: j, Maps: make([]impl.Task, len(j.Splits)), Reds: make([]impl.Task, j.Parts), Up: []bool{true, true, true, true}}
	}
	return all
}

// brokenJobs also has valid jobs, which are not those of the outputs.
func brokenJobs() map[string]func(c *impl.Cluster) {
	return map[string]func(c *impl.Cluster){
		"no kind":                       func(c *impl.Cluster) { c.Job.Kind = 0 },
		"kind beyond":                   func(c *impl.Cluster) { c.Job.Kind = 6 },
		"no parts":                      func(c *impl.Cluster) { c.Job.Parts, c.Reds = 0, nil },
		"negative parts":                func(c *impl.Cluster) { c.Job.Parts, c.Reds = -1, nil },
		"a row not valid":               func(c *impl.Cluster) { c.Job.Splits[2].Rows[0].Tag = maxTag + 1 },
		"another kind":                  func(c *impl.Cluster) { c.Job.Kind = rdCount },
		"a value of a completed split":  func(c *impl.Cluster) { c.Job.Splits[0].Rows[0].Val = "6" },
		"a value of a running split":    func(c *impl.Cluster) { c.Job.Splits[1].Rows[0].Val = "11" },
		"a value of an idle split":      func(c *impl.Cluster) { c.Job.Splits[2].Rows[0].Val = "3" },
		"a row more in an idle split":   func(c *impl.Cluster) { c.Job.Splits[2].Rows = words("a=2 a=0 a=1") },
		"a row less in a running split": func(c *impl.Cluster) { c.Job.Splits[1].Rows = nil },
	}
}

func brokenCounts() map[string]func(c *impl.Cluster) {
	return map[string]func(c *impl.Cluster){
		"no task of a split":        func(c *impl.Cluster) { c.Maps = nil },
		"a task of a split less":    func(c *impl.Cluster) { c.Maps = c.Maps[:2] },
		"a task of a split more":    func(c *impl.Cluster) { c.Maps = append(c.Maps, impl.Task{}) },
		"a split more":              func(c *impl.Cluster) { c.Job.Splits = append(c.Job.Splits, impl.Part{}) },
		"a split less":              func(c *impl.Cluster) { c.Job.Splits = c.Job.Splits[:2] },
		"no task of a part":         func(c *impl.Cluster) { c.Reds = nil },
		"a task of a part less":     func(c *impl.Cluster) { c.Reds = c.Reds[:1] },
		"a task of a part more":     func(c *impl.Cluster) { c.Reds = append(c.Reds, impl.Task{}) },
		"a part more":               func(c *impl.Cluster) { c.Job.Parts = 3 },
		"a part less":               func(c *impl.Cluster) { c.Job.Parts = 1 },
		"tasks in the other list":   func(c *impl.Cluster) { c.Maps, c.Reds = c.Reds, c.Maps },
		"no workers":                func(c *impl.Cluster) { c.Up = nil },
		"a worker less":             func(c *impl.Cluster) { c.Up = c.Up[:workers-1] },
		"a worker more":             func(c *impl.Cluster) { c.Up = append(c.Up, true) },
		"a worker more that failed": func(c *impl.Cluster) { c.Up = append(c.Up, false) },
	}
}

// The tasks of mixedCluster by their state: one of a split, then one of a part, of which none is idle before.
func idleTasks(c *impl.Cluster) []*impl.Task {
	c.Reds[1] = impl.Task{}
	return []*impl.Task{&c.Maps[2], &c.Reds[1]}
}

func runningTasks(c *impl.Cluster) []*impl.Task { return []*impl.Task{&c.Maps[1], &c.Reds[1]} }

func doneTasks(c *impl.Cluster) []*impl.Task { return []*impl.Task{&c.Maps[0], &c.Reds[0]} }

func allTasks(c *impl.Cluster) []*impl.Task {
	return []*impl.Task{&c.Maps[0], &c.Maps[1], &c.Maps[2], &c.Reds[0], &c.Reds[1]}
}

func brokenForms() map[string]func(c *impl.Cluster) {
	rules := map[string]func(c *impl.Cluster){}
	for _, state := range []int64{-1, 3, 1 << 32, -1 << 32, 1<<32 + 1, 1<<8 + 2, math.MaxInt64, math.MinInt64} {
		for i := range 5 {
			name := "task " + strconv.Itoa(i) + " in state " + strconv.FormatInt(state, 10)
			rules[name] = func(c *impl.Cluster) { allTasks(c)[i].State = state }
			rules[name+" and no more"] = func(c *impl.Cluster) { *allTasks(c)[i] = impl.Task{State: state} }
		}
	}
	for i, of := range []string{" of a split", " of a part"} {
		for _, w := range append(outside(workers), 1, 2, 3) {
			rules["idle task"+of+" with worker "+strconv.FormatInt(w, 10)] = func(c *impl.Cluster) { idleTasks(c)[i].Worker = w }
		}
		rules["idle task"+of+" with output"] = func(c *impl.Cluster) { idleTasks(c)[i].Out = make([]impl.Part, 2) }
		rules["idle task"+of+" with its output"] = func(c *impl.Cluster) { idleTasks(c)[i].Out = partsOf(words("a=2"), nil) }
		rules["idle task"+of+" with totals"] = func(c *impl.Cluster) { idleTasks(c)[i].Totals = totalsOf("=4 b=5") }
		rules["running task"+of+" with output"] = func(c *impl.Cluster) { runningTasks(c)[i].Out = make([]impl.Part, 2) }
		rules["running task"+of+" with its output"] = func(c *impl.Cluster) { runningTasks(c)[i].Out = partsOf(words("a=10"), words("=4")) }
		rules["running task"+of+" with totals"] = func(c *impl.Cluster) { runningTasks(c)[i].Totals = totalsOf("=4 b=5") }
		rules["completed task"+of+" without output"] = func(c *impl.Cluster) { doneTasks(c)[i].Out, doneTasks(c)[i].Totals = nil, nil }
		rules["completed task"+of+" with both outputs"] = func(c *impl.Cluster) {
			doneTasks(c)[i].Out, doneTasks(c)[i].Totals = partsOf(words("a=3"), words("b=5")), totalsOf("a=15")
		}
	}
	rules["completed task of a part with output without rows"] = func(c *impl.Cluster) { c.Reds[0].Out = make([]impl.Part, 1) }
	rules["idle task that completed"] = func(c *impl.Cluster) { c.Maps[0].State = tsIdle }
	rules["running task that completed"] = func(c *impl.Cluster) { c.Maps[0].State = tsRuns }
	return rules
}

func brokenOutputs() map[string]func(c *impl.Cluster) {
	outputs := map[string][]impl.Part{
		"no output":       nil,
		"first part only": partsOf(words("a=3")),
		"a part too many": partsOf(words("a=3"), words("b=5"), nil),
		"parts exchanged": partsOf(words("b=5"), words("a=3")),
		"another value":   partsOf(words("a=4"), words("b=5")),
		"another key":     partsOf(words("c=3"), words("b=5")),
		"another tag":     partsOf([]impl.Row{{Key: "a", Tag: 1, Val: "3"}}, words("b=5")),
		"a row more":      partsOf(words("a=3 a=3"), words("b=5")),
		"a row less":      partsOf(words("a=3"), nil),
		"one part of all": partsOf(words("a=3 b=5"), nil),
		"another split":   partsOf(words("a=10"), words("=4")),
	}
	totals := map[string][]impl.Total{
		"none":           nil,
		"another number": totalsOf("a=14"),
		"another key":    totalsOf("c=15"),
		"one more":       totalsOf("a=15 b=5"),
		"twice":          totalsOf("a=15 a=15"),
		"another part":   totalsOf("=4 b=5"),
		"not valid":      totalsOf("a=-1"),
	}
	rules := map[string]func(c *impl.Cluster){
		"all totals of a part": func(c *impl.Cluster) { c.Reds[1] = doneRed(1, "b=5") },
		"order of totals":      func(c *impl.Cluster) { c.Reds[1] = doneRed(1, "b=5 =4") },
	}
	for name, out := range outputs {
		rules["output of a split: "+name] = func(c *impl.Cluster) { c.Maps[0].Out = out }
	}
	for name, l := range totals {
		rules["totals of a part: "+name] = func(c *impl.Cluster) { c.Reds[0].Totals = l }
	}
	return rules
}

func brokenWorkers() map[string]func(c *impl.Cluster) {
	rules := map[string]func(c *impl.Cluster){
		"running task of a split on a worker that failed":   func(c *impl.Cluster) { c.Maps[1].Worker = 3 },
		"running task of a part on a worker that failed":    func(c *impl.Cluster) { c.Reds[1].Worker = 3 },
		"completed task of a split on a worker that failed": func(c *impl.Cluster) { c.Maps[0].Worker = 3 },
		"the worker of a completed split failed":            func(c *impl.Cluster) { c.Up[1], c.Reds[1].Worker = false, 2 },
		"the worker of a running split failed":              func(c *impl.Cluster) { c.Up[2] = false },
		"the worker of a running part failed":               func(c *impl.Cluster) { c.Up[1], c.Maps[0].Worker = false, 2 },
	}
	for _, w := range outside(workers) {
		name := " on worker " + strconv.FormatInt(w, 10)
		for i, of := range []string{" of a split", " of a part"} {
			rules["running task"+of+name] = func(c *impl.Cluster) { runningTasks(c)[i].Worker = w }
			rules["completed task"+of+name] = func(c *impl.Cluster) { doneTasks(c)[i].Worker = w }
		}
	}
	return rules
}

// TestRejectedClusters has the fixed result of each function, whatever its other argument is.
func TestRejectedClusters(t *testing.T) {
	steps := []impl.Step{{}, mapOn(2, 0), redOn(0, 0), end(1), kill(1), up(3), {Kind: 9}, mapOn(-1, 9)}
	for name, c := range invalidClusters(t) {
		for _, s := range steps {
			got, code := impl.ClusterDo(c, s)
			if code != ccForm {
				t.Errorf("%s: code %d", name, code)
			}
			noCluster(t, name, got)
		}
		for n := range steps {
			got, codes := impl.ClusterPlay(c, steps[:n])
			if len(codes) != 0 {
				t.Errorf("%s: codes %v", name, codes)
			}
			noCluster(t, name, got)
		}
		got, ok := impl.Finished(c)
		if ok {
			t.Errorf("%s: finished", name)
		}
		noCluster(t, name, got)
		totals, ok := impl.ResultOf(c)
		rejected(t, name, len(totals), ok)
	}
}

func TestStepsOfAJob(t *testing.T) {
	c := newCluster(t, exampleJob())
	c = after(t, c, mapOn(1, 3))
	sameTasks(t, "splits", c.Maps, impl.Task{}, running(3), impl.Task{})
	c = after(t, c, mapOn(0, 3), mapOn(2, 0), end(2), end(1))
	sameTasks(t, "splits", c.Maps, running(3), doneMap(3, words("a=10"), words("=4")), doneMap(0, words("a=2"), nil))
	c = after(t, c, end(0))
	sameTasks(t, "splits", c.Maps, doneMap(3, words("a=3"), words("b=5")), doneMap(3, words("a=10"), words("=4")), doneMap(0, words("a=2"), nil))
	sameTasks(t, "parts", c.Reds, impl.Task{}, impl.Task{})
	c = after(t, c, redOn(1, 2), redOn(0, 2))
	sameTasks(t, "parts", c.Reds, running(2), running(2))
	c = after(t, c, end(4))
	sameTasks(t, "parts", c.Reds, running(2), doneRed(2, "=4 b=5"))
	c = after(t, c, end(3))
	sameTasks(t, "parts", c.Reds, doneRed(2, "a=15"), doneRed(2, "=4 b=5"))
	sameTotals(t, "result", resultOf(t, c), totalsOf("=4 a=15 b=5"))
	for i := range int64(5) {
		refused(t, c, end(i), ccNot)
	}
}

func TestTasksAreBegunOnce(t *testing.T) {
	c := after(t, newCluster(t, exampleJob()), mapOn(0, 1))
	for w := range int64(workers) {
		refused(t, c, mapOn(0, w), ccNot)
	}
	c = after(t, c, end(0))
	for w := range int64(workers) {
		refused(t, c, mapOn(0, w), ccNot)
	}
	c = after(t, newCluster(t, exampleJob()), splitsEnded(c, 1)...)
	c = after(t, c, redOn(1, 2))
	for w := range int64(workers) {
		refused(t, c, redOn(1, w), ccNot)
	}
	c = after(t, c, end(4))
	for w := range int64(workers) {
		refused(t, c, redOn(1, w), ccNot)
	}
	c = after(t, c, kill(2))
	refused(t, c, redOn(1, 1), ccNot)
}

func TestTasksNeedAWorkerThatIsUp(t *testing.T) {
	c := newCluster(t, exampleJob())
	for w := range int64(workers) {
		down := after(t, c, kill(w))
		for i := range int64(3) {
			refused(t, down, mapOn(i, w), ccNot)
			after(t, down, mapOn(i, (w+1)%workers))
			after(t, down, up(w), mapOn(i, w))
		}
		ready := after(t, after(t, c, splitsEnded(c, (w+1)%workers)...), kill(w))
		for p := range int64(2) {
			refused(t, ready, redOn(p, w), ccNot)
			after(t, ready, redOn(p, (w+1)%workers))
			after(t, ready, up(w), redOn(p, w))
		}
	}
}

// TestPartsNeedAllSplits leaves one split undone, in each way.
func TestPartsNeedAllSplits(t *testing.T) {
	c := newCluster(t, exampleJob())
	all := after(t, c, mapOn(0, 0), end(0), mapOn(1, 1), end(1), mapOn(2, 2), end(2))
	for p := range int64(2) {
		refused(t, c, redOn(p, 3), ccNot)
		sameTasks(t, "parts", after(t, all, redOn(p, 3)).Reds[p:p+1], running(3))
		for i := range int64(3) {
			lost := after(t, all, kill(i))
			refused(t, lost, redOn(p, 3), ccNot)
			again := after(t, lost, mapOn(i, 3))
			refused(t, again, redOn(p, 3), ccNot)
			after(t, again, end(i), redOn(p, 3))
		}
	}
}

// TestPartEndsAfterAnOutputWasLost ends a task of a part while each split in turn is idle or runs again.
func TestPartEndsAfterAnOutputWasLost(t *testing.T) {
	c := newCluster(t, exampleJob())
	all := after(t, c, mapOn(0, 0), end(0), mapOn(1, 1), end(1), mapOn(2, 2), end(2), redOn(0, 3), redOn(1, 3))
	for i := range int64(3) {
		lost := after(t, all, kill(i))
		sameTasks(t, "parts still run", lost.Reds, running(3), running(3))
		sameTasks(t, "first part", after(t, lost, end(3)).Reds, impl.Task{}, running(3))
		sameTasks(t, "second part", after(t, lost, end(4)).Reds, running(3), impl.Task{})
		ended := after(t, lost, end(3))
		sameTasks(t, "splits", ended.Maps, lost.Maps...)
		refused(t, ended, end(3), ccNot)
		refused(t, ended, redOn(0, 3), ccNot)
		again := after(t, lost, mapOn(i, 3))
		sameTasks(t, "while the split runs", after(t, again, end(4)).Reds, running(3), impl.Task{})
		redone := after(t, again, end(i), end(4))
		sameTasks(t, "when the split is done again", redone.Reds, running(3), doneRed(3, "=4 b=5"))
		other := (i + 1) % 3
		begun := after(t, again, end(3), end(i), redOn(0, other), end(3))
		sameTasks(t, "begun again", begun.Reds, doneRed(other, "a=15"), running(3))
	}
}

// TestWorkerFails has each worker fail with tasks of all kinds: of splits and parts, running and completed.
func TestWorkerFails(t *testing.T) {
	c := mixedCluster(t)
	first, part := c.Maps[0], c.Reds[0]
	sameTasks(t, "splits", c.Maps, doneMap(1, words("a=3"), words("b=5")), running(2), impl.Task{})
	sameTasks(t, "parts", c.Reds, doneRed(3, "a=15"), running(1))
	d := after(t, c, kill(0))
	sameTasks(t, "splits without worker 0", d.Maps, first, running(2), impl.Task{})
	sameTasks(t, "parts without worker 0", d.Reds, part, running(1))
	d = after(t, c, kill(1))
	sameTasks(t, "splits without worker 1", d.Maps, impl.Task{}, running(2), impl.Task{})
	sameTasks(t, "parts without worker 1", d.Reds, part, impl.Task{})
	d = after(t, c, kill(2))
	sameTasks(t, "splits without worker 2", d.Maps, first, impl.Task{}, impl.Task{})
	sameTasks(t, "parts without worker 2", d.Reds, part, running(1))
	d = after(t, c, up(3), kill(3))
	sameTasks(t, "splits without worker 3", d.Maps, c.Maps...)
	sameTasks(t, "parts without worker 3", d.Reds, c.Reds...)
	d = after(t, c, kill(0), kill(1), kill(2))
	sameTasks(t, "no splits", d.Maps, impl.Task{}, impl.Task{}, impl.Task{})
	sameTasks(t, "done part", d.Reds, part, impl.Task{})
}

// TestWorkersOfAllTasksFail has one worker with everything.
func TestWorkersOfAllTasksFail(t *testing.T) {
	for w := range int64(workers) {
		c := newCluster(t, exampleJob())
		c = after(t, after(t, c, splitsEnded(c, w)...), redOn(0, w), end(3), redOn(1, w), kill(w))
		sameTasks(t, "splits", c.Maps, impl.Task{}, impl.Task{}, impl.Task{})
		sameTasks(t, "parts", c.Reds, doneRed(w, "a=15"), impl.Task{})
		back := after(t, c, up(w))
		sameTasks(t, "splits when it is up", back.Maps, c.Maps...)
		sameTasks(t, "parts when it is up", back.Reds, c.Reds...)
	}
}

func TestWorkersAreUpOrNot(t *testing.T) {
	c := newCluster(t, exampleJob())
	for w := range int64(workers) {
		want := []bool{true, true, true, true}
		refused(t, c, up(w), ccNot)
		down := after(t, c, kill(w))
		want[w] = false
		if !slices.Equal(down.Up, want) {
			t.Errorf("worker %d fails: %v", w, down.Up)
		}
		refused(t, down, kill(w), ccNot)
		sameCluster(t, "up again", after(t, down, up(w)), c)
		sameCluster(t, "down again", after(t, down, up(w), kill(w)), down)
	}
	none := after(t, c, kill(2), kill(0), kill(3), kill(1))
	for w := range int64(workers) {
		refused(t, none, kill(w), ccNot)
		refused(t, none, mapOn(0, w), ccNot)
	}
}

// TestStepsBeyondBothEnds has CcForm also where CcNot would apply.
func TestStepsBeyondBothEnds(t *testing.T) {
	for name, c := range validClusters(t) {
		n, m := int64(len(c.Maps)), int64(len(c.Reds))
		for _, kind := range invalidSteps() {
			refused(t, c, impl.Step{Kind: kind}, ccForm)
			refused(t, c, impl.Step{Kind: kind, Task: -1, Worker: 9}, ccForm)
		}
		for _, w := range outside(workers) {
			for i := range n {
				refused(t, c, mapOn(i, w), ccForm)
			}
			for p := range m {
				refused(t, c, redOn(p, w), ccForm)
			}
			refused(t, c, kill(w), ccForm)
			refused(t, c, up(w), ccForm)
		}
		for w := range int64(workers) {
			for _, i := range outside(n) {
				refused(t, c, mapOn(i, w), ccForm)
			}
			for _, p := range outside(m) {
				refused(t, c, redOn(p, w), ccForm)
			}
		}
		for _, i := range outside(n + m) {
			refused(t, c, end(i), ccForm)
		}
		for i := range n + m {
			if got, code := impl.ClusterDo(c, end(i)); code == ccForm {
				t.Errorf("%s: task %d: %+v", name, i, got)
			}
		}
	}
}

// TestStepsIgnoreWhatTheyDoNotUse compares steps with others that differ where it does not count.
func TestStepsIgnoreWhatTheyDoNotUse(t *testing.T) {
	c := mixedCluster(t)
	for _, x := range append(outside(5), 0, 1, 2, 3) {
		for i := range int64(5) {
			s := end(i)
			s.Worker = x
			got, code := impl.ClusterDo(c, s)
			want, wantCode := impl.ClusterDo(c, end(i))
			sameCluster(t, "end", got, want)
			if code != wantCode {
				t.Errorf("end of task %d with worker %d: code %d, want %d", i, x, code, wantCode)
			}
		}
		for w := range int64(workers) {
			for _, s := range []impl.Step{kill(w), up(w)} {
				other := s
				other.Task = x
				got, code := impl.ClusterDo(c, other)
				want, wantCode := impl.ClusterDo(c, s)
				sameCluster(t, "worker", got, want)
				if code != wantCode {
					t.Errorf("%+v: code %d, want %d", other, code, wantCode)
				}
			}
		}
	}
}

func TestJobWithoutSplits(t *testing.T) {
	for _, splits := range [][]impl.Part{nil, {}} {
		c := newCluster(t, impl.Job{Kind: rdSum, Parts: 2, Splits: splits})
		refused(t, c, mapOn(0, 0), ccForm)
		refused(t, c, end(0), ccNot)
		refused(t, c, end(2), ccForm)
		c = after(t, c, redOn(1, 3), kill(0), end(1))
		sameTasks(t, "parts", c.Reds, impl.Task{}, doneRed(3, ""))
		got, ok := impl.ResultOf(c)
		rejected(t, "early", len(got), ok)
		c = after(t, c, redOn(0, 1), end(0))
		sameTotals(t, "result", resultOf(t, c), nil)
		sameTasks(t, "finished", finished(t, newCluster(t, c.Job)).Reds, doneRed(0, ""), doneRed(0, ""))
	}
}

// TestStepsAgreeWithTheirRules compares random steps with those of byHand.
func TestStepsAgreeWithTheirRules(t *testing.T) {
	r := newRand()
	seen := map[int64]int{}
	for _, j := range randomJobs(r) {
		c := newCluster(t, j)
		for range 150 {
			s := randomStep(r, c)
			want, wantCode := byHand(t, c, s)
			got, code := impl.ClusterDo(c, s)
			if code != wantCode {
				t.Fatalf("%+v: code %d, want %d, for %+v", s, code, wantCode, c)
			}
			sameCluster(t, "step", got, want)
			if !impl.ClusterOk(got) {
				t.Fatalf("%+v: not valid any more: %+v", s, got)
			}
			seen[code]++
			c = got
		}
	}
	for _, code := range []int64{ccOk, ccForm, ccNot} {
		if seen[code] < 100 {
			t.Errorf("code %d: %d times only", code, seen[code])
		}
	}
}

// TestPromise9ResultIsThatOfTheJob finishes clusters at each point of random failures. What a part has when it is done, it keeps.
func TestPromise9ResultIsThatOfTheJob(t *testing.T) {
	r := newRand()
	results := 0
	for _, j := range randomJobs(r) {
		want := runJob(t, j)
		c := newCluster(t, j)
		for range 120 {
			next, _ := impl.ClusterDo(c, randomStep(r, c))
			for p, x := range c.Reds {
				if x.State == tsDone {
					sameTasks(t, "completed task of a part", next.Reds[p:p+1], x)
				}
			}
			c = next
			sameTotals(t, "finished", resultOf(t, finished(t, c)), want)
			if totals, ok := impl.ResultOf(c); ok {
				sameTotals(t, "result", totals, want)
				results++
			}
		}
	}
	if results == 0 {
		t.Error("no cluster was done by steps alone")
	}
}

// TestPromise9WhereTasksRun has each task on each worker, and in another order.
func TestPromise9WhereTasksRun(t *testing.T) {
	for name, j := range validJobs() {
		want := runJob(t, j)
		n := int64(len(j.Splits))
		for first := range int64(workers) {
			c := newCluster(t, j)
			var steps []impl.Step
			for k := range n {
				i := n - 1 - k
				steps = append(steps, mapOn(i, (first+i)%workers), end(i))
			}
			for p := range j.Parts {
				steps = append(steps, redOn(p, (first+p)%workers))
			}
			for p := range j.Parts {
				steps = append(steps, end(n+p))
			}
			c = after(t, c, steps...)
			sameTotals(t, name, resultOf(t, c), want)
			c = after(t, c, kill(first), kill((first+1)%workers))
			sameTotals(t, name+" after failures", resultOf(t, c), want)
		}
	}
}

func TestFinished(t *testing.T) {
	j := exampleJob()
	out := func(w0 int64, w1 int64, w2 int64) []impl.Task {
		return []impl.Task{doneMap(w0, words("a=3"), words("b=5")), doneMap(w1, words("a=10"), words("=4")), doneMap(w2, words("a=2"), nil)}
	}
	f := finished(t, newCluster(t, j))
	all := impl.Cluster{Job: j, Maps: out(0, 0, 0), Reds: []impl.Task{doneRed(0, "a=15"), doneRed(0, "=4 b=5")}, Up: []bool{true, true, true, true}}
	sameCluster(t, "new", f, all)
	sameCluster(t, "finished", finished(t, f), all)
	down := after(t, newCluster(t, j), kill(3), kill(2), kill(1), kill(0))
	all.Up = []bool{true, false, false, false}
	sameCluster(t, "all down", finished(t, down), all)
	f = finished(t, mixedCluster(t))
	sameCluster(t, "mixed", f, impl.Cluster{
		Job: j, Maps: out(1, 2, 0), Reds: []impl.Task{doneRed(3, "a=15"), doneRed(1, "=4 b=5")}, Up: []bool{true, true, true, false},
	})
	lost := after(t, f, kill(1), kill(0))
	sameCluster(t, "splits lost", finished(t, lost), impl.Cluster{
		Job: j, Maps: out(0, 2, 0), Reds: f.Reds, Up: []bool{true, false, true, false},
	})
	runs := after(t, newCluster(t, j), mapOn(0, 3), mapOn(2, 1))
	sameTasks(t, "running splits", finished(t, runs).Maps, out(3, 0, 1)...)
	for name, c := range validClusters(t) {
		sameCluster(t, name, finished(t, c), finishedByHand(t, c))
		sameCluster(t, name+" twice", finished(t, finished(t, c)), finishedByHand(t, c))
	}
}

// finishedByHand begins only what is idle and ends only what runs.
func finishedByHand(t *testing.T, c impl.Cluster) impl.Cluster {
	t.Helper()
	if !c.Up[0] {
		c = after(t, c, up(0))
	}
	for i := range int64(len(c.Maps) + len(c.Reds)) {
		x, begin := impl.Task{}, impl.Step{}
		if n := int64(len(c.Maps)); i < n {
			x, begin = c.Maps[i], mapOn(i, 0)
		} else {
			x, begin = c.Reds[i-n], redOn(i-n, 0)
		}
		if x.State == tsIdle {
			c = after(t, c, begin)
		}
		if x.State != tsDone {
			c = after(t, c, end(i))
		}
	}
	return c
}

func TestResultOf(t *testing.T) {
	f := finished(t, newCluster(t, exampleJob()))
	sameTotals(t, "finished", resultOf(t, f), totalsOf("=4 a=15 b=5"))
	sameTotals(t, "splits lost", resultOf(t, after(t, f, kill(0))), totalsOf("=4 a=15 b=5"))
	for p := range 2 {
		for _, x := range []impl.Task{{}, running(1)} {
			c := copied(f)
			c.Reds[p] = x
			got, ok := impl.ResultOf(c)
			rejected(t, "a part is not done", len(got), ok)
		}
	}
	got, ok := impl.ResultOf(newCluster(t, exampleJob()))
	rejected(t, "new", len(got), ok)
	got, ok = impl.ResultOf(mixedCluster(t))
	rejected(t, "mixed", len(got), ok)
	for name, j := range validJobs() {
		sameTotals(t, name, resultOf(t, finished(t, newCluster(t, j))), runJob(t, j))
	}
}

// TestResultOfMostKeys has keys that alternate between the parts.
func TestResultOfMostKeys(t *testing.T) {
	for parts := int64(1); parts <= maxParts; parts++ {
		for _, kind := range allReductions() {
			j := impl.Job{Kind: kind, Parts: parts, Splits: partsOf(distinctRows(maxRows)[60:], distinctRows(60))}
			sameTotals(t, "result", resultOf(t, finished(t, newCluster(t, j))), totalsByHand(distinctRows(maxRows), kind))
		}
	}
}

func played(t *testing.T, c impl.Cluster, steps []impl.Step) (impl.Cluster, []int64) {
	t.Helper()
	got, codes := impl.ClusterPlay(c, steps)
	if len(codes) != len(steps) || len(got.Up) != workers {
		t.Fatalf("%d codes of %d steps", len(codes), len(steps))
	}
	return got, codes
}

func TestClusterPlay(t *testing.T) {
	c := newCluster(t, exampleJob())
	got, codes := played(t, c, []impl.Step{mapOn(1, 2), mapOn(1, 2), mapOn(3, 2), end(1), {}, redOn(0, 0), kill(3)})
	if want := []int64{ccOk, ccNot, ccForm, ccOk, ccForm, ccNot, ccOk}; !slices.Equal(codes, want) {
		t.Errorf("codes %v, want %v", codes, want)
	}
	sameCluster(t, "played", got, after(t, c, mapOn(1, 2), end(1), kill(3)))
	for name, c := range validClusters(t) {
		for _, none := range [][]impl.Step{nil, {}} {
			got, _ := played(t, c, none)
			sameCluster(t, name+": no steps", got, c)
		}
	}
}

func TestClusterPlayAgreesWithSteps(t *testing.T) {
	r := newRand()
	for _, j := range randomJobs(r) {
		start := newCluster(t, j)
		c := start
		var steps []impl.Step
		var want []int64
		for n := range maxSteps {
			s := randomStep(r, c)
			next, code := impl.ClusterDo(c, s)
			c, steps, want = next, append(steps, s), append(want, code)
			if n%40 == 39 {
				got, codes := played(t, start, steps)
				sameCluster(t, "played", got, c)
				if !slices.Equal(codes, want) {
					t.Fatalf("codes %v, want %v", codes, want)
				}
			}
		}
	}
}

func TestMostSteps(t *testing.T) {
	c := newCluster(t, exampleJob())
	steps := slices.Repeat([]impl.Step{kill(1), up(1)}, maxSteps/2)
	got, codes := played(t, c, steps)
	sameCluster(t, "most steps", got, c)
	if slices.ContainsFunc(codes, func(code int64) bool { return code != ccOk }) {
		t.Error(codes)
	}
	got, _ = played(t, c, steps[:maxSteps-1])
	sameCluster(t, "one step less", got, after(t, c, kill(1)))
	for _, n := range []int{1, 2, 1000, 100000} {
		for _, s := range []impl.Step{kill(1), {Kind: 9}} {
			got, codes := impl.ClusterPlay(c, append(slices.Clone(steps), slices.Repeat([]impl.Step{s}, n)...))
			if len(codes) != 0 {
				t.Errorf("%d steps: %d codes", maxSteps+n, len(codes))
			}
			noCluster(t, "too many steps", got)
		}
	}
}

// TestPlaysSideBySide has the same result in all of many plays at once.
func TestPlaysSideBySide(t *testing.T) {
	r := newRand()
	c := newCluster(t, exampleJob())
	walk := c
	var steps []impl.Step
	for range maxSteps {
		s := randomStep(r, walk)
		steps = append(steps, s)
		walk, _ = impl.ClusterDo(walk, s)
	}
	var all sync.WaitGroup
	for range 8 {
		all.Go(func() {
			for range 20 {
				got, codes := impl.ClusterPlay(c, steps)
				if !equalClusters(got, walk) || len(codes) != maxSteps {
					t.Errorf("another result: %+v, %v", got, codes)
				}
			}
		})
	}
	all.Wait()
}

// TestPlaysLeaveNoGoroutine waits a while, as a goroutine that has done its work may not have ended yet.
func TestPlaysLeaveNoGoroutine(t *testing.T) {
	before := runtime.NumGoroutine()
	c := newCluster(t, exampleJob())
	for range 100 {
		impl.ClusterPlay(c, []impl.Step{mapOn(0, 0), {}, end(0)})
		impl.ClusterPlay(c, nil)
		impl.ClusterPlay(c, make([]impl.Step, maxSteps+1))
		impl.ClusterPlay(impl.Cluster{}, make([]impl.Step, maxSteps))
		impl.Finished(c)
	}
	for range 1000 {
		if runtime.NumGoroutine() <= before {
			return
		}
		time.Sleep(time.Millisecond)
	}
	t.Errorf("%d goroutines, %d before", runtime.NumGoroutine(), before)
}

func someSteps() []impl.Step {
	return []impl.Step{{}, mapOn(2, 0), mapOn(2, 9), mapOn(0, 0), redOn(0, 0), redOn(1, 0), end(0), end(1), end(4), kill(1), kill(2), up(3), up(1)}
}

// TestClustersModifyNothingAndShareNoMemory has spare capacity in each argument, which no function may write to either.
func TestClustersModifyNothingAndShareNoMemory(t *testing.T) {
	clusters := validClusters(t)
	clusters["zero"] = impl.Cluster{}
	for name, c := range clusters {
		c = copied(c)
		arguments := memoriesOf(c)
		steps := roomy(someSteps(), impl.Step{Kind: 77})
		arguments = append(arguments, memoryOf("steps", steps, func(s impl.Step) impl.Step { return impl.Step{Kind: s.Kind + 1} }, equal))
		impl.ClusterOk(c)
		for _, s := range steps {
			got, _ := impl.ClusterDo(c, s)
			testLists(t, name+": step", memoriesOf(got), arguments)
		}
		got, codes := impl.ClusterPlay(c, steps)
		testLists(t, name+": play", append(memoriesOf(got), memoryOf("codes", codes, func(x int64) int64 { return x + 1 }, equal)), arguments)
		got, _ = impl.ClusterPlay(c, nil)
		testLists(t, name+": no steps", memoriesOf(got), arguments)
		got, _ = impl.Finished(c)
		testLists(t, name+": finished", memoriesOf(got), arguments)
		totals, _ := impl.ResultOf(c)
		testLists(t, name+": result", []memory{memoryOfTotals("totals", totals)}, arguments)
	}
}

func TestClusterNewSharesNoMemory(t *testing.T) {
	for name, j := range validJobs() {
		j.Splits = copiedParts(j.Splits)
		testLists(t, name, memoriesOf(newCluster(t, j)), memoriesOfParts("splits of the job", j.Splits))
	}
}

func TestEqualArgumentsYieldEqualClusters(t *testing.T) {
	for name, c := range validClusters(t) {
		again := copied(c)
		sameCluster(t, name, newCluster(t, again.Job), newCluster(t, c.Job))
		for _, s := range someSteps() {
			got, code := impl.ClusterDo(again, s)
			want, wantCode := impl.ClusterDo(c, s)
			sameCluster(t, name+": step", got, want)
			if code != wantCode {
				t.Errorf("%s: %+v: code %d, then %d", name, s, wantCode, code)
			}
		}
		for range 5 {
			got, codes := played(t, again, someSteps())
			want, wantCodes := played(t, c, someSteps())
			sameCluster(t, name+": play", got, want)
			if !slices.Equal(codes, wantCodes) {
				t.Errorf("%s: codes %v, then %v", name, wantCodes, codes)
			}
		}
		sameCluster(t, name+": finished", finished(t, again), finished(t, c))
		sameTotals(t, name, resultOf(t, finished(t, again)), resultOf(t, finished(t, c)))
	}
}
