package tests

import (
	"math"
	"math/rand"
	"slices"
	"testing"

	"loop.example/g00630/impl"
)

// The numbers as the specification states them.
const (
	tsIdle = 0
	tsRuns = 1
	tsDone = 2

	stMap  = 1
	stRed  = 2
	stEnd  = 3
	stKill = 4
	stUp   = 5

	ccOk   = 0
	ccForm = 1
	ccNot  = 2

	workers  = 4
	maxSteps = 200
)

func mapOn(task int64, worker int64) impl.Step {
	return impl.Step{Kind: stMap, Task: task, Worker: worker}
}

func redOn(task int64, worker int64) impl.Step {
	return impl.Step{Kind: stRed, Task: task, Worker: worker}
}

func end(task int64) impl.Step { return impl.Step{Kind: stEnd, Task: task} }

func kill(worker int64) impl.Step { return impl.Step{Kind: stKill, Worker: worker} }

func up(worker int64) impl.Step { return impl.Step{Kind: stUp, Worker: worker} }

// outside returns numbers that are not in 0..n-1.
func outside(n int64) []int64 {
	return []int64{-1, n, n + 1, -n - 1, 1 << 32, -1 << 32, 1<<32 + 1, math.MaxInt64, math.MinInt64}
}

func invalidSteps() []int64 {
	return []int64{0, 6, -1, -3, 9, 1<<32 + 1, -1<<32 + 1, 1<<8 + 1, math.MaxInt64, math.MinInt64}
}

func running(worker int64) impl.Task { return impl.Task{State: tsRuns, Worker: worker} }

func doneMap(worker int64, out ...[]impl.Row) impl.Task {
	return impl.Task{State: tsDone, Worker: worker, Out: partsOf(out...)}
}

func doneRed(worker int64, totals string) impl.Task {
	return impl.Task{State: tsDone, Worker: worker, Totals: totalsOf(totals)}
}

// copied makes a copy in which every list has spare capacity with marks, so that writing there is noticed; no list of the copy is nil.
func copied(c impl.Cluster) impl.Cluster {
	return impl.Cluster{
		Job:  impl.Job{Kind: c.Job.Kind, Parts: c.Job.Parts, Splits: copiedParts(c.Job.Splits)},
		Maps: copiedTasks(c.Maps),
		Reds: copiedTasks(c.Reds),
		Up:   roomy(c.Up, true),
	}
}

func copiedParts(l []impl.Part) []impl.Part {
	parts := roomy(l, impl.Part{Rows: make([]impl.Row, 77)})
	for i := range parts {
		parts[i].Rows = roomy(parts[i].Rows, impl.Row{Key: "spare"})
	}
	return parts
}

func copiedTasks(l []impl.Task) []impl.Task {
	tasks := roomy(l, impl.Task{State: 77})
	for i := range tasks {
		tasks[i].Out = copiedParts(tasks[i].Out)
		tasks[i].Totals = roomy(tasks[i].Totals, impl.Total{Key: "spare"})
	}
	return tasks
}

func roomy[T any](l []T, mark T) []T {
	return append(slices.Clone(l), mark, mark, mark)[:len(l)]
}

func equalParts(a []impl.Part, b []impl.Part) bool {
	return slices.EqualFunc(a, b, func(x impl.Part, y impl.Part) bool { return slices.Equal(x.Rows, y.Rows) })
}

func equalTask(a impl.Task, b impl.Task) bool {
	return a.State == b.State && a.Worker == b.Worker && equalParts(a.Out, b.Out) && slices.Equal(a.Totals, b.Totals)
}

func equalClusters(a impl.Cluster, b impl.Cluster) bool {
	return a.Job.Kind == b.Job.Kind && a.Job.Parts == b.Job.Parts && equalParts(a.Job.Splits, b.Job.Splits) &&
		slices.EqualFunc(a.Maps, b.Maps, equalTask) && slices.EqualFunc(a.Reds, b.Reds, equalTask) && slices.Equal(a.Up, b.Up)
}

func sameCluster(t *testing.T, what string, got impl.Cluster, want impl.Cluster) {
	t.Helper()
	if !equalClusters(got, want) {
		t.Fatalf("%s: got %+v, want %+v", what, got, want)
	}
}

// sameTasks leaves no doubt about what a step did to each task.
func sameTasks(t *testing.T, what string, got []impl.Task, want ...impl.Task) {
	t.Helper()
	if !slices.EqualFunc(got, want, equalTask) {
		t.Fatalf("%s: got %+v, want %+v", what, got, want)
	}
}

// noCluster checks for the fixed result of a rejection, in which every list is empty.
func noCluster(t *testing.T, what string, got impl.Cluster) {
	t.Helper()
	if !equalClusters(got, impl.Cluster{}) {
		t.Errorf("%s: not the zero value: %+v", what, got)
	}
}

func newCluster(t *testing.T, j impl.Job) impl.Cluster {
	t.Helper()
	c, ok := impl.ClusterNew(j)
	if !ok {
		t.Fatalf("rejected: %+v", j)
	}
	return c
}

// after performs steps of which each must be possible.
func after(t *testing.T, c impl.Cluster, steps ...impl.Step) impl.Cluster {
	t.Helper()
	for _, s := range steps {
		next, code := impl.ClusterDo(c, s)
		if code != ccOk {
			t.Fatalf("%+v: code %d for %+v", s, code, c)
		}
		c = next
	}
	return c
}

// refused checks that a step changes nothing and has a code.
func refused(t *testing.T, c impl.Cluster, s impl.Step, want int64) {
	t.Helper()
	got, code := impl.ClusterDo(c, s)
	if code != want {
		t.Fatalf("%+v: code %d, want %d, for %+v", s, code, want, c)
	}
	sameCluster(t, "refused step", got, c)
}

func finished(t *testing.T, c impl.Cluster) impl.Cluster {
	t.Helper()
	f, ok := impl.Finished(c)
	if !ok {
		t.Fatalf("rejected: %+v", c)
	}
	return f
}

func resultOf(t *testing.T, c impl.Cluster) []impl.Total {
	t.Helper()
	totals, ok := impl.ResultOf(c)
	if !ok {
		t.Fatalf("rejected: %+v", c)
	}
	return totals
}

// splitsEnded returns the steps that complete the tasks of all splits on a worker.
func splitsEnded(c impl.Cluster, worker int64) []impl.Step {
	var steps []impl.Step
	for i := range int64(len(c.Maps)) {
		steps = append(steps, mapOn(i, worker), end(i))
	}
	return steps
}

// mixedCluster has tasks of all states: of the splits one is done, one runs and one is idle; of the parts one is done on a worker that failed later, and one runs although outputs of splits were lost.
func mixedCluster(t *testing.T) impl.Cluster {
	t.Helper()
	c := newCluster(t, exampleJob())
	return after(t, c,
		mapOn(0, 1), mapOn(1, 2), mapOn(2, 0), end(0), end(1), end(2),
		redOn(0, 3), redOn(1, 1), end(3),
		kill(3), kill(2), up(2), mapOn(1, 2), kill(0), up(0))
}

// validClusters names clusters that steps can lead to, and such with empty lists in place of none.
func validClusters(t *testing.T) map[string]impl.Cluster {
	t.Helper()
	clusters := map[string]impl.Cluster{"mixed": mixedCluster(t), "with empty lists": copied(mixedCluster(t))}
	for name, j := range validJobs() {
		c := newCluster(t, j)
		clusters[name+": new"] = c
		clusters[name+": finished"] = finished(t, c)
		clusters[name+": splits done"] = after(t, c, splitsEnded(c, 2)...)
		clusters[name+": splits lost"] = after(t, finished(t, c), kill(0))
		clusters[name+": all down"] = after(t, finished(t, c), kill(0), kill(1), kill(2), kill(3))
		begun := after(t, after(t, c, splitsEnded(c, 2)...), redOn(0, 3))
		clusters[name+": a part begun"] = begun
		clusters[name+": a part begun, splits lost"] = after(t, begun, kill(2))
	}
	return clusters
}

// byHand performs a step on a valid cluster as the specification words it, over the tasks of splits and parts in one list.
func byHand(t *testing.T, c impl.Cluster, s impl.Step) (impl.Cluster, int64) {
	t.Helper()
	n, m := int64(len(c.Maps)), int64(len(c.Reds))
	tasks := slices.Concat(c.Maps, c.Reds)
	splitsDone := !slices.ContainsFunc(c.Maps, func(x impl.Task) bool { return x.State != tsDone })
	alive := slices.Clone(c.Up)
	workerFits := s.Worker >= 0 && s.Worker < workers
	code := int64(ccOk)
	switch {
	case s.Kind == stMap && s.Task >= 0 && s.Task < n && workerFits:
		if tasks[s.Task].State != tsIdle || !alive[s.Worker] {
			return c, ccNot
		}
		tasks[s.Task] = running(s.Worker)
	case s.Kind == stRed && s.Task >= 0 && s.Task < m && workerFits:
		if tasks[n+s.Task].State != tsIdle || !alive[s.Worker] || !splitsDone {
			return c, ccNot
		}
		tasks[n+s.Task] = running(s.Worker)
	case s.Kind == stEnd && s.Task >= 0 && s.Task < n+m:
		x := tasks[s.Task]
		switch {
		case x.State != tsRuns:
			return c, ccNot
		case s.Task < n:
			x.State, x.Out = tsDone, mapTask(t, c.Job, s.Task)
		case splitsDone:
			x.State, x.Totals = tsDone, reduceTask(t, c.Job, s.Task-n, allMaps(t, c.Job, s.Task-n))
		default:
			x = impl.Task{}
		}
		tasks[s.Task] = x
	case (s.Kind == stKill || s.Kind == stUp) && workerFits:
		if alive[s.Worker] == (s.Kind == stUp) {
			return c, ccNot
		}
		alive[s.Worker] = s.Kind == stUp
		for i, x := range tasks {
			lost := x.State == tsRuns || x.State == tsDone && int64(i) < n
			if s.Kind == stKill && lost && x.Worker == s.Worker {
				tasks[i] = impl.Task{}
			}
		}
	default:
		return c, ccForm
	}
	return impl.Cluster{Job: c.Job, Maps: tasks[:n], Reds: tasks[n:], Up: alive}, code
}

// randomStep favours steps that are possible, as most tasks would stay idle otherwise.
func randomStep(r *rand.Rand, c impl.Cluster) impl.Step {
	n, m := len(c.Maps), len(c.Reds)
	s := impl.Step{Kind: int64(r.Intn(7)), Task: int64(r.Intn(n+m+3) - 1), Worker: int64(r.Intn(workers+2) - 1)}
	switch r.Intn(6) {
	case 0:
		s = mapOn(int64(r.Intn(n+1)), int64(r.Intn(workers)))
	case 1:
		s = redOn(int64(r.Intn(m)), int64(r.Intn(workers)))
	case 2, 3:
		s = end(int64(r.Intn(n + m)))
	case 4:
		if w := slices.Index(c.Up, false); w >= 0 {
			s = up(int64(w))
		}
	}
	return s
}

// randomJobs returns jobs of all kinds whose tasks are few enough for random steps to complete them.
func randomJobs(r *rand.Rand) []impl.Job {
	var jobs []impl.Job
	for i, kind := range allReductions() {
		l := randomNumbers(r, 10*(i+1), 2)
		for _, n := range []int{1, 2, 4} {
			jobs = append(jobs, impl.Job{Kind: kind, Parts: int64(1 + r.Intn(4)), Splits: randomSplits(r, l, n)})
		}
	}
	return append(jobs, impl.Job{Kind: rdSum, Parts: 2}, exampleJob())
}

// A memory is a list of a cluster with its spare capacity.
type memory struct {
	name    string
	spoil   func()
	restore func()
	intact  func() bool
}

// memoryOf compares structs by their own memory, not by that of the lists in them, which are memories themselves.
func memoryOf[T any](name string, l []T, changed func(x T) T, same func(a T, b T) bool) memory {
	all := l[:cap(l)]
	before := slices.Clone(all)
	return memory{
		name: name,
		spoil: func() {
			for i := range all {
				all[i] = changed(all[i])
			}
		},
		restore: func() { copy(all, before) },
		intact:  func() bool { return slices.EqualFunc(all, before, same) },
	}
}

func equal[T comparable](a T, b T) bool { return a == b }

func memoriesOfParts(name string, l []impl.Part) []memory {
	longer := func(p impl.Part) impl.Part { return impl.Part{Rows: make([]impl.Row, len(p.Rows)+1)} }
	sameLength := func(a impl.Part, b impl.Part) bool { return len(a.Rows) == len(b.Rows) }
	all := []memory{memoryOf(name, l, longer, sameLength)}
	for _, p := range l {
		other := func(r impl.Row) impl.Row { return impl.Row{Key: r.Key + "x"} }
		all = append(all, memoryOf(name+" rows", p.Rows, other, equal))
	}
	return all
}

func memoryOfTotals(name string, l []impl.Total) memory {
	return memoryOf(name, l, func(x impl.Total) impl.Total { return impl.Total{Key: x.Key + "x"} }, equal)
}

func memoriesOfTasks(name string, l []impl.Task) []memory {
	other := func(x impl.Task) impl.Task { return impl.Task{State: x.State + 1} }
	sameState := func(a impl.Task, b impl.Task) bool { return a.State == b.State }
	all := []memory{memoryOf(name, l, other, sameState)}
	for _, x := range l {
		all = append(all, memoriesOfParts(name+" output", x.Out)...)
		all = append(all, memoryOfTotals(name+" totals", x.Totals))
	}
	return all
}

func memoriesOf(c impl.Cluster) []memory {
	return slices.Concat(
		memoriesOfParts("splits", c.Job.Splits),
		memoriesOfTasks("maps", c.Maps),
		memoriesOfTasks("reds", c.Reds),
		[]memory{memoryOf("up", c.Up, func(up bool) bool { return !up }, equal)})
}

// untouched checks that nothing was written to, spare capacity included.
func untouched(t *testing.T, what string, all []memory) {
	t.Helper()
	for _, m := range all {
		if !m.intact() {
			t.Errorf("%s: %s was written to", what, m.name)
		}
	}
}

// testLists spoils each list of a result and looks for a change in another one or in an argument.
func testLists(t *testing.T, what string, result []memory, arguments []memory) {
	t.Helper()
	untouched(t, what, arguments)
	for i, m := range result {
		m.spoil()
		untouched(t, what+": argument, with "+m.name+" of the result", arguments)
		untouched(t, what+": result, with its "+m.name, slices.Delete(slices.Clone(result), i, i+1))
		m.restore()
	}
}
