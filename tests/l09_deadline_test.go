package tests

import (
	"math"
	"slices"
	"testing"

	"loop.example/g00255/impl"
)

func task(id, at, due, long int64) impl.Job {
	return impl.Job{Id: id, Cores: 1, Long: long, At: at, Due: due}
}

// tasks are Jobs with these At, Due and Long, with Ids from 1 on.
func tasks(times ...[3]int64) []impl.Job {
	list := []impl.Job{}
	for i, n := range times {
		list = append(list, task(int64(i+1), n[0], n[1], n[2]))
	}
	return list
}

func alikeTasks(n int, at, due, long int64) []impl.Job {
	return tasks(slices.Repeat([][3]int64{{at, due, long}}, n)...)
}

// taskFields are the Jobs' fields, three of them with a nearer end.
func taskFields() []fieldOf[impl.Job] {
	fields := jobFields()
	for i, f := range fields {
		switch f.name {
		case "At", "Due":
			fields[i].most = 200
		case "Long":
			fields[i].most = 50
		}
	}
	return fields
}

// thrownTasks are n of them, the Ids in no order; where span is short, many lists are crowded.
func thrownTasks(d *dice, n, span, longs int64) []impl.Job {
	list := []impl.Job{}
	for id := range n {
		at := d.below(span)
		list = append(list, task(id*7+1, at, min(200, at+d.below(span)), 1+d.below(longs)))
	}
	mix(d, list)
	return list
}

// thrownWork is a work of that length, and the tasks for which it is just in time.
func thrownWork(d *dice, n, length int64) (list []impl.Job, work []int64) {
	times := map[int64]*impl.Job{}
	for t := range length {
		id := d.below(n + 1)
		if j := times[id]; j != nil && j.Long == 50 {
			id = 0
		}
		work = append(work, id)
		if id > 0 && times[id] == nil {
			times[id] = &impl.Job{Id: id, Cores: 1, At: t}
		}
		if id > 0 {
			times[id].Due, times[id].Long = t+1, times[id].Long+1
		}
	}
	for id := range n {
		if j := times[id+1]; j != nil {
			list = append(list, *j)
		}
	}
	mix(d, list)
	return list, work
}

func taskLists() [][]impl.Job {
	d := dice(211)
	out := [][]impl.Job{nil, {}, {task(1000000, 200, 200, 50)}, {task(1, 0, 0, 1)}, alikeTasks(12, 200, 200, 50), alikeTasks(12, 0, 200, 50), alikeTasks(12, 0, 12, 1)}
	for _, n := range []int64{1, 2, 3, 5, 8, 11, 12} {
		for _, span := range []int64{2, 9, 40, 201} {
			for _, longs := range []int64{1, 3, 20, 50} {
				for range 4 {
					out = append(out, thrownTasks(&d, n, span, longs))
				}
			}
		}
		for _, length := range []int64{1, 5, 20, 200} {
			for range 8 {
				list, _ := thrownWork(&d, n, length)
				out = append(out, list)
			}
		}
	}
	return out
}

// noTasks are lists that are not tasks: no right Jobs, too many, or Jobs that would be tasks with one number less by one.
func noTasks() [][]impl.Job {
	out := append(spoiltLists(), alikeTasks(13, 0, 200, 1), alikeTasks(40, 0, 200, 1), []impl.Job{task(1, 0, never, 1)}, []impl.Job{task(1, never, never, 10000)})
	for _, j := range []impl.Job{task(5, 201, 200, 1), task(5, 0, 201, 1), task(5, 0, 200, 51), task(5, 201, 201, 51)} {
		for i := range 12 {
			list := alikeTasks(12, 3, 100, 2)
			list[i] = j
			list[i].Id = int64(i + 1)
			out = append(out, list, list[i:i+1])
		}
	}
	return out
}

func countDemand(list []impl.Job, from, to int64) int64 {
	sum := int64(0)
	for _, j := range list {
		if j.At < from || j.Due > to {
			continue
		}
		sum += j.Long
	}
	return sum
}

// countCrowded tries all times that can be an At or a Due.
func countCrowded(list []impl.Job) (int64, int64, bool) {
	for at := range int64(201) {
		for due := range int64(201) {
			begins := slices.ContainsFunc(list, func(j impl.Job) bool { return j.At == at })
			ends := slices.ContainsFunc(list, func(j impl.Job) bool { return j.Due == due })
			if begins && ends && countDemand(list, at, due) > max(0, due-at) {
				return at, due, true
			}
		}
	}
	return 0, 0, false
}

// countEarliest looks at all tasks anew at each time.
func countEarliest(list []impl.Job) []int64 {
	work, left := []int64{}, map[int64]int64{}
	for _, j := range list {
		left[j.Id] = j.Long
	}
	for t := int64(0); len(left) > 0; t++ {
		at := impl.Job{}
		for _, j := range list {
			if left[j.Id] > 0 && j.At <= t && (at.Id == 0 || j.Due < at.Due || j.Due == at.Due && j.Id < at.Id) {
				at = j
			}
		}
		work = append(work, at.Id)
		left[at.Id]--
		if left[at.Id] <= 0 {
			delete(left, at.Id)
		}
	}
	return work
}

// countKept looks for each task at all of work anew.
func countKept(list []impl.Job, work []int64) bool {
	known := map[int64]bool{0: true}
	for _, j := range list {
		known[j.Id] = true
		in, out := int64(0), int64(0)
		for t, id := range work {
			if id == j.Id && int64(t) >= j.At && int64(t) < j.Due {
				in++
			} else if id == j.Id {
				out++
			}
		}
		if in != j.Long || out != 0 {
			return false
		}
	}
	return !slices.ContainsFunc(work, func(id int64) bool { return !known[id] })
}

// canKeep gives each part of a task a time of its own, and another one to whoever has it, as long as that helps.
func canKeep(list []impl.Job) bool {
	has := [200]int{}
	var give func(i int, seen *[200]bool) bool
	give = func(i int, seen *[200]bool) bool {
		for t := list[i].At; t < list[i].Due; t++ {
			if seen[t] {
				continue
			}
			seen[t] = true
			if has[t] == 0 || give(has[t]-1, seen) {
				has[t] = i + 1
				return true
			}
		}
		return false
	}
	for i, j := range list {
		for range j.Long {
			if !give(i, &[200]bool{}) {
				return false
			}
		}
	}
	return true
}

func looksCrowded(t *testing.T, list []impl.Job, at, due int64, is bool) {
	t.Helper()
	if a, b, c := impl.Crowded(list); a != at || b != due || c != is {
		t.Fatalf("Crowded of %v: %d, %d and %v, not %d, %d and %v", list, a, b, c, at, due, is)
	}
}

func looksKept(t *testing.T, what string, list []impl.Job, work []int64, want bool) {
	t.Helper()
	if got := impl.Kept(list, work); got != want {
		t.Fatalf("%s: of %v %v is kept: %v", what, list, work, got)
	}
}

// looksTill is promise 9, and all that chapter 9 tells of a list of tasks.
func looksTill(t *testing.T, list []impl.Job) {
	t.Helper()
	if !impl.TasksOk(list) {
		t.Fatalf("%v are no tasks", list)
	}
	at, due, is := countCrowded(list)
	looksCrowded(t, list, at, due, is)
	if can := canKeep(list); can == is {
		t.Fatalf("%v can be kept: %v, and is Crowded at %d and %d: %v", list, can, at, due, is)
	}
	if asked := impl.Demand(list, at, due); is && asked <= max(0, due-at) {
		t.Fatalf("%v is Crowded at %d and %d, but Demand is %d", list, at, due, asked)
	}
	work := impl.Earliest(list)
	if want := countEarliest(list); !slices.Equal(work, want) {
		t.Fatalf("Earliest of %v:\n%v, not\n%v", list, work, want)
	}
	looksKept(t, "Horn", list, work, !is)
	for _, j := range list {
		for _, k := range list {
			for _, by := range []int64{-1, 0, 1} {
				for _, ends := range [][2]int64{{j.At + by, k.Due}, {j.At, k.Due + by}, {k.Due, j.At + by}} {
					if got, want := impl.Demand(list, ends[0], ends[1]), countDemand(list, ends[0], ends[1]); got != want {
						t.Fatalf("Demand of %v from %d to %d: %d, not %d", list, ends[0], ends[1], got, want)
					}
				}
			}
		}
	}
}

// looksNoTasks looks for what is answered of a list that is no tasks, whatever the works are.
func looksNoTasks(t *testing.T, list []impl.Job, works ...[]int64) {
	t.Helper()
	if impl.TasksOk(list) {
		t.Fatalf("%v are tasks", list)
	}
	for _, ends := range [][2]int64{{0, 200}, {0, 0}, {200, 0}, {-1, 201}, {math.MinInt64, math.MaxInt64}, {math.MaxInt64, math.MinInt64}} {
		if got := impl.Demand(list, ends[0], ends[1]); got != -1 {
			t.Fatalf("Demand of %v from %d to %d: %d", list, ends[0], ends[1], got)
		}
	}
	looksCrowded(t, list, 0, 0, false)
	if got := impl.Earliest(list); len(got) != 0 {
		t.Fatalf("Earliest of %v: %v", list, got)
	}
	for _, work := range append(works, nil, []int64{}, []int64{0}, []int64{1}) {
		looksKept(t, "no tasks", list, work, false)
	}
}

func TestTasksOk(t *testing.T) {
	for _, f := range taskFields() {
		for _, n := range []int64{f.least, f.least + 1, f.most - 1, f.most} {
			if list := []impl.Job{with(task(3, 7, 9, 2), f, n)}; !impl.TasksOk(list) {
				t.Errorf("%s %d is refused: %v", f.name, n, list)
			}
		}
	}
	for _, j := range spoilt(task(3, 7, 9, 2), taskFields()) {
		looksNoTasks(t, []impl.Job{j}, countEarliest(tasks([3]int64{7, 9, 2})))
		looksNoTasks(t, []impl.Job{task(1, 0, 9, 1), j, task(2, 0, 9, 1)})
	}
	for n := range 12 {
		looksTill(t, alikeTasks(n+1, 0, 200, 50))
		looksTill(t, alikeTasks(n+1, 200, 0, 1))
	}
	for _, n := range []int{13, 14, 40, 41, 400} {
		looksNoTasks(t, alikeTasks(n, 0, 200, 1), countEarliest(alikeTasks(n, 0, 200, 1)), countEarliest(alikeTasks(12, 0, 200, 1)))
	}
	for i := range 12 {
		for k := range i {
			list := alikeTasks(12, 0, 200, 2)
			list[i].Id = list[k].Id
			looksNoTasks(t, list, countEarliest(list[:i]), countEarliest(alikeTasks(12, 0, 200, 2)))
			list[i].Long, list[i].Due = 3, 9
			looksNoTasks(t, list)
		}
	}
}

// What would be kept if it were of tasks.
func TestWrongTasksAreRefused(t *testing.T) {
	for _, list := range noTasks() {
		looksNoTasks(t, list, []int64{0, 0, 0, 1, 1, 2, 2, 3, 3, 4, 4}, []int64{1, 2, 3, 4, 1, 2, 3, 4})
	}
	late := append(make([]int64, 201), 1)
	looksNoTasks(t, tasks([3]int64{0, 202, 1}), late)
	looksNoTasks(t, tasks([3]int64{201, 202, 1}), late)
	looksNoTasks(t, tasks([3]int64{0, 200, 51}), slices.Repeat([]int64{1}, 51))
	looksNoTasks(t, []impl.Job{task(0, 0, 9, 1)}, []int64{0})
	looksNoTasks(t, []impl.Job{task(-1, 0, 9, 1)}, []int64{-1})
	looksNoTasks(t, []impl.Job{task(1000001, 0, 9, 1)}, []int64{1000001})
	looksNoTasks(t, tasks([3]int64{0, 9, 0}), nil)
	looksNoTasks(t, []impl.Job{task(1, 0, 9, 2), task(1, 0, 9, 2)}, []int64{1, 1}, []int64{1, 1, 1, 1})
}

func TestDemandTable(t *testing.T) {
	const least, most = math.MinInt64, math.MaxInt64
	list := []impl.Job{task(4, 0, 9, 3), task(2, 1, 3, 2), task(9, 1, 9, 10), task(1, 5, 4, 20), task(3, 200, 200, 50), task(8, 3, 0, 40)}
	for _, c := range []struct{ from, to, want int64 }{
		{0, 9, 3 + 2 + 10 + 20 + 40}, {0, 200, 3 + 2 + 10 + 20 + 50 + 40}, {0, 199, 3 + 2 + 10 + 20 + 40}, {0, 201, 125}, {-1, 9, 75},
		{1, 9, 2 + 10 + 20 + 40}, {2, 9, 20 + 40}, {3, 9, 20 + 40}, {4, 9, 20}, {5, 9, 20}, {6, 9, 0},
		{0, 8, 2 + 20 + 40}, {0, 4, 2 + 20 + 40}, {0, 3, 2 + 40}, {1, 3, 2 + 40}, {2, 3, 40}, {0, 2, 40}, {0, 0, 40}, {0, -1, 0},
		// to ahead of from: those with a Due ahead of their At are within
		{5, 4, 20}, {5, 3, 0}, {3, 0, 40}, {3, 4, 20 + 40}, {9, 0, 0},
		{200, 200, 50}, {200, 199, 0}, {201, 200, 0}, {201, 201, 0}, {200, never, 50}, {never, never, 0}, {never + 1, never + 1, 0}, {-never, never + 1, 125},
		{least, most, 125}, {least, least, 0}, {most, most, 0}, {most, least, 0}, {least, 0, 40}, {200, most, 50}, {1, most, 122},
	} {
		if got := impl.Demand(list, c.from, c.to); got != c.want {
			t.Errorf("from %d to %d: %d, not %d", c.from, c.to, got, c.want)
		}
		if got := impl.Demand(nil, c.from, c.to); got != 0 {
			t.Errorf("from %d to %d of no Jobs: %d", c.from, c.to, got)
		}
	}
	if got := impl.Demand(alikeTasks(12, 200, 200, 50), 200, 200); got != 600 {
		t.Errorf("the most: %d", got)
	}
}

func TestCrowdedTable(t *testing.T) {
	for _, c := range []struct {
		what    string
		list    []impl.Job
		at, due int64
		is      bool
	}{
		{"no Jobs", nil, 0, 0, false},
		{"one with all its time", tasks([3]int64{4, 9, 5}), 0, 0, false}, {"one with a time too few", tasks([3]int64{4, 9, 6}), 4, 9, true},
		{"from 0 to 0", tasks([3]int64{0, 0, 1}), 0, 0, true}, {"a Due at its At", tasks([3]int64{7, 7, 1}), 7, 7, true}, {"a Due ahead of its At", tasks([3]int64{7, 3, 1}), 7, 3, true},
		{"the least At", tasks([3]int64{6, 7, 2}, [3]int64{2, 3, 2}, [3]int64{4, 5, 2}), 2, 3, true},
		{"of that At the first Due", tasks([3]int64{2, 9, 8}, [3]int64{2, 5, 4}, [3]int64{2, 7, 6}), 2, 5, true},
		{"of that At a later Due, as the first is not", tasks([3]int64{2, 9, 8}, [3]int64{2, 5, 3}), 2, 9, true},
		{"not an earlier Due of a later At", tasks([3]int64{0, 9, 8}, [3]int64{3, 4, 2}), 0, 9, true}, {"that later At alone", tasks([3]int64{0, 9, 7}, [3]int64{3, 4, 2}), 3, 4, true},
		{"the At of one and the Due of another", tasks([3]int64{1, 4, 2}, [3]int64{2, 5, 3}), 1, 5, true},
		{"the same, just in time", tasks([3]int64{1, 4, 1}, [3]int64{2, 5, 3}), 0, 0, false},
		{"room ahead does not help", tasks([3]int64{0, 90, 5}, [3]int64{50, 60, 6}, [3]int64{52, 58, 5}), 50, 60, true},
		{"a Due ahead of its At, within an earlier stretch that is full", tasks([3]int64{0, 5, 5}, [3]int64{7, 3, 1}), 0, 5, true},
		{"one that has time enough, and a Due ahead of its At", tasks([3]int64{0, 5, 4}, [3]int64{7, 3, 1}), 7, 3, true},
		{"of one At the Due ahead of it", tasks([3]int64{7, 9, 3}, [3]int64{7, 3, 1}), 7, 3, true},
		{"the At of one, the Due of another ahead of it", tasks([3]int64{2, 100, 1}, [3]int64{8, 1, 1}), 2, 1, true},
		{"at the ends", alikeTasks(12, 200, 200, 50), 200, 200, true}, {"all the time", alikeTasks(4, 0, 200, 50), 0, 0, false},
		{"all the time, and 1 more", append(alikeTasks(4, 0, 200, 50), task(5, 0, 200, 1)), 0, 200, true}, {"all the time, one from 1 on", append(alikeTasks(3, 0, 200, 50), task(4, 1, 200, 50)), 0, 0, false},
		{"all the time, all from 1 on", alikeTasks(4, 1, 200, 50), 1, 200, true},
	} {
		if a, b, is := impl.Crowded(c.list); a != c.at || b != c.due || is != c.is {
			t.Errorf("%s: of %v %d, %d and %v", c.what, c.list, a, b, is)
		}
		looksTill(t, c.list)
	}
}

func TestEarliestTable(t *testing.T) {
	for _, c := range []struct {
		what string
		list []impl.Job
		want []int64
	}{
		{"no Jobs", nil, nil}, {"no Jobs", []impl.Job{}, nil},
		{"one", tasks([3]int64{0, 9, 3}), []int64{1, 1, 1}}, {"one that waits for its At", tasks([3]int64{2, 9, 2}), []int64{0, 0, 1, 1}},
		{"the least Due", tasks([3]int64{0, 9, 2}, [3]int64{0, 5, 2}), []int64{2, 2, 1, 1}},
		{"one that comes with a Due that is less", tasks([3]int64{0, 9, 3}, [3]int64{1, 3, 2}), []int64{1, 2, 2, 1, 1}},
		{"one that comes with a Due that is more", tasks([3]int64{0, 4, 3}, [3]int64{1, 5, 2}), []int64{1, 1, 1, 2, 2}},
		{"two that come at one time", tasks([3]int64{0, 9, 2}, [3]int64{1, 8, 1}, [3]int64{1, 7, 1}), []int64{1, 3, 2, 1}},
		{"a gap", tasks([3]int64{0, 9, 1}, [3]int64{3, 9, 1}), []int64{1, 0, 0, 2}},
		{"alike Dues, the least Id", []impl.Job{task(7, 0, 9, 2), task(3, 0, 9, 1), task(5, 0, 9, 2)}, []int64{3, 5, 5, 7, 7}},
		{"alike Dues, a lesser Id comes", []impl.Job{task(7, 0, 9, 3), task(3, 1, 9, 1)}, []int64{7, 3, 7, 7}},
		{"alike Dues, a greater Id comes", []impl.Job{task(3, 0, 9, 3), task(7, 1, 9, 1)}, []int64{3, 3, 3, 7}},
		{"a Due that is over is the least still", tasks([3]int64{0, 2, 3}, [3]int64{0, 3, 2}), []int64{1, 1, 1, 2, 2}},
		{"a Due ahead of its At", tasks([3]int64{3, 1, 2}, [3]int64{2, 9, 2}), []int64{0, 0, 2, 1, 1, 2}},
		{"the greatest Id", []impl.Job{task(1000000, 1, 9, 1)}, []int64{0, 1000000}},
		{"At 200, Long 50", tasks([3]int64{200, 200, 50}), append(make([]int64, 200), slices.Repeat([]int64{1}, 50)...)},
	} {
		if got := impl.Earliest(c.list); !slices.Equal(got, c.want) {
			t.Errorf("%s: of %v %v, not %v", c.what, c.list, got, c.want)
		}
		looksTill(t, c.list)
	}
	if got := impl.Earliest(alikeTasks(12, 200, 0, 50)); len(got) != 800 || got[199] != 0 || got[200] != 1 || got[799] != 12 {
		t.Errorf("the longest: %v", got)
	}
}

// Each of these differs in one thing from what is kept.
func TestKeptTable(t *testing.T) {
	list := tasks([3]int64{0, 9, 3}, [3]int64{1, 3, 2}, [3]int64{6, 8, 1})
	for _, c := range []struct {
		what string
		work []int64
		want bool
	}{
		{"Earliest", []int64{1, 2, 2, 1, 1, 0, 3}, true}, {"nothing", nil, false}, {"noughts", []int64{0, 0, 0}, false},
		{"noughts behind the last", []int64{1, 2, 2, 1, 1, 0, 3, 0, 0, 0, 0, 0}, true}, {"a thousand noughts behind", append([]int64{1, 2, 2, 1, 1, 0, 3}, make([]int64, 1000)...), true},
		{"as late as can be", []int64{0, 2, 2, 0, 0, 1, 1, 3, 1}, true}, {"in more parts", []int64{1, 2, 2, 0, 1, 0, 3, 0, 1}, true},
		{"one time too few", []int64{1, 2, 2, 1, 0, 0, 3}, false}, {"one too few at the end", []int64{1, 2, 2, 1, 1, 0}, false}, {"one of them not at all", []int64{1, 0, 0, 1, 1, 0, 3}, false},
		{"one time too many", []int64{1, 2, 2, 1, 1, 1, 3}, false}, {"one too many behind", []int64{1, 2, 2, 1, 1, 0, 3, 3}, false}, {"one too many, one of another too few", []int64{1, 2, 2, 1, 1, 0, 1}, false},
		{"ahead of At by 1", []int64{2, 2, 1, 1, 1, 0, 3}, false}, {"at its At", []int64{1, 2, 2, 1, 1, 0, 3}, true}, {"ahead of At by 1, the last", []int64{1, 2, 2, 1, 1, 3}, false},
		{"at its Due", []int64{1, 2, 1, 2, 1, 0, 3}, false}, {"the last part at its Due", []int64{1, 1, 2, 2, 1, 0, 3}, false}, {"at its Due, the last", []int64{1, 2, 2, 1, 1, 0, 0, 0, 3}, false}, {"by 1 ahead of its Due, the last", []int64{1, 2, 2, 1, 1, 0, 0, 3}, true},
		{"long behind its Due", append([]int64{1, 2, 2, 1, 0, 0, 3}, append(make([]int64, 500), 1)...), false},
		{"too many, and that one behind its Due", []int64{1, 2, 2, 1, 1, 0, 3, 0, 0, 1}, false}, {"too many, and that one ahead of its At", []int64{1, 2, 2, 1, 1, 3, 3}, false},
		{"none of theirs", []int64{1, 2, 2, 1, 1, 4, 3}, false}, {"none of theirs, behind the last", []int64{1, 2, 2, 1, 1, 0, 3, 0, 4}, false}, {"none of theirs in place of one", []int64{1, 2, 2, 1, 1, 0, 4}, false},
		{"-1", []int64{1, 2, 2, 1, 1, -1, 3}, false}, {"less a right Id", []int64{1, 2, 2, 1, 1, -3, 3}, false}, {"the least number", []int64{1, 2, 2, 1, 1, math.MinInt64, 3}, false},
		{"the greatest number", []int64{1, 2, 2, 1, 1, math.MaxInt64, 3}, false}, {"a right Id and 2^32", []int64{1, 2, 2, 1, 1, 0, 1<<32 + 3}, false}, {"2^32", []int64{1, 2, 2, 1, 1, 1 << 32, 3}, false},
	} {
		if countKept(list, c.work) != c.want {
			t.Errorf("%s: the test is wrong", c.what)
		}
		if got := impl.Kept(list, c.work); got != c.want {
			t.Errorf("%s: %v", c.what, got)
		}
	}
	for _, c := range []struct {
		work []int64
		want bool
	}{{nil, true}, {[]int64{}, true}, {[]int64{0}, true}, {make([]int64, 1000), true}, {[]int64{1}, false}, {[]int64{0, -1}, false}} {
		looksKept(t, "no Jobs", nil, c.work, c.want)
		looksKept(t, "no Jobs", []impl.Job{}, c.work, c.want)
	}
}

// smallTask is one of 30, with an At of 0 to 2, a Due of 0 to 4, and a Long of 1 or 2.
func smallTask(id int, kind int64) impl.Job {
	return task(int64(id), kind%3, kind/3%5, 1+kind/15)
}

// All tasks of a small field, one, two and three of them.
func TestTillOfEveryFew(t *testing.T) {
	for n := range 4 {
		everyGift(n, 30, func(kinds []int64) {
			list := []impl.Job{}
			for i, k := range kinds {
				list = append(list, smallTask(i+1, k))
			}
			looksTill(t, list)
		})
	}
}

// Where something is Crowded no work at all keeps all Dues, and where nothing is some work does.
func TestTillIsHeldAgainstEveryWork(t *testing.T) {
	for n := range 4 {
		everyGift(n, 30, func(kinds []int64) {
			if !slices.IsSorted(kinds) {
				return
			}
			list := []impl.Job{}
			for i, k := range kinds {
				list = append(list, smallTask(i+1, k))
			}
			some := false
			everyGift(4, int64(n+1), func(work []int64) {
				kept := impl.Kept(list, work)
				if kept != countKept(list, work) {
					t.Fatalf("of %v %v is kept: %v", list, work, kept)
				}
				some = some || kept
			})
			if _, _, is := impl.Crowded(list); is == some {
				t.Fatalf("%v is Crowded: %v, and some work keeps all: %v", list, is, some)
			}
		})
	}
}

func TestTillOfMany(t *testing.T) {
	crowded, d := 0, dice(223)
	lists := taskLists()
	for _, list := range lists {
		looksTill(t, list)
		if _, _, is := impl.Crowded(list); is {
			crowded++
		}
		work := impl.Earliest(list)
		mix(&d, list)
		looksTill(t, list)
		if got := impl.Earliest(list); !slices.Equal(got, work) {
			t.Fatalf("of %v in another order: %v, not %v", list, got, work)
		}
	}
	if crowded*5 < len(lists) || crowded*5 > len(lists)*4 {
		t.Errorf("%d of %d are Crowded: the test is wrong", crowded, len(lists))
	}
}

// Tasks for which there is just time, and the same with one number changed by 1.
func TestTillJustInTime(t *testing.T) {
	d := dice(227)
	for _, n := range []int64{1, 2, 4, 8, 12} {
		for _, length := range []int64{1, 2, 5, 12, 60, 200} {
			for range 6 {
				list, work := thrownWork(&d, n, length)
				looksTill(t, list)
				looksKept(t, "just in time", list, work, true)
				looksCrowded(t, list, 0, 0, false)
				for i, j := range list {
					for _, by := range []impl.Job{{At: 1}, {Due: -1}, {Long: 1}, {Long: -1}} {
						other := slices.Clone(list)
						other[i].At, other[i].Due, other[i].Long = j.At+by.At, j.Due+by.Due, j.Long+by.Long
						if impl.TasksOk(other) {
							looksTill(t, other)
						}
						looksKept(t, "by 1", other, work, false)
					}
					for _, by := range []impl.Job{{At: -1}, {Due: 1}} {
						other := slices.Clone(list)
						other[i].At, other[i].Due = max(0, j.At+by.At), min(200, j.Due+by.Due)
						looksTill(t, other)
						looksKept(t, "by 1 with more room", other, work, true)
					}
				}
			}
		}
	}
}

// Works that are kept, spoilt in each place.
func TestSpoiltWorksAreRefused(t *testing.T) {
	d := dice(229)
	for _, n := range []int64{1, 3, 12} {
		for _, length := range []int64{3, 12, 60} {
			list, work := thrownWork(&d, n, length)
			for at, was := range work {
				for _, id := range []int64{0, -1, -was, n + 1, 1000000, math.MinInt64, math.MaxInt64, 1 + d.below(n), was} {
					own := slices.Clone(work)
					own[at] = id
					looksKept(t, "spoilt", list, own, id == was)
					looksKept(t, "spoilt, and noughts", list, append(own, 0, 0), id == was)
				}
				if cut := work[:at]; slices.ContainsFunc(work[at:], func(id int64) bool { return id != 0 }) {
					looksKept(t, "cut", list, cut, false)
				}
				if was != 0 {
					looksKept(t, "later by 1", list, slices.Insert(slices.Clone(work), at, 0), false)
					looksKept(t, "once more behind", list, append(slices.Clone(work), was), false)
				}
			}
			if work[0] == 0 {
				looksKept(t, "sooner by 1", list, work[1:], len(list) == 0)
			}
			// the work of another list
			for i, j := range list {
				other := slices.Clone(list)
				other[i].Id = 500000
				looksKept(t, "another Id", other, work, false)
				looksKept(t, "one less", slices.Delete(slices.Clone(list), i, i+1), work, false)
				if len(list) < 12 {
					looksKept(t, "one more", append(slices.Clone(list), task(500000, j.At, j.Due, 1)), work, false)
				}
			}
		}
	}
}

func TestTillLooksAtFourFieldsAlone(t *testing.T) {
	d := dice(233)
	for _, n := range []int64{1, 4, 12} {
		for range 6 {
			list := thrownTasks(&d, n, 20, 5)
			at, due, is := impl.Crowded(list)
			for _, f := range jobFields() {
				if f.name != "Cores" && f.name != "Weight" && f.name != "Rank" {
					continue
				}
				for i := range list {
					for _, k := range []int64{f.least, f.most} {
						other := slices.Clone(list)
						other[i] = with(list[i], f, k)
						looksCrowded(t, other, at, due, is)
						looksTill(t, other)
						if got := impl.Earliest(other); !slices.Equal(got, impl.Earliest(list)) {
							t.Fatalf("%s %d of %v: %v", f.name, k, list, got)
						}
					}
				}
			}
		}
	}
}

// Promise 21 for chapter 9: nothing is written into the lists, nor behind them, and a work is no part of another, nor of a list.
func TestTillSharesNoMemory(t *testing.T) {
	for _, given := range append(taskLists(), noTasks()...) {
		list, all := behind(given)
		one, two := impl.Earliest(list), impl.Earliest(list)
		was := slices.Clone(two)
		for i := range one[:cap(one)] {
			one[:cap(one)][i] = -77
		}
		if !slices.Equal(two, was) || !slices.Equal(impl.Earliest(list), was) {
			t.Fatalf("of %v: two answers share memory", given)
		}
		work, own := roomFor(two, 7, 0, -5)
		impl.TasksOk(list)
		impl.Demand(list, 0, 200)
		impl.Crowded(list)
		impl.Kept(list, work)
		if now := work[:len(own)]; !slices.Equal(now, own) {
			t.Fatalf("the work %v became %v", own, now)
		}
		if now := list[:len(all)]; !slices.Equal(now, all) {
			t.Fatalf("the list %v became %v", all, now)
		}
		for i := range list {
			list[i] = task(5, 5, 5, 5)
		}
		if !slices.Equal(two, was) {
			t.Fatalf("of %v: a change of the list changes its work", given)
		}
	}
}

func TestTillAnswersAtEveryArgument(t *testing.T) {
	ends := []int64{math.MinInt64, math.MinInt64 + 1, -never, -1, 0, 1, 199, 200, 201, never, never + 1, math.MaxInt64 - 1, math.MaxInt64}
	all := append(wrongJobs(), task(1, 0, 9, 1), task(2, 200, 0, 50), task(3, 7, 8, 1), task(4, 201, 9, 1), task(5, 0, 201, 1), task(6, 0, 9, 51), task(7, never, never, 10000))
	for _, a := range all {
		for _, b := range all {
			list := []impl.Job{a, b}
			right := a.Id != b.Id
			for _, j := range list {
				right = right && impl.JobOk(j) && j.At <= 200 && j.Due <= 200 && j.Long <= 50
			}
			if right {
				looksTill(t, list)
			} else {
				looksNoTasks(t, list, []int64{a.Id, b.Id}, []int64{a.Id}, []int64{0, 0, 0, 0, 0, 0, 0, 3})
			}
			for _, from := range ends {
				for _, to := range ends {
					want := int64(-1)
					if right {
						want = countDemand(list, from, to)
					}
					if got := impl.Demand(list, from, to); got != want {
						t.Fatalf("Demand of %v from %d to %d: %d, not %d", list, from, to, got, want)
					}
				}
			}
		}
	}
}

// Works of all numbers at their ends, some few right ones among them.
func TestKeptAnswersAtEveryWork(t *testing.T) {
	d, kept := dice(239), 0
	numbers := []int64{math.MinInt64, math.MinInt64 + 1, -2, -1, 0, 0, 0, 0, 1, 1, 1, 2, 2, 3, 1000001, 1<<32 + 1, math.MaxInt64}
	list := tasks([3]int64{0, 4, 2}, [3]int64{1, 5, 1})
	for range 40000 {
		work := []int64{}
		for range d.below(7) {
			work = append(work, numbers[d.below(int64(len(numbers)))])
		}
		want := countKept(list, work)
		looksKept(t, "thrown", list, work, want)
		if want {
			kept++
		}
	}
	if kept == 0 {
		t.Error("none of them is kept: the test is wrong")
	}
	long := append([]int64{1, 2, 1}, make([]int64, 1000000)...)
	looksKept(t, "a million noughts behind", list, long, true)
	long[len(long)-1] = 1
	looksKept(t, "a million noughts, and one too many", list, long, false)
	looksKept(t, "a million of one", list, slices.Repeat([]int64{1}, 1000000), false)
}
