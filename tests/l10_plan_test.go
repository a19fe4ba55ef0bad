package tests

import (
	"math"
	"slices"
	"testing"

	"loop.example/g00255/impl"
)

// wants is a Job that wants so many Cores for so long.
func wants(id, cores, long int64) impl.Job {
	return impl.Job{Id: id, Cores: cores, Long: long}
}

// wanting are Jobs with these Cores and Long, with Ids from 1 on.
func wanting(all ...[2]int64) []impl.Job {
	list := []impl.Job{}
	for i, n := range all {
		list = append(list, wants(int64(i+1), n[0], n[1]))
	}
	return list
}

func alikeWants(n int, cores, long int64) []impl.Job {
	return wanting(slices.Repeat([][2]int64{{cores, long}}, n)...)
}

// A row is a Profile, and what is taken of it: so many, from one time on, ahead of another.
type row struct {
	p     impl.Profile
	taken [][3]int64
}

func (r row) free(t int64) int64 {
	free := int64(0)
	for _, l := range r.p.Levels {
		if l.From <= t {
			free = l.Free
		}
	}
	for _, n := range r.taken {
		if n[0] <= t && t < n[1] {
			free -= n[2]
		}
	}
	return free
}

// changes are the times ahead of Never at which what is free can change, rising.
func (r row) changes() []int64 {
	out := []int64{0}
	for _, l := range r.p.Levels {
		out = append(out, l.From)
	}
	for _, n := range r.taken {
		out = append(out, n[0], n[1])
	}
	slices.Sort(out)
	return slices.DeleteFunc(slices.Compact(out), func(t int64) bool { return t >= never })
}

// between are all times from from on, ahead of to; where that are many, from and those at which something changes.
func (r row) between(from, to int64) []int64 {
	out := []int64{}
	if to-from <= 150 {
		for t := from; t < to; t++ {
			out = append(out, t)
		}
		return out
	}
	for _, t := range append([]int64{from}, r.changes()...) {
		if t >= from && t < to {
			out = append(out, t)
		}
	}
	return out
}

func (r row) fits(j impl.Job, start int64) bool {
	return !slices.ContainsFunc(r.between(start, min(never, start+j.Long)), func(t int64) bool { return r.free(t) < j.Cores })
}

func (r row) start(j impl.Job, from int64) int64 {
	last := slices.Max(r.changes())
	for _, t := range r.between(from, min(never, max(from, last)+1)) {
		if r.fits(j, t) {
			return t
		}
	}
	return never
}

// with is the row with j at start; false where that makes too many Levels, or too few are free.
func (r row) with(j impl.Job, start int64) (row, bool) {
	more := row{r.p, append(slices.Clone(r.taken), [3]int64{start, min(never, start+j.Long), j.Cores})}
	return more, r.fits(j, start) && len(more.profile().Levels) <= impl.MaxLevels
}

func (r row) profile() impl.Profile {
	out := impl.Profile{Total: r.p.Total}
	for _, t := range r.changes() {
		if n := len(out.Levels); n == 0 || out.Levels[n-1].Free != r.free(t) {
			out.Levels = append(out.Levels, at(t, r.free(t)))
		}
	}
	return out
}

func countPlan(p impl.Profile, list []impl.Job, now int64, strict bool) []int64 {
	r, out := row{p: p}, []int64{}
	for _, j := range list {
		start := int64(-1)
		if j.Cores <= p.Total {
			start = r.start(j, now)
		}
		if start >= 0 && start < never {
			more, is := r.with(j, start)
			if is {
				r = more
			} else {
				start = never
			}
		}
		if strict && start >= 0 && start < never {
			now = max(now, start)
		}
		out = append(out, start)
	}
	return out
}

func countLeft(p impl.Profile, list []impl.Job, starts []int64) (impl.Profile, bool) {
	r := row{p: p}
	for i, j := range list {
		if starts[i] == -1 || starts[i] == never {
			continue
		}
		more, is := r.with(j, starts[i])
		if !is {
			return impl.Profile{}, false
		}
		r = more
	}
	return r.profile(), true
}

func countMakespan(list []impl.Job, starts []int64) int64 {
	last := int64(0)
	for i, j := range list {
		if starts[i] != -1 && starts[i] != never {
			last = max(last, min(never, starts[i]+j.Long))
		}
	}
	return last
}

// looksStarts holds what is told of starts, as many as the Jobs and each a time or -1, against what is counted.
func looksStarts(t *testing.T, p impl.Profile, list []impl.Job, starts []int64) {
	t.Helper()
	want, can := countLeft(p, list, starts)
	left, is := impl.Left(p, list, starts)
	if is != can || !same(left, want) || is && !impl.ProfileOk(left) {
		t.Fatalf("of %v with %v at %v: %v, %v, not %v, %v", p, list, starts, left, is, want, can)
	}
	if got := impl.PlanOk(p, list, starts); got != can {
		t.Fatalf("of %v with %v at %v: PlanOk is %v", p, list, starts, got)
	}
	if got, want := impl.Makespan(list, starts), countMakespan(list, starts); got != want {
		t.Fatalf("Makespan of %v at %v: %d, not %d", list, starts, got, want)
	}
}

// looksPlan is promise 10, and all that chapter 10 tells of Jobs that are planned.
func looksPlan(t *testing.T, p impl.Profile, list []impl.Job, now int64) {
	t.Helper()
	for _, strict := range []bool{false, true} {
		plan := impl.Planned
		if strict {
			plan = impl.Strict
		}
		starts := plan(p, list, now)
		if want := countPlan(p, list, now, strict); !slices.Equal(starts, want) {
			t.Fatalf("of %v with %v from %d on, strict %v:\n%v, not\n%v", p, list, now, strict, starts, want)
		}
		if !impl.PlanOk(p, list, starts) {
			t.Fatalf("of %v with %v from %d on, strict %v: %v is no right plan", p, list, now, strict, starts)
		}
		looksStarts(t, p, list, starts)
		left := p
		for i, j := range list {
			if ahead := plan(p, list[:i], now); !slices.Equal(ahead, starts[:i]) {
				t.Fatalf("of %v with %v from %d on, strict %v: the first %d %v, all %v", p, list, now, strict, i, ahead, starts)
			}
			if fit := impl.Fit(left, now, j.Long, j.Cores); starts[i] < fit || !strict && starts[i] != fit && starts[i] != never {
				t.Fatalf("of %v with %v from %d on, strict %v: number %d at %d, Fit is %d", p, list, now, strict, i, starts[i], fit)
			}
			if starts[i] >= 0 && starts[i] < never {
				is := false
				if left, is = impl.Reserve(left, starts[i], impl.Later(starts[i], j.Long), j.Cores); !is {
					t.Fatalf("of %v with %v from %d on, strict %v: number %d can't be Reserved at %d", p, list, now, strict, i, starts[i])
				}
			}
		}
		if got, is := impl.Left(p, list, starts); !is || !same(got, left) {
			t.Fatalf("of %v with %v at %v: %v is Left, Reserved one by one %v", p, list, starts, got, left)
		}
		if fall := begun(starts); strict && !slices.IsSorted(fall) {
			t.Fatalf("of %v with %v from %d on: Strict falls: %v", p, list, now, starts)
		}
	}
}

// begun are those that are starts.
func begun(starts []int64) []int64 {
	return slices.DeleteFunc(slices.Clone(starts), func(start int64) bool { return start < 0 || start >= never })
}

// looksNoPlan looks for what is answered where p, list or now is not as told.
func looksNoPlan(t *testing.T, p impl.Profile, list []impl.Job, now int64) {
	t.Helper()
	if got := impl.Planned(p, list, now); len(got) != 0 {
		t.Fatalf("Planned of %v with %v from %d on: %v", p, list, now, got)
	}
	if got := impl.Strict(p, list, now); len(got) != 0 {
		t.Fatalf("Strict of %v with %v from %d on: %v", p, list, now, got)
	}
}

// looksNothingLeft looks for what is answered where starts can't be Reserved.
func looksNothingLeft(t *testing.T, p impl.Profile, list []impl.Job, starts []int64) {
	t.Helper()
	if impl.PlanOk(p, list, starts) {
		t.Fatalf("of %v with %v at %v: PlanOk", p, list, starts)
	}
	left, is := impl.Left(p, list, starts)
	if is || !same(left, impl.Profile{}) {
		t.Fatalf("of %v with %v at %v: %v, %v", p, list, starts, left, is)
	}
}

func TestPlannedTable(t *testing.T) {
	four, gap := profile(4, at(0, 4)), profile(4, at(0, 4), at(5, 1), at(9, 3))
	for _, c := range []struct {
		what            string
		p               impl.Profile
		list            []impl.Job
		now             int64
		planned, strict []int64
		makespan        int64
	}{
		{"no Jobs", four, nil, 3, nil, nil, 0},
		{"one", four, wanting([2]int64{4, 7}), 0, []int64{0}, []int64{0}, 7}, {"one, later", four, wanting([2]int64{4, 7}), 12, []int64{12}, []int64{12}, 19},
		{"two at a time", four, wanting([2]int64{3, 7}, [2]int64{1, 9}), 2, []int64{2, 2}, []int64{2, 2}, 11},
		{"one more than there is", four, wanting([2]int64{3, 7}, [2]int64{2, 9}), 2, []int64{2, 9}, []int64{2, 9}, 18},
		{"into the gap", four, wanting([2]int64{3, 5}, [2]int64{4, 2}, [2]int64{1, 5}, [2]int64{1, 6}), 0, []int64{0, 5, 0, 7}, []int64{0, 5, 7, 7}, 13},
		{"Cores are Total, and one more", four, wanting([2]int64{4, 1}, [2]int64{5, 1}, [2]int64{4, 1}), 0, []int64{0, -1, 1}, []int64{0, -1, 1}, 2},
		{"Cores above Total alone", four, wanting([2]int64{5, 1}, [2]int64{1000, 10000}), 0, []int64{-1, -1}, []int64{-1, -1}, 0},
		{"of nothing", profile(0, at(0, 0)), wanting([2]int64{1, 1}, [2]int64{1000, 1}), 0, []int64{-1, -1}, []int64{-1, -1}, 0},
		{"nothing is free, ever", profile(4, at(0, 0)), wanting([2]int64{1, 1}, [2]int64{4, 9}, [2]int64{5, 1}), 0, []int64{never, never, -1}, []int64{never, never, -1}, 0},
		{"one that never fits pushes nobody", gap, wanting([2]int64{4, 6}, [2]int64{4, 5}, [2]int64{3, 1}), 0, []int64{never, 0, 9}, []int64{never, 0, 9}, 10},
		{"what is free sinks and rises", gap, wanting([2]int64{3, 6}, [2]int64{1, 9}, [2]int64{4, 3}, [2]int64{1, 2}), 0, []int64{9, 0, never, 0}, []int64{9, 15, never, 15}, 24},
		{"behind -1 and Never too no earlier than the one ahead with a start", gap, wanting([2]int64{3, 6}, [2]int64{5, 1}, [2]int64{4, 6}, [2]int64{1, 2}), 0, []int64{9, -1, never, 0}, []int64{9, -1, never, 15}, 17},
		{"-1 and Never first", gap, wanting([2]int64{5, 1}, [2]int64{4, 6}, [2]int64{1, 2}, [2]int64{3, 1}), 3, []int64{-1, never, 3, 3}, []int64{-1, never, 3, 3}, 5},
		{"till Never just, and past it", four, wanting([2]int64{1, 4}, [2]int64{1, 5}, [2]int64{1, 6}, [2]int64{1, 10000}), never - 5, []int64{never - 5, never - 5, never - 5, never - 5}, []int64{never - 5, never - 5, never - 5, never - 5}, never},
		{"by one ahead of Never", four, wanting([2]int64{4, 4}), never - 5, []int64{never - 5}, []int64{never - 5}, never - 1},
		{"the last time", four, wanting([2]int64{4, 1}, [2]int64{1, 1}), never - 1, []int64{never - 1, never}, []int64{never - 1, never}, never},
		{"one behind the other till Never", four, wanting([2]int64{4, 3}, [2]int64{4, 2}, [2]int64{4, 1}), never - 5, []int64{never - 5, never - 2, never}, []int64{never - 5, never - 2, never}, never},
		{"the last, that goes past Never, leaves nothing", four, wanting([2]int64{4, 3}, [2]int64{4, 9}, [2]int64{4, 1}), never - 5, []int64{never - 5, never - 2, never}, []int64{never - 5, never - 2, never}, never},
		{"from Never on", four, wanting([2]int64{4, 3}, [2]int64{5, 1}, [2]int64{1, 1}), never, []int64{never, -1, never}, []int64{never, -1, never}, 0},
		{"free from the last time on", profile(4, at(0, 0), at(never-1, 4)), wanting([2]int64{2, 9}, [2]int64{2, 1}, [2]int64{1, 1}), 0, []int64{never - 1, never - 1, never}, []int64{never - 1, never - 1, never}, never},
		{"not free at the last time", profile(4, at(0, 4), at(never-1, 0)), wanting([2]int64{2, 5}, [2]int64{2, 4}), never - 5, []int64{never, never - 5}, []int64{never, never - 5}, never - 1},
	} {
		if got := impl.Planned(c.p, c.list, c.now); !slices.Equal(got, c.planned) {
			t.Errorf("%s: Planned %v, not %v", c.what, got, c.planned)
		}
		if got := impl.Strict(c.p, c.list, c.now); !slices.Equal(got, c.strict) {
			t.Errorf("%s: Strict %v, not %v", c.what, got, c.strict)
		}
		if got := impl.Makespan(c.list, c.strict); got != c.makespan {
			t.Errorf("%s: Makespan %d, not %d", c.what, got, c.makespan)
		}
		looksPlan(t, c.p, c.list, c.now)
	}
}

func TestNowIsATime(t *testing.T) {
	p, list := profile(4, at(0, 4)), wanting([2]int64{4, 3}, [2]int64{5, 1}, [2]int64{1, 1})
	for _, now := range append(edgeTimes(), 0, 1, never-1, never) {
		looksPlan(t, p, list, now)
		looksPlan(t, p, nil, now)
	}
	for _, now := range append(noTimes(), -1, never+1, math.MinInt64, math.MaxInt64) {
		looksNoPlan(t, p, list, now)
		looksNoPlan(t, p, nil, now)
	}
}

// A Job that makes MaxLevels Levels, and one more.
func TestPlansOfAtMostMaxLevels(t *testing.T) {
	const max = impl.MaxLevels
	for _, c := range []struct {
		of     int
		list   []impl.Job
		now    int64
		want   []int64
		levels int
	}{
		{max - 1, wanting([2]int64{1, 1}), 0, []int64{0}, max}, {max, wanting([2]int64{1, 1}), 0, []int64{never}, max}, {max, wanting([2]int64{1, 2}), 0, []int64{0}, max - 1},
		{max - 2, wanting([2]int64{1, 1}), 500, []int64{500}, max}, {max - 1, wanting([2]int64{1, 1}), 501, []int64{never}, max - 1},
		{max - 2, wanting([2]int64{1, 1}), never - 1, []int64{never - 1}, max - 1}, {max - 1, wanting([2]int64{1, 1}), never - 1, []int64{never - 1}, max}, {max, wanting([2]int64{1, 1}), never - 1, []int64{never}, max},
		{max, wanting([2]int64{1, 9}), 398, []int64{never}, max}, {max, wanting([2]int64{1, 9}), 397, []int64{never}, max}, {max, wanting([2]int64{1, 2}), 396, []int64{396}, max - 2},
		// behind one that would make too many Levels it is as if there were none
		{max, wanting([2]int64{1, 1}, [2]int64{1, 2}), 0, []int64{never, 0}, max - 1}, {max, wanting([2]int64{1, 1}, [2]int64{1, 2}, [2]int64{1, 1}), 0, []int64{never, 0, 0}, max},
		{max, wanting([2]int64{3, 1}, [2]int64{1, 1}, [2]int64{2, 2}), 0, []int64{-1, never, 0}, max},
		{max, wanting([2]int64{1, 2}, [2]int64{1, 1}, [2]int64{1, 1}), 0, []int64{0, 0, 1}, max}, {max - 1, wanting([2]int64{1, 1}, [2]int64{1, 3}, [2]int64{2, 2}), 0, []int64{0, never, 4}, max},
		{max - 1, wanting([2]int64{1, 1}, [2]int64{1, 1}, [2]int64{1, 1}), 0, []int64{0, 0, 1}, max - 1}, {max - 1, wanting([2]int64{1, 1}, [2]int64{2, 1}, [2]int64{1, 1}), 0, []int64{0, 1, 0}, max - 1},
	} {
		p := comb(c.of)
		if got := impl.Planned(p, c.list, c.now); !slices.Equal(got, c.want) {
			t.Errorf("of %d Levels with %v from %d on: %v, not %v", c.of, c.list, c.now, got, c.want)
		}
		if left, is := impl.Left(p, c.list, c.want); !is || len(left.Levels) != c.levels {
			t.Errorf("of %d Levels with %v at %v: %d Levels, %v, not %d", c.of, c.list, c.want, len(left.Levels), is, c.levels)
		}
		looksPlan(t, p, c.list, c.now)
	}
}

// In one order each makes few enough Levels, in the other the first would make too many.
func TestStartsAreReservedOneAfterTheOther(t *testing.T) {
	p := comb(impl.MaxLevels)
	more, less := wants(1, 1, 1), wants(2, 1, 2)
	for _, c := range []struct {
		list   []impl.Job
		starts []int64
		want   bool
	}{
		{[]impl.Job{less, more}, []int64{4, 0}, true}, {[]impl.Job{more, less}, []int64{0, 4}, false},
		{[]impl.Job{less, more}, []int64{-1, 0}, false}, {[]impl.Job{more, less}, []int64{-1, 4}, true}, {[]impl.Job{more, less}, []int64{never, 4}, true},
		{[]impl.Job{more}, []int64{0}, false}, {[]impl.Job{less}, []int64{4}, true}, {[]impl.Job{less, more}, []int64{4, 500}, true},
		{[]impl.Job{less, more, wants(3, 1, 1)}, []int64{4, 500, 502}, false}, {[]impl.Job{less, more, wants(3, 1, 2)}, []int64{4, 500, 8}, true},
	} {
		if got := impl.PlanOk(p, c.list, c.starts); got != c.want {
			t.Errorf("%v at %v: PlanOk is %v", c.list, c.starts, got)
		}
		looksStarts(t, p, c.list, c.starts)
	}
}

func TestLeftTable(t *testing.T) {
	p := profile(4, at(0, 4), at(5, 1), at(9, 3))
	two := wanting([2]int64{2, 3}, [2]int64{3, 2})
	for _, c := range []struct {
		what     string
		list     []impl.Job
		starts   []int64
		want     impl.Profile
		can      bool
		makespan int64
	}{
		{"no Jobs", nil, nil, p, true, 0}, {"no Jobs", []impl.Job{}, []int64{}, p, true, 0},
		{"none with a start", two, []int64{-1, -1}, p, true, 0}, {"none with a start", two, []int64{never, never}, p, true, 0}, {"none with a start", two, []int64{never, -1}, p, true, 0},
		{"one behind the other just", two, []int64{0, 3}, profile(4, at(0, 2), at(3, 1), at(9, 3)), true, 5}, {"they overlap by one time", two, []int64{0, 2}, impl.Profile{}, false, 4},
		{"the other way round", two, []int64{2, 0}, profile(4, at(0, 1), at(2, 2), at(5, 1), at(9, 3)), true, 5}, {"the other way round they overlap by one time", two, []int64{1, 0}, impl.Profile{}, false, 4},
		{"one alone", two, []int64{1, never}, profile(4, at(0, 4), at(1, 2), at(4, 4), at(5, 1), at(9, 3)), true, 4}, {"the other alone", two, []int64{-1, 1}, profile(4, at(0, 4), at(1, 1), at(3, 4), at(5, 1), at(9, 3)), true, 3},
		{"by one time into where less is free", two, []int64{3, -1}, impl.Profile{}, false, 6}, {"there, the second", two, []int64{-1, 4}, impl.Profile{}, false, 6}, {"by one time too soon", two, []int64{8, 20}, impl.Profile{}, false, 22},
		{"as soon as more is free", two, []int64{9, 12}, profile(4, at(0, 4), at(5, 1), at(12, 0), at(14, 3)), true, 14}, {"they overlap by one time there", two, []int64{9, 11}, impl.Profile{}, false, 13},
		{"later than need be", two, []int64{70, 50}, profile(4, at(0, 4), at(5, 1), at(9, 3), at(50, 0), at(52, 3), at(70, 1), at(73, 3)), true, 73},
		{"together all that is free", wanting([2]int64{1, 2}, [2]int64{1, 2}, [2]int64{1, 2}), []int64{20, 20, 20}, profile(4, at(0, 4), at(5, 1), at(9, 3), at(20, 0), at(22, 3)), true, 22},
		{"together one more", wanting([2]int64{1, 2}, [2]int64{1, 2}, [2]int64{1, 2}, [2]int64{1, 2}), []int64{20, 20, 20, 20}, impl.Profile{}, false, 22},
		{"together one more for one time", wanting([2]int64{1, 2}, [2]int64{1, 2}, [2]int64{1, 2}, [2]int64{1, 2}), []int64{20, 20, 20, 21}, impl.Profile{}, false, 23},
		{"Cores above Total, without a start", wanting([2]int64{5, 1}), []int64{-1}, p, true, 0}, {"Cores above Total, Never", wanting([2]int64{5, 1}), []int64{never}, p, true, 0},
		{"Cores above Total, with a start", wanting([2]int64{5, 1}), []int64{0}, impl.Profile{}, false, 1}, {"Cores above Total, behind one that fits", wanting([2]int64{1, 1}, [2]int64{1000, 1}), []int64{0, 1}, impl.Profile{}, false, 2},
		{"till Never just", two, []int64{never - 3, never - 10}, profile(4, at(0, 4), at(5, 1), at(9, 3), at(never-10, 0), at(never-8, 3), at(never-3, 1)), true, never},
		{"past Never", two, []int64{never - 2, never - 10}, profile(4, at(0, 4), at(5, 1), at(9, 3), at(never-10, 0), at(never-8, 3), at(never-2, 1)), true, never},
		{"ahead of Never by one", two, []int64{never - 4, never}, profile(4, at(0, 4), at(5, 1), at(9, 3), at(never-4, 1), at(never-1, 3)), true, never - 1},
		{"at the last time", two, []int64{-1, never - 1}, profile(4, at(0, 4), at(5, 1), at(9, 3), at(never-1, 0)), true, never}, {"at the last time both", two, []int64{never - 1, never - 1}, impl.Profile{}, false, never},
	} {
		left, is := impl.Left(p, c.list, c.starts)
		if is != c.can || !same(left, c.want) || impl.PlanOk(p, c.list, c.starts) != c.can {
			t.Errorf("%s: %v, %v", c.what, left, is)
		}
		if got := impl.Makespan(c.list, c.starts); got != c.makespan {
			t.Errorf("%s: Makespan %d, not %d", c.what, got, c.makespan)
		}
		looksStarts(t, p, c.list, c.starts)
	}
}

// wrongStarts are starts for n Jobs that are not as told, each in one thing.
func wrongStarts(n int) [][]int64 {
	right := make([]int64, n)
	for i := range right {
		right[i] = int64(i * 100)
	}
	out := [][]int64{append(slices.Clone(right), 5), append(slices.Clone(right), -1), append(slices.Clone(right), never), append(slices.Clone(right), -1, -1, -1), slices.Repeat([]int64{-1}, n+41)}
	for i := range n {
		out = append(out, right[:i], slices.Repeat([]int64{-1}, i), slices.Repeat([]int64{never}, i))
		for _, bad := range []int64{-2, -never, math.MinInt64, never + 1, 2 * never, math.MaxInt64, math.MinInt64 + 1<<32, 1 << 32} {
			own, others := slices.Clone(right), slices.Repeat([]int64{-1}, n)
			own[i], others[i] = bad, bad
			out = append(out, own, others)
		}
	}
	return out
}

func TestWrongStartsAreRefused(t *testing.T) {
	p := profile(4, at(0, 4))
	for n := range 5 {
		list := alikeWants(n, 2, 9)
		for _, starts := range wrongStarts(n) {
			looksNothingLeft(t, p, list, starts)
			if got := impl.Makespan(list, starts); got != -1 {
				t.Fatalf("Makespan of %v at %v: %d", list, starts, got)
			}
		}
	}
	full := alikeWants(40, 1, 1)
	for _, starts := range wrongStarts(40) {
		looksNothingLeft(t, p, full, starts)
		if got := impl.Makespan(full, starts); got != -1 {
			t.Fatalf("Makespan of %v at %v: %d", full, starts, got)
		}
	}
}

func TestMakespanTable(t *testing.T) {
	list := wanting([2]int64{1, 5}, [2]int64{1000, 1}, [2]int64{1, 10000})
	for _, c := range []struct {
		starts []int64
		want   int64
	}{
		{[]int64{0, 0, 0}, 10000}, {[]int64{0, 0, -1}, 5}, {[]int64{-1, 0, -1}, 1}, {[]int64{-1, -1, -1}, 0}, {[]int64{never, never, never}, 0}, {[]int64{never, -1, never}, 0}, {[]int64{-1, never, -1}, 0},
		{[]int64{3, 7, never}, 8}, {[]int64{3, 8, never}, 9}, {[]int64{20000, 7, 9}, 20005}, {[]int64{20000, 7, 10005}, 20005}, {[]int64{20000, 7, 10006}, 20006},
		{[]int64{never - 5, 0, 0}, never}, {[]int64{never - 6, 0, 0}, never - 1}, {[]int64{never - 4, 0, 0}, never}, {[]int64{0, 0, never - 10000}, never}, {[]int64{0, 0, never - 10001}, never - 1}, {[]int64{0, 0, never - 9999}, never},
		{[]int64{0, never - 1, 0}, never}, {[]int64{0, never - 2, 0}, never - 1}, {[]int64{never - 1, never - 1, never - 1}, never}, {[]int64{-1, -1, 0}, 10000}, {[]int64{never, 4, never}, 5},
	} {
		if got := impl.Makespan(list, c.starts); got != c.want {
			t.Errorf("at %v: %d, not %d", c.starts, got, c.want)
		}
		if got := countMakespan(list, c.starts); got != c.want {
			t.Errorf("at %v the test counts %d, not %d", c.starts, got, c.want)
		}
	}
	if impl.Makespan(nil, nil) != 0 || impl.Makespan([]impl.Job{}, []int64{}) != 0 {
		t.Error("of no Jobs")
	}
}

func smallProfiles() []impl.Profile {
	return []impl.Profile{
		profile(3, at(0, 3)), profile(2, at(0, 2)), profile(3, at(0, 1), at(2, 3)), profile(3, at(0, 3), at(1, 0), at(2, 3), at(4, 2)), profile(3, at(0, 2), at(3, 1)),
		profile(3, at(0, 0)), profile(0, at(0, 0)), profile(3, at(0, 3), at(never-4, 1), at(never-2, 2)), profile(3, at(0, 0), at(never-3, 3)), profile(3, at(0, 2), at(2, 1), at(never-1, 0)),
	}
}

// smallWant is one of 9: 1 to 3 Cores, for 1, 2 or 4.
func smallWant(id int, kind int64) impl.Job {
	return wants(int64(id), 1+kind%3, 1<<(kind/3))
}

// All lists of a small field, up to three Jobs of them, from each now that is near something.
func TestPlansOfEveryFew(t *testing.T) {
	for _, p := range smallProfiles() {
		for n := range 4 {
			everyGift(n, 9, func(kinds []int64) {
				list := []impl.Job{}
				for i, k := range kinds {
					list = append(list, smallWant(i+1, k))
				}
				for _, now := range []int64{0, 1, 3, never - 5, never - 2, never} {
					looksPlan(t, p, list, now)
				}
			})
		}
	}
}

// All starts of two Jobs, and of three that are alike but for one.
func TestLeftOfEveryStarts(t *testing.T) {
	starts := []int64{-1, 0, 1, 2, 3, never - 5, never - 3, never - 2, never - 1, never}
	for _, p := range smallProfiles() {
		everyGift(2, 9, func(kinds []int64) {
			lists := [][]impl.Job{{smallWant(1, kinds[0]), smallWant(2, kinds[1])}}
			if kinds[1] < 3 {
				lists = append(lists, append(slices.Clone(lists[0]), smallWant(3, kinds[1])))
			}
			for _, list := range lists {
				everyGift(len(list), int64(len(starts)), func(which []int64) {
					own := []int64{}
					for _, k := range which {
						own = append(own, starts[k])
					}
					looksStarts(t, p, list, own)
				})
			}
		})
	}
}

// thrownWants are n Jobs, some few of which want more than there is.
func thrownWants(d *dice, n, total, longs int64) []impl.Job {
	list := []impl.Job{}
	for id := range n {
		list = append(list, wants(id*7+1, min(impl.MaxTotal, 1+d.below(total+1)), 1+d.below(longs)))
	}
	mix(d, list)
	return list
}

// thrownProfile has at most n Levels, with less than gap between two.
func thrownProfile(d *dice, n, total, gap int64) impl.Profile {
	p := profile(total, at(0, d.below(total+1)))
	for from := int64(0); n > 1; n-- {
		from += 1 + d.below(gap)
		if free := d.below(total + 1); free != p.Levels[len(p.Levels)-1].Free {
			p.Levels = append(p.Levels, at(from, free))
		}
	}
	return p
}

func TestPlansOfMany(t *testing.T) {
	d := dice(241)
	for _, n := range []int64{1, 2, 5, 12, 40} {
		for _, total := range []int64{1, 2, 7, 1000} {
			for _, longs := range []int64{1, 4, 30, 10000} {
				for _, levels := range []int64{1, 3, 20} {
					p, list := thrownProfile(&d, levels, total, 1+longs), thrownWants(&d, n, total, longs)
					looksPlan(t, p, list, d.below(2*longs))
				}
			}
		}
	}
	for _, p := range rightProfiles() {
		for _, n := range []int64{1, 3, 8} {
			list := thrownWants(&d, n, p.Total, 6)
			for _, now := range []int64{0, 4, 390, never - 4, never} {
				looksPlan(t, p, list, now)
			}
		}
	}
}

// Many Levels, so that some few Jobs don't find room among them.
func TestPlansOfManyLevels(t *testing.T) {
	d := dice(251)
	for _, n := range []int{impl.MaxLevels, impl.MaxLevels - 1, impl.MaxLevels - 3, impl.MaxLevels - 30} {
		for range 3 {
			looksPlan(t, comb(n), thrownWants(&d, 12, 2, 3), d.below(20))
		}
	}
	p, _ := impl.NewProfile(1000)
	list := []impl.Job{}
	for id := range int64(40) {
		list = append(list, wants(id+1, 25, 100+7*id))
	}
	looksPlan(t, p, list, 3)
	if left, is := impl.Left(p, list, impl.Planned(p, list, 3)); !is || len(left.Levels) != 42 || left.Levels[1] != at(3, 0) {
		t.Errorf("forty at a time: %v, %v", left, is)
	}
}

// Starts that are none of a plan: some overlap, some are late, some are none.
func TestLeftOfManyStarts(t *testing.T) {
	d, right := dice(257), 0
	const rounds = 3000
	for range rounds {
		p, list := thrownProfile(&d, 1+d.below(5), 6, 8), thrownWants(&d, 1+d.below(5), 4, 6)
		base := d.below(2) * (never - 30)
		starts := []int64{}
		for range list {
			starts = append(starts, []int64{-1, never, base + d.below(40), base + d.below(30), base + d.below(30)}[d.below(5)])
		}
		for i, start := range starts {
			starts[i] = min(start, never)
		}
		looksStarts(t, p, list, starts)
		if impl.PlanOk(p, list, starts) {
			right++
		}
	}
	if right*5 < rounds || right*5 > 4*rounds {
		t.Errorf("%d of %d are right: the test is wrong", right, rounds)
	}
}

// Plans that are right, with one start changed.
func TestLeftOfChangedStarts(t *testing.T) {
	d := dice(263)
	for range 60 {
		p, list, now := thrownProfile(&d, 1+d.below(5), 6, 8), thrownWants(&d, 1+d.below(8), 6, 6), d.below(9)
		starts := impl.Planned(p, list, now)
		for i, was := range starts {
			for _, start := range []int64{was - 1, was + 1, was + 2, 0, -1, never - 1, never} {
				own := slices.Clone(starts)
				own[i] = min(max(start, -1), never)
				looksStarts(t, p, list, own)
			}
			// behind those ahead no sooner start is right
			ahead := slices.Clone(starts[:i+1])
			for ahead[i] = now; ahead[i] < was && was < never; ahead[i]++ {
				if impl.PlanOk(p, list[:i+1], ahead) {
					t.Fatalf("of %v with %v from %d on: %v, but %v is right", p, list[:i+1], now, starts[:i+1], ahead)
				}
			}
		}
	}
}

// Who comes behind changes no start ahead, whoever that is, and however many.
func TestWhoComesBehindChangesNoStartAhead(t *testing.T) {
	d := dice(269)
	for range 200 {
		total := 1 + d.below(8)
		p, list, now := thrownProfile(&d, 1+d.below(6), total, 9), thrownWants(&d, d.below(20), total, 9), d.below(20)
		planned, strict := impl.Planned(p, list, now), impl.Strict(p, list, now)
		for range 4 {
			longer := slices.Clone(list)
			for n := range d.below(20) + 1 {
				longer = append(longer, wants(1000+n, 1+d.below(total+1), 1+d.below(10000)))
			}
			if got := impl.Planned(p, longer, now); len(got) != len(longer) || !slices.Equal(got[:len(list)], planned) {
				t.Fatalf("of %v with %v from %d on: %v, with more behind %v", p, list, now, planned, got)
			}
			if got := impl.Strict(p, longer, now); len(got) != len(longer) || !slices.Equal(got[:len(list)], strict) {
				t.Fatalf("of %v with %v from %d on: Strict %v, with more behind %v", p, list, now, strict, got)
			}
		}
	}
}

func TestPlansOfAsManyJobsAsMayBe(t *testing.T) {
	p := profile(4, at(0, 4))
	for _, n := range []int{39, 40} {
		list := alikeWants(n, 3, 10000)
		starts := impl.Planned(p, list, 7)
		if len(starts) != n || starts[n-1] != int64(7+10000*(n-1)) || impl.Makespan(list, starts) != int64(7+10000*n) {
			t.Errorf("%d Jobs: %v", n, starts)
		}
		looksPlan(t, p, list, 7)
		looksPlan(t, p, alikeWants(n, 1000, 10000), 7)
		looksPlan(t, p, alikeWants(n, 4, 10000), never-200005)
	}
	for _, n := range []int{41, 42, 400} {
		list := alikeWants(n, 1, 1)
		looksNoPlan(t, p, list, 0)
		for _, starts := range [][]int64{nil, make([]int64, n), slices.Repeat([]int64{-1}, n), slices.Repeat([]int64{never}, n), make([]int64, 40)} {
			looksNothingLeft(t, p, list, starts)
			if got := impl.Makespan(list, starts); got != -1 {
				t.Errorf("Makespan of %d Jobs: %d", n, got)
			}
		}
	}
}

func TestWrongJobsAreNotPlanned(t *testing.T) {
	p := profile(4, at(0, 4))
	for _, list := range append(wrongLists(), spoiltLists()...) {
		for _, now := range []int64{0, never, -1} {
			looksNoPlan(t, p, list, now)
		}
		for _, start := range []int64{-1, 0, never - 1, never, never + 1} {
			for _, n := range []int{0, 1, len(list), len(list) + 1} {
				starts := slices.Repeat([]int64{start}, n)
				looksNothingLeft(t, p, list, starts)
				if got := impl.Makespan(list, starts); got != -1 {
					t.Fatalf("Makespan of %v at %v: %d", list, starts, got)
				}
			}
		}
	}
}

func TestWrongProfilesAreNotPlanned(t *testing.T) {
	list := wanting([2]int64{1, 2}, [2]int64{2, 1})
	for _, p := range wrongProfiles() {
		for _, now := range []int64{0, 1, never, -1, math.MaxInt64} {
			looksNoPlan(t, p, list, now)
			looksNoPlan(t, p, nil, now)
		}
		for _, starts := range [][]int64{{0, 5}, {-1, -1}, {never, never}, {0, -1}, {0}, nil, {0, 5, -1}} {
			looksNothingLeft(t, p, list, starts)
			looksNothingLeft(t, p, nil, starts)
		}
	}
}

func TestPlansLookAtCoresAndLongAlone(t *testing.T) {
	d := dice(271)
	for range 10 {
		p, list := thrownProfile(&d, 5, 6, 8), thrownWants(&d, 9, 6, 6)
		planned, strict := impl.Planned(p, list, 4), impl.Strict(p, list, 4)
		for _, f := range jobFields() {
			if f.name == "Cores" || f.name == "Long" || f.name == "Id" {
				continue
			}
			for i := range list {
				for _, n := range []int64{f.least, f.most, 3} {
					other := slices.Clone(list)
					other[i] = with(list[i], f, n)
					if got := impl.Planned(p, other, 4); !slices.Equal(got, planned) {
						t.Fatalf("%s %d changes the plan %v to %v", f.name, n, planned, got)
					}
					if got := impl.Strict(p, other, 4); !slices.Equal(got, strict) {
						t.Fatalf("%s %d changes the strict plan %v to %v", f.name, n, strict, got)
					}
					looksStarts(t, p, other, planned)
				}
			}
		}
	}
}

// Promise 21 for chapter 10: nothing is written into what is handed in, nor behind it, and what is answered is no part of it.
func TestPlansShareNoMemory(t *testing.T) {
	d := dice(277)
	profiles := append(rightProfiles(), wrongProfiles()...)
	lists := [][]impl.Job{nil, wanting([2]int64{1, 1}), wanting([2]int64{1000, 3}, [2]int64{1, 2}), thrownWants(&d, 12, 9, 5), alikeWants(41, 1, 1), wrongJobs()}
	for _, given := range profiles {
		for _, right := range lists {
			p, wide := roomy(given), slices.Clone(roomy(given).Levels[:len(given.Levels)+3])
			list, all := behind(right)
			looks := func(what string) {
				t.Helper()
				if now := p.Levels[:len(p.Levels)+3]; p.Total != given.Total || !slices.Equal(now, wide) {
					t.Fatalf("%s: the Profile %v became %v", what, wide, now)
				}
				looksStill(t, what, list, all)
			}
			for _, plan := range []func(impl.Profile, []impl.Job, int64) []int64{impl.Planned, impl.Strict} {
				answer := func() []int64 { return plan(p, list, 2) }
				looksUnshared(t, "a plan", -77, answer)
				looks("a plan")
				for _, told := range [][]int64{answer(), slices.Repeat([]int64{-1}, len(list)), slices.Repeat([]int64{never}, len(list)), make([]int64, len(list))} {
					starts, own := roomFor(told, 7, 0, -5)
					impl.PlanOk(p, list, starts)
					impl.Makespan(list, starts)
					left, is := impl.Left(p, list, starts)
					again, _ := impl.Left(p, list, starts)
					if is {
						keep := slices.Clone(again.Levels)
						spoil(left)
						if !slices.Equal(again.Levels, keep) {
							t.Fatalf("of %v with %v: two Profiles that are Left share memory", given, right)
						}
					}
					looks("Left")
					looksStill(t, "the starts", starts, own)
				}
			}
		}
	}
}

func TestPlansAnswerAtEveryArgument(t *testing.T) {
	d := dice(281)
	ends := []int64{math.MinInt64, math.MinInt64 + 1, -never, -2, -1, 0, 1, 7, never - 1, never, never + 1, math.MaxInt64 - 1, math.MaxInt64}
	jobs := append(wrongJobs(), wants(1, 1, 1), wants(2, 5, 9), wants(3, 6, 10000), wants(4, 1000, 1))
	profiles := append(append(rightProfiles(), wrongProfiles()...), smallProfiles()...)
	for range 60000 {
		p, list, starts := profiles[d.below(int64(len(profiles)))], []impl.Job{}, []int64{}
		for range d.below(4) {
			list = append(list, jobs[d.below(int64(len(jobs)))])
		}
		if d.below(3) > 0 {
			list = wanting([2]int64{1, 1}, [2]int64{2, 9}, [2]int64{1000, 10000})[:d.below(4)]
		}
		for range list {
			starts = append(starts, ends[d.below(int64(len(ends)))])
		}
		if d.below(4) == 0 {
			starts = append(starts, ends[d.below(int64(len(ends)))])
		}
		now := ends[d.below(int64(len(ends)))]
		if impl.ProfileOk(p) && impl.JobsOk(list) && now >= 0 && now <= never {
			if got, want := impl.Planned(p, list, now), countPlan(p, list, now, false); !slices.Equal(got, want) {
				t.Fatalf("of %v with %v from %d on: %v, not %v", p, list, now, got, want)
			}
			if got, want := impl.Strict(p, list, now), countPlan(p, list, now, true); !slices.Equal(got, want) {
				t.Fatalf("of %v with %v from %d on: Strict %v, not %v", p, list, now, got, want)
			}
		} else {
			looksNoPlan(t, p, list, now)
		}
		told := impl.JobsOk(list) && len(starts) == len(list) && !slices.ContainsFunc(starts, func(start int64) bool { return start < -1 || start > never })
		if told && impl.ProfileOk(p) {
			looksStarts(t, p, list, starts)
			continue
		}
		looksNothingLeft(t, p, list, starts)
		if got := impl.Makespan(list, starts); !told && got != -1 || told && got != countMakespan(list, starts) {
			t.Fatalf("Makespan of %v at %v: %d", list, starts, got)
		}
	}
}
