package tests

import (
	"fmt"
	"math"
	"slices"
	"testing"

	"loop.example/g00255/impl"
)

// job is right where its four numbers are.
func job(id, rank, at, long int64) impl.Job {
	return impl.Job{Id: id, Cores: 1, Long: long, Due: never, Rank: rank, At: at}
}

// fieldOf is a field of something, and from where to where it goes.
type fieldOf[T any] struct {
	name        string
	least, most int64
	of          func(*T) *int64
}

func jobFields() []fieldOf[impl.Job] {
	return []fieldOf[impl.Job]{
		{"Id", 1, 1000000, func(j *impl.Job) *int64 { return &j.Id }},
		{"Cores", 1, 1000, func(j *impl.Job) *int64 { return &j.Cores }},
		{"Long", 1, 10000, func(j *impl.Job) *int64 { return &j.Long }},
		{"Due", 0, never, func(j *impl.Job) *int64 { return &j.Due }},
		{"Weight", 0, 1000, func(j *impl.Job) *int64 { return &j.Weight }},
		{"Rank", 0, 9, func(j *impl.Job) *int64 { return &j.Rank }},
		{"At", 0, never, func(j *impl.Job) *int64 { return &j.At }},
	}
}

func with[T any](right T, f fieldOf[T], n int64) T {
	*f.of(&right) = n
	return right
}

// spoilt are a right one, wrong in one field each, by one and by as much as can be.
func spoilt[T any](right T, fields []fieldOf[T]) []T {
	out := []T{}
	for _, f := range fields {
		for _, n := range []int64{f.least - 1, f.most + 1, -f.most, math.MinInt64, math.MinInt64 + f.most, math.MaxInt64 - f.most, math.MaxInt64} {
			if n < f.least || n > f.most {
				out = append(out, with(right, f, n))
			}
		}
	}
	return out
}

// wrongJobs are spoilt in one field each, and in all of them.
func wrongJobs() []impl.Job {
	out := []impl.Job{{}, {Id: 1, Cores: 1}, {Id: 1, Long: 1}, {Cores: 1, Long: 1}}
	for _, ends := range []int64{math.MinInt64, math.MaxInt64, -1} {
		out = append(out, impl.Job{Id: ends, Cores: ends, Long: ends, Due: ends, Weight: ends, Rank: ends, At: ends})
	}
	return append(out, spoilt(job(3, 2, 1, 5), jobFields())...)
}

// dice throws the same on each run.
type dice uint64

func (d *dice) below(n int64) int64 {
	*d = *d*6364136223846793005 + 1442695040888963407
	return int64(uint64(*d)>>33) % n
}

// thrown are n right Jobs with few Ranks and Ats, their Ids in no order.
func thrown(d *dice, n, ranks, ats int64) []impl.Job {
	list := []impl.Job{}
	for id := range n {
		j := job(id*7+1, d.below(ranks), d.below(ats), 1+d.below(9))
		list = append(list, j)
		k := d.below(id + 1)
		list[id], list[k] = list[k], list[id]
	}
	return list
}

func rightLists() [][]impl.Job {
	d := dice(3)
	out := [][]impl.Job{nil, {}, {job(1, 0, 0, 1)}, {job(1000000, 9, never, 10000)},
		{job(1, 1, 5, 1), job(2, 3, 9, 1), job(3, 1, 4, 1)},
		{job(2, 4, 4, 1), job(1, 4, 4, 1)}, {job(1, 4, 4, 1), job(2, 4, 4, 1)},
		{job(1, 4, never, 1), job(2, 4, 0, 1)}, {job(1, 0, 4, 1), job(2, 9, 4, 1)}}
	for _, n := range []int64{2, 3, 7, 12, 13, 39, 40} {
		for _, k := range []int64{1, 2, 3, 10} {
			out = append(out, thrown(&d, n, k, 1), thrown(&d, n, 1, k), thrown(&d, n, k, k), thrown(&d, n, k, never))
		}
	}
	return out
}

func wrongLists() [][]impl.Job {
	d := dice(5)
	a, b, c := job(1, 1, 1, 1), job(2, 2, 2, 2), job(3, 3, 3, 3)
	alike := job(1, 9, 0, 7)
	out := [][]impl.Job{{a, a}, {a, alike}, {a, b, a}, {b, a, alike}, {a, alike, c}, {a, b, c, a}, {c, c, c}}
	for _, n := range []int64{41, 42, 400} {
		out = append(out, thrown(&d, n, 3, 3))
	}
	for _, n := range []int{2, 40} {
		for _, k := range []int{0, n / 2, n - 1} {
			list := thrown(&d, int64(n), 3, 3)
			list[k].Id = list[(k+1)%n].Id
			out = append(out, list)
		}
	}
	for _, j := range wrongJobs() {
		out = append(out, []impl.Job{j}, []impl.Job{j, a, b}, []impl.Job{a, j, b}, []impl.Job{a, b, j}, []impl.Job{j, j},
			append(thrown(&d, 39, 3, 3), j))
	}
	return append(out, slices.Repeat([]impl.Job{{}}, 41), slices.Repeat([]impl.Job{a}, 41))
}

func TestLimitsOfJobs(t *testing.T) {
	if impl.MaxId != 1000000 || impl.MaxLong != 10000 || impl.MaxJobs != 40 {
		t.Error(impl.MaxId, impl.MaxLong, impl.MaxJobs)
	}
}

func TestJobOk(t *testing.T) {
	for _, f := range jobFields() {
		for _, n := range []int64{f.least, f.least + 1, f.most - 1, f.most} {
			if j := with(job(3, 2, 1, 5), f, n); !impl.JobOk(j) {
				t.Errorf("%s %d is refused: %v", f.name, n, j)
			}
		}
	}
	least, most := impl.Job{}, impl.Job{}
	for _, f := range jobFields() {
		least, most = with(least, f, f.least), with(most, f, f.most)
	}
	if !impl.JobOk(least) || !impl.JobOk(most) {
		t.Error("all fields at their ends are refused")
	}
	if early := (impl.Job{Id: 1, Cores: 1, Long: 9, Due: 3, At: 5}); !impl.JobOk(early) {
		t.Error("no chapter wants the Due behind the At")
	}
	for _, j := range wrongJobs() {
		if impl.JobOk(j) {
			t.Errorf("%v is accepted", j)
		}
	}
}

func TestJobsOk(t *testing.T) {
	for _, list := range rightLists() {
		if !impl.JobsOk(list) {
			t.Errorf("%v are refused", list)
		}
	}
	for _, list := range wrongLists() {
		if impl.JobsOk(list) {
			t.Errorf("%v are accepted", list)
		}
	}
	if !impl.JobsOk([]impl.Job{job(1, 1, 1, 1), job(2, 1, 1, 1), job(1000000, 1, 1, 1)}) {
		t.Error("Jobs may be alike but for their Ids")
	}
}

func TestAheadTable(t *testing.T) {
	for _, c := range []struct {
		a, b impl.Job
		want bool
	}{
		{job(1, 3, 5, 1), job(2, 2, 5, 1), true}, {job(1, 2, 5, 1), job(2, 3, 5, 1), false},
		{job(9, 3, 5, 1), job(2, 2, 1, 1), true}, {job(2, 2, 1, 1), job(9, 3, 5, 1), false},
		{job(9, 9, never, 1), job(1, 0, 0, 1), true}, {job(1, 0, 0, 1), job(9, 9, never, 1), false},
		{job(9, 3, 4, 1), job(2, 3, 5, 1), true}, {job(2, 3, 5, 1), job(9, 3, 4, 1), false},
		{job(9, 3, 0, 1), job(2, 3, never, 1), true}, {job(2, 3, never, 1), job(9, 3, 0, 1), false},
		{job(2, 3, 5, 9), job(9, 3, 5, 1), true}, {job(9, 3, 5, 1), job(2, 3, 5, 9), false},
		{job(2, 3, 5, 1), job(2, 3, 5, 1), false}, {job(2, 3, 5, 1), job(2, 3, 5, 9), false}, {job(2, 3, 5, 9), job(2, 3, 5, 1), false},
		{impl.Job{}, impl.Job{}, false}, {impl.Job{}, job(1, 0, 0, 1), true}, {job(1, 0, 0, 1), impl.Job{}, false},
	} {
		if got := impl.Ahead(c.a, c.b); got != c.want {
			t.Errorf("Ahead of %v and %v is %v", c.a, c.b, got)
		}
	}
}

// first tells as the chapter's words do, question by question.
func first(a, b impl.Job) bool {
	if a.Rank != b.Rank {
		return a.Rank > b.Rank
	}
	if a.At != b.At {
		return a.At < b.At
	}
	return a.Id < b.Id
}

// anyJobs have numbers from all of int64 where Ahead looks; a difference of two of them may be past its ends.
func anyJobs() []impl.Job {
	ends := []int64{math.MinInt64, math.MinInt64 + 1, -1, 0, 1, 9, 10, never, math.MaxInt64 - 1, math.MaxInt64}
	out := []impl.Job{}
	for _, rank := range ends {
		for _, at := range ends {
			for _, id := range ends {
				out = append(out, impl.Job{Id: id, Rank: rank, At: at})
			}
		}
	}
	return out
}

func TestAheadOfAnyTwo(t *testing.T) {
	all := anyJobs()
	for _, a := range all {
		for _, b := range all {
			ahead, behind := impl.Ahead(a, b), impl.Ahead(b, a)
			if ahead != first(a, b) || behind != first(b, a) {
				t.Fatalf("Ahead of %v and %v: %v, and changed %v", a, b, ahead, behind)
			}
			if ahead && behind || ahead == behind && a != b {
				t.Fatalf("%v and %v: %v both ways", a, b, ahead)
			}
		}
	}
}

func TestAheadLooksAtThreeFieldsAlone(t *testing.T) {
	for _, f := range jobFields() {
		if f.name == "Id" || f.name == "Rank" || f.name == "At" {
			continue
		}
		for _, n := range []int64{math.MinInt64, -1, 0, 1, math.MaxInt64} {
			a, b := with(job(3, 2, 1, 5), f, n), job(4, 2, 1, 5)
			if !impl.Ahead(a, b) || impl.Ahead(b, a) || impl.Ahead(a, job(3, 2, 1, 5)) || impl.Ahead(job(3, 2, 1, 5), a) {
				t.Errorf("%s %d changes who is first", f.name, n)
			}
		}
	}
}

func idsOf(list []impl.Job) []int64 {
	out := []int64{}
	for _, j := range list {
		out = append(out, j.Id)
	}
	return out
}

func TestQueueTable(t *testing.T) {
	for _, c := range []struct {
		list []impl.Job
		want []int64
	}{
		{nil, nil}, {[]impl.Job{}, nil}, {[]impl.Job{job(8, 1, 1, 1)}, []int64{8}},
		{[]impl.Job{job(1, 1, 5, 1), job(2, 3, 9, 1), job(3, 1, 4, 1)}, []int64{2, 3, 1}},
		{[]impl.Job{job(1, 0, 3, 1), job(2, 5, 3, 1), job(3, 9, 3, 1)}, []int64{3, 2, 1}},
		{[]impl.Job{job(1, 4, 9, 1), job(2, 4, 5, 1), job(3, 4, 0, 1)}, []int64{3, 2, 1}},
		{[]impl.Job{job(3, 4, 9, 1), job(1, 4, 9, 1), job(2, 4, 9, 1)}, []int64{1, 2, 3}},
		{[]impl.Job{job(10, 4, 9, 1), job(9, 4, 9, 1), job(100, 4, 9, 1)}, []int64{9, 10, 100}},
		{[]impl.Job{job(1, 0, 0, 1), job(2, 9, never, 1), job(1000000, 9, never, 1), job(4, 9, 0, 1), job(5, 0, never, 1)}, []int64{4, 2, 1000000, 1, 5}},
	} {
		if got := idsOf(impl.Queue(c.list)); !slices.Equal(got, c.want) {
			t.Errorf("Queue of %v: %v, not %v", c.list, got, c.want)
		}
	}
}

// looksQueued looks for all of list in queue, each Ahead of those behind it, and for the Place of each.
func looksQueued(t *testing.T, list []impl.Job) {
	t.Helper()
	queue := impl.Queue(list)
	if len(queue) != len(list) {
		t.Fatalf("of %v: %v", list, queue)
	}
	for _, j := range list {
		if !slices.Contains(queue, j) {
			t.Fatalf("of %v: %v, without %v", list, queue, j)
		}
		ahead := int64(0)
		for _, k := range list {
			if first(k, j) {
				ahead++
			}
		}
		if got := impl.Place(list, j.Id); got != ahead || queue[got] != j {
			t.Fatalf("of %v: Place of %d is %d, not %d", list, j.Id, got, ahead)
		}
	}
	for i, a := range queue {
		for _, b := range queue[i+1:] {
			if !impl.Ahead(a, b) || impl.Ahead(b, a) {
				t.Fatalf("of %v: %v, where %v is ahead of %v", list, queue, a, b)
			}
		}
	}
}

func TestAQueueHasAllEachAheadOfThoseBehindIt(t *testing.T) {
	for _, list := range rightLists() {
		looksQueued(t, list)
		back := slices.Clone(list)
		slices.Reverse(back)
		looksQueued(t, back)
		if !slices.Equal(impl.Queue(list), impl.Queue(back)) {
			t.Fatalf("%v: the Queue hangs on the order of the list", list)
		}
		if again := impl.Queue(impl.Queue(list)); !slices.Equal(again, impl.Queue(list)) {
			t.Fatalf("%v: the Queue's Queue is %v", list, again)
		}
	}
}

// Four Jobs with each two Ranks and two Ats, in each order of their Ids.
func TestQueuesOfEveryFour(t *testing.T) {
	ids := [][]int64{}
	for k := range int64(4 * 4 * 4 * 4) {
		if o := []int64{k % 4, k / 4 % 4, k / 16 % 4, k / 64}; len(slices.Compact(slices.Sorted(slices.Values(o)))) == 4 {
			ids = append(ids, o)
		}
	}
	if len(ids) != 24 {
		t.Fatal(len(ids))
	}
	for _, o := range ids {
		for k := range int64(4 * 4 * 4 * 4) {
			list := []impl.Job{}
			for i, kind := range []int64{k % 4, k / 4 % 4, k / 16 % 4, k / 64} {
				list = append(list, job(o[i]+1, kind%2, kind/2, 1+kind))
			}
			looksQueued(t, list)
		}
	}
}

func TestPlaceTable(t *testing.T) {
	list := []impl.Job{job(1, 1, 5, 1), job(2, 3, 9, 1), job(3, 1, 4, 1), job(1000000, 1, 4, 1)}
	for _, c := range []struct{ id, want int64 }{
		{2, 0}, {3, 1}, {1000000, 2}, {1, 3},
		{4, -1}, {0, -1}, {-1, -1}, {-2, -1}, {999999, -1}, {1000001, -1}, {math.MaxInt64, -1}, {math.MinInt64, -1},
	} {
		if got := impl.Place(list, c.id); got != c.want {
			t.Errorf("Place of %d is %d, not %d", c.id, got, c.want)
		}
		if got := impl.Place(nil, c.id); got != -1 {
			t.Errorf("of no Jobs the Place of %d is %d", c.id, got)
		}
	}
}

func TestWrongJobsAreNotQueued(t *testing.T) {
	for _, list := range wrongLists() {
		if got := impl.Queue(list); len(got) != 0 {
			t.Fatalf("Queue of %v: %v", list, got)
		}
		for _, id := range append(idsOf(list), 0, 1, 2, 3, -1, 999, math.MaxInt64, math.MinInt64) {
			if got := impl.Place(list, id); got != -1 {
				t.Fatalf("Place of %d in %v: %d", id, list, got)
			}
		}
	}
}

// roomFor is list with spare room behind it, where something stands already, and a copy of all that.
func roomFor[T any](list []T, spare ...T) (roomy, all []T) {
	all = slices.Concat(list, spare)
	roomy = slices.Clone(all)
	return roomy[:len(list)], all
}

// looksStill looks whether a list and the spare room behind it are as they were.
func looksStill[T comparable](t *testing.T, what string, roomy, all []T) {
	t.Helper()
	if now := roomy[:len(all)]; !slices.Equal(now, all) {
		t.Fatalf("%s: %v became %v", what, all, now)
	}
}

// looksUnshared spoils an answer and the spare room behind it: no other answer may be spoilt by that.
func looksUnshared[T comparable](t *testing.T, what string, junk T, answer func() []T) {
	t.Helper()
	one, two := answer(), answer()
	was := slices.Clone(two)
	one = one[:cap(one)]
	for i := range one {
		one[i] = junk
	}
	if !slices.Equal(two, was) || !slices.Equal(answer(), was) {
		t.Fatalf("%s: two answers share memory", what)
	}
}

func behind(list []impl.Job) (roomy, all []impl.Job) {
	return roomFor(list, job(7, 7, 7, 7), impl.Job{Id: -5}, job(8, 8, 8, 8))
}

// Promise 21 for chapter 3: nothing is written into the list, nor behind it, and what is answered is no part of it.
func TestQueuesShareNoMemory(t *testing.T) {
	for _, right := range append(rightLists(), wrongLists()...) {
		list, all := behind(right)
		looks := func(what string) {
			if now := list[:len(all)]; !slices.Equal(now, all) {
				t.Fatalf("%s: the list %v became %v", what, all, now)
			}
		}
		one, two := impl.Queue(list), impl.Queue(list)
		looks("Queue")
		was := slices.Clone(two)
		for i := range one[:cap(one)] {
			one[:cap(one)][i] = impl.Job{Id: -77}
		}
		looks("a change of the answer")
		if !slices.Equal(two, was) || !slices.Equal(impl.Queue(list), was) {
			t.Fatalf("%v: two answers share memory", right)
		}
		for i := range list {
			list[i].Rank += 3
		}
		if !slices.Equal(two, was) {
			t.Fatalf("%v: a change of the list changes its Queue", right)
		}
		copy(list, all)
		impl.JobsOk(list)
		for _, id := range append(idsOf(list), 0, -1) {
			impl.Place(list, id)
		}
		looks("what tells numbers")
	}
}

func TestJobsAnswerAtEveryArgument(t *testing.T) {
	all := append(wrongJobs(), job(1, 1, 1, 1), job(2, 1, 1, 1), job(3, 1, 1, 1))
	for _, a := range all {
		for _, b := range all {
			if impl.Ahead(a, b) != first(a, b) {
				t.Fatalf("Ahead of %v and %v", a, b)
			}
			list := []impl.Job{a, b}
			right := impl.JobOk(a) && impl.JobOk(b) && a.Id != b.Id
			told := fmt.Sprint(impl.JobsOk(list), len(impl.Queue(list)) == 2, impl.Place(list, a.Id) >= 0, impl.Place(list, b.Id) >= 0)
			if told != fmt.Sprint(right, right, right, right) {
				t.Fatalf("%v: %s", list, told)
			}
		}
	}
}
