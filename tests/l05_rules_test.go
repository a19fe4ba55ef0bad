package tests

import (
	"fmt"
	"math"
	"slices"
	"testing"

	"loop.example/g00255/impl"
)

// rule is an order of Jobs that a chapter tells, and its words told anew: which of two is ahead, and the fields that it looks at.
type rule struct {
	name   string
	of     func([]impl.Job) []impl.Job
	count  func([]impl.Job) []impl.Job
	fields []string
}

// rules are those of this chapter.
func rules() []rule {
	return []rule{
		{"Jackson", impl.Jackson, counted(dueAhead), []string{"Id", "Due"}},
		{"Smith", impl.Smith, counted(worthAhead), []string{"Id", "Weight", "Long"}},
		{"Shortest", impl.Shortest, counted(longAhead), []string{"Id", "Long"}},
		{"Hodgson", impl.Hodgson, countHodgson, []string{"Id", "Long", "Due"}},
	}
}

// allRules are those of later chapters as well: what is asked of one order is asked of each.
func allRules() []rule {
	return append(rules(), longest())
}

func dueAhead(a, b impl.Job) bool {
	return a.Due < b.Due || a.Due == b.Due && a.Id < b.Id
}

func worthAhead(a, b impl.Job) bool {
	one, two := a.Weight*b.Long, b.Weight*a.Long
	return one > two || one == two && a.Id < b.Id
}

func longAhead(a, b impl.Job) bool {
	return a.Long < b.Long || a.Long == b.Long && a.Id < b.Id
}

// counted puts each one where there are as many ahead of it; no sort can go wrong in it.
func counted[T any](ahead func(a, b T) bool) func([]T) []T {
	return func(list []T) []T {
		out := make([]T, len(list))
		for _, j := range list {
			n := 0
			for _, k := range list {
				if ahead(k, j) {
					n++
				}
			}
			out[n] = j
		}
		return out
	}
}

// countHodgson marks who is put aside, and sums up anew whenever it looks.
func countHodgson(list []impl.Job) []impl.Job {
	queue := counted(dueAhead)(list)
	gone := make([]bool, len(queue))
	for last := range queue {
		for {
			sum, most := int64(0), -1
			for i := range last + 1 {
				if gone[i] {
					continue
				}
				sum += queue[i].Long
				if most < 0 || longAhead(queue[most], queue[i]) {
					most = i
				}
			}
			if sum <= queue[last].Due {
				break
			}
			gone[most] = true
		}
	}
	out := []impl.Job{}
	for _, aside := range []bool{false, true} {
		for i, j := range queue {
			if gone[i] == aside {
				out = append(out, j)
			}
		}
	}
	return out
}

// everyOrder shows each order of the list; what is shown lasts till the next one.
func everyOrder[T any](list []T, see func([]T)) {
	own := slices.Clone(list)
	var from func(int)
	from = func(n int) {
		if n >= len(own)-1 {
			see(own)
			return
		}
		for i := n; i < len(own); i++ {
			own[n], own[i] = own[i], own[n]
			from(n + 1)
			own[n], own[i] = own[i], own[n]
		}
	}
	from(0)
}

// best are the least numbers that an order of a list can have.
type best struct{ lateness, weighted, tardy, waiting int64 }

func bestOfEvery(list []impl.Job) best {
	least := best{math.MaxInt64, math.MaxInt64, math.MaxInt64, math.MaxInt64}
	everyOrder(list, func(o []impl.Job) {
		now, late, weighted, tardy, waiting := int64(0), int64(math.MinInt64), int64(0), int64(0), int64(0)
		for _, j := range o {
			waiting += now
			now += j.Long
			late, weighted = max(late, now-j.Due), weighted+j.Weight*now
			if now > j.Due {
				tardy++
			}
		}
		if len(o) == 0 {
			late = 0
		}
		least = best{min(least.lateness, late), min(least.weighted, weighted), min(least.tardy, tardy), min(least.waiting, waiting)}
	})
	return least
}

// bestOfMany tells the same by other rules than the chapter's, for lists of which the orders are too many.
func bestOfMany(list []impl.Job) best {
	b := best{lateness: math.MinInt64, tardy: leastTardy(list)}
	for i, j := range list {
		// those that are due no later end at some time; the last of them is at least so late
		sum := int64(0)
		for _, k := range list {
			if k.Due <= j.Due {
				sum += k.Long
			}
		}
		b.lateness = max(b.lateness, sum-j.Due)
		b.weighted += j.Weight * j.Long
		// of each two one waits for the other
		for _, k := range list[:i] {
			b.weighted += min(j.Weight*k.Long, k.Weight*j.Long)
			b.waiting += min(j.Long, k.Long)
		}
	}
	if len(list) == 0 {
		b.lateness = 0
	}
	return b
}

// leastTardy goes by the least sum of Long with which n of the first ones can all be in time.
func leastTardy(list []impl.Job) int64 {
	sums := make([]int64, len(list)+1)
	for n := range sums {
		sums[n] = math.MaxInt32
	}
	sums[0] = 0
	for _, j := range counted(dueAhead)(list) {
		for n := len(list); n > 0; n-- {
			if sum := sums[n-1] + j.Long; sum <= j.Due {
				sums[n] = min(sums[n], sum)
			}
		}
	}
	for n := len(list); ; n-- {
		if sums[n] < math.MaxInt32 {
			return int64(len(list) - n)
		}
	}
}

func looksBest(t *testing.T, list []impl.Job, want best) {
	t.Helper()
	got := best{impl.Lateness(impl.Jackson(list)), impl.Weighted(impl.Smith(list)), impl.Tardy(impl.Hodgson(list)), impl.Waiting(impl.Shortest(list))}
	if got != want {
		t.Fatalf("of %v: %+v, but there are orders with %+v", list, got, want)
	}
}

// looksRuled holds each rule's order against its words told anew.
func looksRuled(t *testing.T, list []impl.Job) {
	t.Helper()
	for _, r := range allRules() {
		if got, want := r.of(list), r.count(list); !slices.Equal(got, want) {
			t.Fatalf("%s of %v:\n%v, not\n%v", r.name, list, got, want)
		}
	}
}

func looksIds(t *testing.T, what string, got []impl.Job, want ...int64) {
	t.Helper()
	if !slices.Equal(idsOf(got), want) {
		t.Errorf("%s: %v, not %v", what, idsOf(got), want)
	}
}

func TestRulesOfNoJobsAndOfOne(t *testing.T) {
	one := impl.Job{Id: 1000000, Cores: 1000, Long: 10000, Due: 3, Weight: 1000, Rank: 9, At: never}
	least := impl.Job{Id: 1, Cores: 1, Long: 1}
	for _, r := range allRules() {
		if a, b := r.of(nil), r.of([]impl.Job{}); len(a) != 0 || len(b) != 0 {
			t.Errorf("%s of no Jobs: %v and %v", r.name, a, b)
		}
		for _, j := range []impl.Job{one, least, asked(7, 5, 4, 0), asked(7, 5, 5, 0), asked(7, 5, 6, 0)} {
			if got := r.of([]impl.Job{j}); !slices.Equal(got, []impl.Job{j}) {
				t.Errorf("%s of %v: %v", r.name, j, got)
			}
		}
	}
}

func TestJacksonTable(t *testing.T) {
	j := func(id, due int64) impl.Job { return asked(id, id, due, id%5) }
	looksIds(t, "unlike", impl.Jackson([]impl.Job{j(1, 5), j(2, 4), j(3, 6), j(4, 9)}), 2, 1, 3, 4)
	looksIds(t, "alike", impl.Jackson([]impl.Job{j(9, 5), j(10, 5), j(2, 5), j(100, 5)}), 2, 9, 10, 100)
	looksIds(t, "the ends", impl.Jackson([]impl.Job{j(5, never), j(4, never), j(3, never-1), j(2, 0), j(6, 0), j(1, 1)}), 2, 6, 1, 3, 4, 5)
}

func TestSmithTable(t *testing.T) {
	looksIds(t, "unlike", impl.Smith([]impl.Job{asked(1, 4, 5, 1), asked(2, 3, 4, 9), asked(3, 2, 6, 1), asked(4, 1, 9, 2)}), 2, 4, 3, 1)
	looksIds(t, "alike in Weight for Long", impl.Smith([]impl.Job{asked(9, 2, 0, 1), asked(3, 4, 0, 2), asked(10, 6, 0, 3), asked(1, 3, 0, 1)}), 3, 9, 10, 1)
	looksIds(t, "of no Weight", impl.Smith([]impl.Job{asked(5, 1, 0, 0), asked(2, 9, 0, 0), asked(3, 10000, 0, 1), asked(4, 5, 0, 0)}), 3, 2, 4, 5)
	looksIds(t, "all of no Weight", impl.Smith([]impl.Job{asked(5, 1, 0, 0), asked(2, 10000, 0, 0), asked(3, 7, 0, 0)}), 2, 3, 5)
	looksIds(t, "of one Weight", impl.Smith([]impl.Job{asked(5, 7, 0, 3), asked(2, 9, 0, 3), asked(3, 8, 0, 3), asked(4, 7, 0, 3)}), 4, 5, 3, 2)
	looksIds(t, "of one Long", impl.Smith([]impl.Job{asked(5, 7, 0, 3), asked(2, 7, 0, 1000), asked(3, 7, 0, 4), asked(4, 7, 0, 3)}), 2, 3, 4, 5)
	// quotients that are the same when they are rounded; of 909 and 908 they are no more than a hundred-millionth apart
	looksIds(t, "nearest to one another", impl.Smith([]impl.Job{asked(1, 9989, 0, 908), asked(2, 10000, 0, 909)}), 2, 1)
	looksIds(t, "near one another", impl.Smith([]impl.Job{asked(1, 10000, 0, 999), asked(2, 9999, 0, 999), asked(3, 10000, 0, 1000)}), 3, 2, 1)
	looksIds(t, "below 1", impl.Smith([]impl.Job{asked(1, 10000, 0, 1), asked(2, 9999, 0, 1), asked(3, 9998, 0, 1)}), 3, 2, 1)
	looksIds(t, "turned about", impl.Smith([]impl.Job{asked(1, 3, 0, 7), asked(2, 7, 0, 3), asked(3, 7, 0, 7)}), 1, 3, 2)
	looksIds(t, "the ends", impl.Smith([]impl.Job{asked(1, 10000, 0, 1000), asked(2, 10000, 0, 0), asked(3, 1, 0, 1000), asked(4, 1, 0, 0), asked(5, 10, 0, 1)}), 3, 1, 5, 2, 4)
}

func TestShortestTable(t *testing.T) {
	looksIds(t, "unlike", impl.Shortest([]impl.Job{asked(1, 4, 5, 1), asked(2, 3, 4, 9), asked(3, 2, 6, 1), asked(4, 1, 9, 2)}), 4, 3, 2, 1)
	looksIds(t, "alike", impl.Shortest([]impl.Job{asked(9, 4, 1, 9), asked(10, 4, 0, 1), asked(2, 4, 7, 0), asked(100, 4, 0, 1000)}), 2, 9, 10, 100)
	looksIds(t, "the ends", impl.Shortest([]impl.Job{asked(1, 10000, 0, 0), asked(2, 9999, 0, 0), asked(3, 1, 0, 0), asked(1000000, 1, 0, 0)}), 3, 1000000, 2, 1)
}

func TestHodgsonTable(t *testing.T) {
	for _, c := range []struct {
		what  string
		list  []impl.Job
		want  []int64
		tardy int64
	}{
		{"one of four", []impl.Job{asked(1, 4, 5, 1), asked(2, 3, 4, 9), asked(3, 2, 6, 1), asked(4, 1, 9, 2)}, []int64{2, 3, 4, 1}, 1},
		{"all in time", []impl.Job{asked(3, 2, 9, 0), asked(1, 4, 4, 0), asked(2, 3, 9, 0)}, []int64{1, 2, 3}, 0},
		{"a Due met exactly", []impl.Job{asked(1, 4, 4, 0), asked(2, 3, 7, 0), asked(3, 2, 9, 0)}, []int64{1, 2, 3}, 0},
		{"the last Due missed by one", []impl.Job{asked(1, 4, 4, 0), asked(2, 3, 7, 0), asked(3, 2, 8, 0)}, []int64{2, 3, 1}, 1},
		{"a Due in the midst missed by one", []impl.Job{asked(1, 4, 4, 0), asked(2, 3, 6, 0), asked(3, 2, 9, 0)}, []int64{2, 3, 1}, 1},
		{"the first Due missed by one", []impl.Job{asked(1, 4, 3, 0), asked(2, 3, 7, 0), asked(3, 2, 9, 0)}, []int64{2, 3, 1}, 1},
		{"the one taken last is put aside", []impl.Job{asked(1, 2, 2, 0), asked(2, 9, 10, 0), asked(3, 3, 12, 0)}, []int64{1, 3, 2}, 1},
		{"another is put aside while one is taken", []impl.Job{asked(1, 5, 5, 0), asked(2, 4, 6, 0), asked(3, 2, 7, 0)}, []int64{2, 3, 1}, 1},
		{"the second of three is put aside", []impl.Job{asked(1, 3, 3, 0), asked(2, 5, 8, 0), asked(3, 4, 9, 0)}, []int64{1, 3, 2}, 1},
		{"of alike Longs the greatest Id, taken last", []impl.Job{asked(1, 4, 4, 0), asked(2, 4, 5, 0), asked(3, 4, 8, 0)}, []int64{1, 3, 2}, 1},
		{"of alike Longs the greatest Id, taken first", []impl.Job{asked(9, 4, 4, 0), asked(2, 4, 5, 0), asked(3, 4, 8, 0)}, []int64{2, 3, 9}, 1},
		{"of alike Longs the greatest Id, in the midst", []impl.Job{asked(2, 4, 4, 0), asked(9, 4, 8, 0), asked(3, 4, 9, 0)}, []int64{2, 3, 9}, 1},
		{"a greater Long goes above a greater Id", []impl.Job{asked(1, 5, 5, 0), asked(9, 4, 6, 0)}, []int64{9, 1}, 1},
		{"alike in all but Ids", []impl.Job{asked(3, 4, 9, 0), asked(1, 4, 9, 0), asked(2, 4, 9, 0), asked(4, 4, 9, 0)}, []int64{1, 2, 3, 4}, 2},
		{"those put aside by Due and not as they were put", []impl.Job{asked(1, 6, 8, 0), asked(2, 7, 9, 0), asked(3, 2, 9, 0), asked(4, 7, 9, 0), asked(5, 5, 10, 0)},
			[]int64{3, 5, 1, 2, 4}, 3},
		{"those put aside of one Due by Id", []impl.Job{asked(5, 6, 7, 0), asked(4, 8, 7, 0), asked(3, 1, 7, 0), asked(2, 9, 7, 0)}, []int64{3, 5, 2, 4}, 2},
		{"none in time", []impl.Job{asked(1, 5, 4, 0), asked(2, 3, 2, 0), asked(3, 1, 0, 0)}, []int64{3, 2, 1}, 3},
		{"a Due of 0", []impl.Job{asked(1, 1, 0, 0), asked(2, 1, 1, 0), asked(3, 1, 1, 0)}, []int64{2, 1, 3}, 2},
		{"never due", []impl.Job{asked(2, 10000, never, 0), asked(1, 10000, never, 0), asked(3, 10000, 9999, 0)}, []int64{1, 2, 3}, 1},
	} {
		got := impl.Hodgson(c.list)
		looksIds(t, c.what, got, c.want...)
		if tardy := countSingles(got).tardy; tardy != c.tardy {
			t.Errorf("%s: %d are late, not %d", c.what, tardy, c.tardy)
		}
		looksRuled(t, c.list)
		looksBest(t, c.list, bestOfEvery(c.list))
	}
}

// Those put aside come behind whatever their Due, and those that are left are all in time.
func TestHodgsonLeavesThoseInTime(t *testing.T) {
	for _, list := range singleLists() {
		got := impl.Hodgson(list)
		if len(got) != len(list) {
			t.Fatalf("of %v: %v", list, got)
		}
		left := len(got) - int(leastTardy(list))
		if countSingles(got[:left]).tardy != 0 {
			t.Fatalf("of %v: %v, of which not all of the first %d are in time", list, got, left)
		}
		for _, part := range [][]impl.Job{got[:left], got[left:]} {
			if !slices.Equal(part, counted(dueAhead)(part)) {
				t.Fatalf("of %v: %v, of which %v are not by Due", list, got, part)
			}
		}
	}
}

// Each list of up to three Jobs with three Longs, four Dues and three Weights, held against all its orders.
func TestNoOrderOfEveryThreeIsBetter(t *testing.T) {
	const kinds = 3 * 4 * 3
	for k := range int64(kinds * kinds * kinds) {
		list := []impl.Job{}
		for i, kind := range []int64{k % kinds, k / kinds % kinds, k / kinds / kinds} {
			id := []int64{2, 1, 3}[i]
			list = append(list, asked(id, 1+kind%3, kind/3%4+int64(i), kind/12))
		}
		for n := range 4 {
			looksRuled(t, list[:n])
			looksBest(t, list[:n], bestOfEvery(list[:n]))
		}
	}
}

// Each list of four Jobs with three Longs and five Dues.
func TestNoOrderOfEveryFourIsLater(t *testing.T) {
	const kinds = 3 * 5
	for k := range int64(kinds * kinds * kinds * kinds) {
		list := []impl.Job{}
		for i, kind := range []int64{k % kinds, k / kinds % kinds, k / kinds / kinds % kinds, k / kinds / kinds / kinds} {
			list = append(list, asked([]int64{3, 1, 4, 2}[i], 1+kind%3, kind/3+int64(i), kind%2))
		}
		if got, want := impl.Hodgson(list), countHodgson(list); !slices.Equal(got, want) {
			t.Fatalf("Hodgson of %v: %v, not %v", list, got, want)
		}
		looksBest(t, list, bestOfEvery(list))
	}
}

func TestNoOrderOfSomeFewIsBetter(t *testing.T) {
	d := dice(41)
	for _, n := range []int64{2, 3, 4, 5, 6, 7} {
		for _, longs := range []int64{1, 2, 4, 30, 10000} {
			for range 8 {
				list := thrownSingles(&d, n, longs)
				want := bestOfEvery(list)
				looksBest(t, list, want)
				if many := bestOfMany(list); many != want {
					t.Fatalf("of %v: %+v, but there are %+v; the test is wrong", list, many, want)
				}
			}
		}
	}
}

func manyLists() [][]impl.Job {
	d := dice(43)
	out := [][]impl.Job{alike(40, 10000, never, 1000), alike(40, 10000, 0, 1000), alike(40, 1, 20, 0), alike(39, 10000, 200000, 1), alike(40, 10000, 199999, 1)}
	for _, n := range []int64{12, 13, 25, 39, 40} {
		for _, longs := range []int64{1, 2, 9, 10000} {
			for range 20 {
				list := thrownSingles(&d, n, longs)
				out = append(out, list, slices.Clone(list))
				for i := range list {
					list[i].Due = d.below(n*longs/2 + 2)
				}
			}
		}
	}
	return out
}

func TestNoOrderOfManyIsBetter(t *testing.T) {
	for _, list := range append(manyLists(), singleLists()...) {
		looksRuled(t, list)
		looksBest(t, list, bestOfMany(list))
	}
}

// MaxJobs of them, each with a Due of its own that is met exactly; then one that is missed by one.
func TestRulesOfAsManyJobsAsMayBe(t *testing.T) {
	list := []impl.Job{}
	for id := int64(40); id > 0; id-- {
		list = append(list, asked(id, id, id*(id+1)/2, 41-id))
	}
	rising := slices.Clone(list)
	slices.Reverse(rising)
	for _, r := range rules() {
		if got := r.of(list); !slices.Equal(got, rising) {
			t.Errorf("%s: %v", r.name, got)
		}
	}
	list[0].Due--
	rising[39].Due--
	looksIds(t, "the longest missed by one", impl.Hodgson(list), idsOf(rising)...)
	list[1].Due--
	want := append(idsOf(rising)[:38], 40, 39)
	looksIds(t, "the longest but one missed by one", impl.Hodgson(list), want...)
	for _, n := range []int{41, 42, 80, 400} {
		for _, r := range allRules() {
			if got := r.of(alike(n, 1, never, 1)); len(got) != 0 {
				t.Errorf("%s of %d Jobs: %v", r.name, n, got)
			}
		}
	}
}

func TestRulesDoNotHangOnTheOrderOfTheList(t *testing.T) {
	d := dice(47)
	for _, list := range append(singleLists(), alike(40, 3, 50, 2), alike(7, 3, 10, 0)) {
		for range 3 {
			other := slices.Clone(list)
			for i := range other {
				k := d.below(int64(i) + 1)
				other[i], other[k] = other[k], other[i]
			}
			for _, r := range allRules() {
				if a, b := r.of(list), r.of(other); !slices.Equal(a, b) {
					t.Fatalf("%s of %v: %v, but in another order %v", r.name, list, a, b)
				}
			}
		}
	}
}

func TestRulesLookAtTheirFieldsAlone(t *testing.T) {
	d := dice(53)
	for range 20 {
		list := thrownSingles(&d, 12, 9)
		for _, r := range allRules() {
			want := idsOf(r.of(list))
			for _, f := range jobFields() {
				if slices.Contains(r.fields, f.name) {
					continue
				}
				for i := range list {
					for _, n := range []int64{f.least, f.most} {
						other := slices.Clone(list)
						other[i] = with(list[i], f, n)
						got := r.of(other)
						if !slices.Equal(idsOf(got), want) || !slices.Contains(got, other[i]) {
							t.Fatalf("%s of %v: %v, but the Ids %v", r.name, other, got, want)
						}
					}
				}
			}
		}
	}
}

// spoiltLists are the wrong lists, and such as are right but for one place.
func spoiltLists() [][]impl.Job {
	lists := wrongLists()
	for _, f := range jobFields() {
		for _, n := range []int64{f.least - 1, f.most + 1, math.MinInt64, math.MaxInt64} {
			for i := range 4 {
				list := alike(4, 2, 5, 3)
				list[i] = with(list[i], f, n)
				lists = append(lists, list)
			}
		}
	}
	for i := range 6 {
		for k := range i {
			list := alike(6, 2, 5, 3)
			list[i].Id, list[i].Long, list[i].Due = list[k].Id, 9, 1
			lists = append(lists, list)
		}
	}
	return lists
}

func TestWrongJobsAreNotRuled(t *testing.T) {
	for _, list := range spoiltLists() {
		for _, r := range allRules() {
			if got := r.of(list); len(got) != 0 {
				t.Fatalf("%s of %v: %v", r.name, list, got)
			}
		}
	}
}

// Promise 21 for each order: nothing is written into the list, nor behind it, and what is answered is no part of it.
func TestRulesShareNoMemory(t *testing.T) {
	for _, given := range append(append(singleLists(), wrongLists()...), alike(5, 3, 7, 1)) {
		for _, r := range allRules() {
			list, all := behind(given)
			one, two := r.of(list), r.of(list)
			was := slices.Clone(two)
			for i := range one[:cap(one)] {
				one[:cap(one)][i] = impl.Job{Id: -77}
			}
			if now := list[:len(all)]; !slices.Equal(now, all) {
				t.Fatalf("%s: the list %v became %v", r.name, all, now)
			}
			if !slices.Equal(two, was) || !slices.Equal(r.of(list), was) {
				t.Fatalf("%s of %v: two answers share memory", r.name, given)
			}
			for i := range list {
				list[i] = impl.Job{Id: 5, Long: 5}
			}
			if !slices.Equal(two, was) {
				t.Fatalf("%s of %v: a change of the list changes the answer", r.name, given)
			}
		}
	}
}

func TestRulesAnswerAtEveryArgument(t *testing.T) {
	all := append(wrongJobs(), asked(1, 1, 1, 1), asked(2, 10000, never, 1000), asked(3, 5, 0, 0))
	for _, a := range all {
		for _, b := range all {
			list := []impl.Job{a, b}
			right := impl.JobOk(a) && impl.JobOk(b) && a.Id != b.Id
			if right {
				looksRuled(t, list)
				continue
			}
			for _, r := range allRules() {
				if got := r.of(list); len(got) != 0 {
					t.Fatalf("%s of %v: %v", r.name, list, got)
				}
			}
		}
	}
}

func TestTurnsTable(t *testing.T) {
	for n, want := range []string{
		"[[]]", "[[0]]", "[[0 1] [1 0]]", "[[0 1 2] [0 2 1] [1 0 2] [1 2 0] [2 0 1] [2 1 0]]",
	} {
		if got := fmt.Sprint(impl.Turns(int64(n))); got != want {
			t.Errorf("Turns of %d: %s, not %s", n, got, want)
		}
	}
	six := impl.Turns(6)
	if len(six) != 720 {
		t.Fatalf("Turns of 6: %d", len(six))
	}
	for i, want := range map[int]string{
		0: "[0 1 2 3 4 5]", 1: "[0 1 2 3 5 4]", 2: "[0 1 2 4 3 5]", 119: "[0 5 4 3 2 1]", 120: "[1 0 2 3 4 5]", 718: "[5 4 3 2 0 1]", 719: "[5 4 3 2 1 0]",
	} {
		if got := fmt.Sprint(six[i]); got != want {
			t.Errorf("Turns of 6, number %d: %s, not %s", i, got, want)
		}
	}
}

// As many as there can be, each of all the numbers, each less than the next: so they are all, each once.
func TestTurnsAreAllOrdersEachOnce(t *testing.T) {
	many := 1
	for n := range int64(7) {
		many *= max(int(n), 1)
		turns := impl.Turns(n)
		if len(turns) != many {
			t.Fatalf("Turns of %d: %d, not %d", n, len(turns), many)
		}
		for i, turn := range turns {
			sorted := slices.Sorted(slices.Values(turn))
			for k := range n {
				if int64(len(sorted)) != n || sorted[k] != k {
					t.Fatalf("Turns of %d, number %d: %v", n, i, turn)
				}
			}
			if i > 0 && slices.Compare(turns[i-1], turn) >= 0 {
				t.Fatalf("Turns of %d: %v is ahead of %v", n, turns[i-1], turn)
			}
		}
	}
}

func TestTurnsOutOfRange(t *testing.T) {
	for _, n := range []int64{-1, -2, -6, 7, 8, 12, 64, 1 << 32, 1<<32 + 3, -1<<32 + 3, 1<<56 + 2, math.MaxInt64, math.MinInt64, math.MinInt64 + 3} {
		if got := impl.Turns(n); len(got) != 0 {
			t.Errorf("Turns of %d: %v", n, got)
		}
	}
}

// Promise 21 for Turns: no two lists share memory, of one answer or of two, spare room and all.
func TestTurnsShareNoMemory(t *testing.T) {
	for n := range int64(7) {
		one, two := impl.Turns(n), impl.Turns(n)
		was := fmt.Sprint(two)
		for i, turn := range one {
			for k := range turn[:cap(turn)] {
				turn[:cap(turn)][k] = int64(-1 - i)
			}
		}
		for i, turn := range one {
			for _, x := range turn[:cap(turn)] {
				if x != int64(-1-i) {
					t.Fatalf("Turns of %d: number %d has what was written into another", n, i)
				}
			}
		}
		for i := range one[:cap(one)] {
			one[:cap(one)][i] = nil
		}
		if now := fmt.Sprint(two); now != was || fmt.Sprint(impl.Turns(n)) != was {
			t.Fatalf("Turns of %d: two answers share memory: %s", n, now)
		}
	}
}
