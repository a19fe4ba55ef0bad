package tests

import (
	"fmt"
	"math"
	"slices"
	"testing"

	"loop.example/g00255/impl"
)

// longest is among the rules, so that what is asked of each of those is asked of it.
func longest() rule {
	return rule{"Longest", impl.Longest, counted(longestAhead), []string{"Id", "Long"}}
}

func longestAhead(a, b impl.Job) bool {
	return a.Long > b.Long || a.Long == b.Long && a.Id < b.Id
}

// long are Jobs with these Longs, with Ids from 1 on.
func long(longs ...int64) []impl.Job {
	list := []impl.Job{}
	for i, n := range longs {
		list = append(list, asked(int64(i+1), n, 0, 0))
	}
	return list
}

// graham is what chapter 6 tells of a list on m machines: of the list as it is, and of its Longest.
type graham struct {
	spread         []int64
	span, longSpan int64
	optimum, bound int64
}

func tellGraham(list []impl.Job, m int64) graham {
	g := graham{spread: impl.Spread(list, m), optimum: impl.Optimum(list, m), bound: impl.Bound(list, m)}
	g.span = impl.Span(list, g.spread, m)
	rest := impl.Longest(list)
	g.longSpan = impl.Span(rest, impl.Spread(rest, m), m)
	if len(rest) != len(list) {
		// a Longest of nothing has a Span of 0, of whatever it is nothing
		g.longSpan = -1
	}
	return g
}

func (g graham) String() string {
	return fmt.Sprintf("Spread %v with Span %d, by Longest %d, Optimum %d, Bound %d", g.spread, g.span, g.longSpan, g.optimum, g.bound)
}

// countLoad is what machine k has to do of the Jobs that were given already.
func countLoad(list []impl.Job, machines []int64, k int64) int64 {
	load := int64(0)
	for i, n := range machines {
		if n == k {
			load += list[i].Long
		}
	}
	return load
}

// countSpread reckons what each machine has to do anew for each Job.
func countSpread(list []impl.Job, m int64) []int64 {
	out := []int64{}
	for range list {
		first := int64(0)
		for k := range m {
			if countLoad(list, out, k) < countLoad(list, out, first) {
				first = k
			}
		}
		out = append(out, first)
	}
	return out
}

func countSpan(list []impl.Job, machines []int64, m int64) int64 {
	most := int64(0)
	for k := range m {
		most = max(most, countLoad(list, machines, k))
	}
	return most
}

// everyGift shows each way to give n Jobs to m machines; what is shown lasts till the next one.
func everyGift(n int, m int64, see func([]int64)) {
	machines := make([]int64, n)
	for {
		see(machines)
		i := 0
		for i < n && machines[i] == m-1 {
			machines[i] = 0
			i++
		}
		if i == n {
			return
		}
		machines[i]++
	}
}

func countOptimum(list []impl.Job, m int64) int64 {
	least := int64(math.MaxInt64)
	everyGift(len(list), m, func(machines []int64) { least = min(least, countSpan(list, machines, m)) })
	return least
}

// countBound goes up till it is no less than any Long, and m times it no less than their sum.
func countBound(list []impl.Job, m int64) int64 {
	sum, bound := int64(0), int64(0)
	for _, j := range list {
		sum += j.Long
		bound = max(bound, j.Long)
	}
	for bound*m < sum {
		bound++
	}
	return bound
}

// countGraham is tellGraham by the words told anew; there is an Optimum of some few Jobs on some few machines alone.
func countGraham(list []impl.Job, m int64) graham {
	g := graham{spread: countSpread(list, m), optimum: -1, bound: countBound(list, m)}
	g.span = countSpan(list, g.spread, m)
	rest := counted(longestAhead)(list)
	g.longSpan = countSpan(rest, countSpread(rest, m), m)
	if len(list) <= 7 && m <= 4 {
		g.optimum = countOptimum(list, m)
	}
	return g
}

func refusedGraham() graham {
	return graham{span: -1, longSpan: -1, optimum: -1, bound: -1}
}

func looksGraham(t *testing.T, list []impl.Job, m int64, want graham) {
	t.Helper()
	if got := tellGraham(list, m); got.String() != want.String() {
		t.Fatalf("of %v on %d:\n%v, not\n%v", list, m, got, want)
	}
}

// looksNear is promise 6 for a list of which the best is known: multiplied, so that nothing is rounded.
func looksNear(t *testing.T, list []impl.Job, m, best int64) {
	t.Helper()
	g := tellGraham(list, m)
	if m*g.span > (2*m-1)*best || 3*m*g.longSpan > (4*m-1)*best {
		t.Fatalf("of %v on %d: %v, too far from %d", list, m, g, best)
	}
	if g.span < best || g.longSpan < best || g.bound > best {
		t.Fatalf("of %v on %d: %v, but %d is best", list, m, g, best)
	}
}

// looksNearBound asks for what holds of each list, however many ways there are to give it: what is not far from the Bound is not far from the best.
func looksNearBound(t *testing.T, list []impl.Job, m int64) {
	t.Helper()
	g := tellGraham(list, m)
	for _, span := range []int64{g.span, g.longSpan} {
		if span < g.bound || m*span > (2*m-1)*g.bound {
			t.Fatalf("of %v on %d: %v, too far from the Bound", list, m, g)
		}
	}
}

// looksShared holds all that is told of a list on m machines against the words told anew, against the Bound, and against the best where it can.
func looksShared(t *testing.T, list []impl.Job, m int64) {
	t.Helper()
	want := countGraham(list, m)
	looksGraham(t, list, m, want)
	looksNearBound(t, list, m)
	if want.optimum >= 0 {
		looksNear(t, list, m, want.optimum)
	}
}

func wrongCounts() []int64 {
	return []int64{math.MinInt64, math.MinInt64 + 1, -1 << 32, -10, -4, -1, 0, 11, 12, 40, 1<<8 + 2, 1<<32 + 2, 1<<62 + 2, math.MaxInt64 - 1, math.MaxInt64}
}

func TestSpreadTable(t *testing.T) {
	for _, c := range []struct {
		list []impl.Job
		m    int64
		want []int64
	}{
		{nil, 1, nil}, {[]impl.Job{}, 10, nil}, {long(5), 1, []int64{0}}, {long(5), 10, []int64{0}},
		{long(3, 3, 2, 2, 2), 2, []int64{0, 1, 0, 1, 0}},
		{long(3, 3, 2, 2, 2), 1, []int64{0, 0, 0, 0, 0}},
		{long(3, 3, 2, 2, 2), 3, []int64{0, 1, 2, 2, 0}},
		{long(3, 3, 2, 2, 2), 5, []int64{0, 1, 2, 3, 4}},
		{long(3, 3, 2, 2, 2), 10, []int64{0, 1, 2, 3, 4}},
		// the machine with the least to do, the first one or not
		{long(1, 5, 1, 1), 2, []int64{0, 1, 0, 0}}, {long(5, 1, 1, 1), 2, []int64{0, 1, 1, 1}},
		{long(9, 1, 9, 1, 9), 3, []int64{0, 1, 2, 1, 1}},
		{long(4, 3, 2, 1, 1, 1, 1), 4, []int64{0, 1, 2, 3, 3, 2, 3}},
		// of alike loads the first machine, though another came to it sooner
		{long(2, 1, 1, 9), 2, []int64{0, 1, 1, 0}}, {long(1, 2, 1, 9), 2, []int64{0, 1, 0, 0}},
		{long(3, 2, 1, 2, 1), 3, []int64{0, 1, 2, 2, 1}}, {long(3, 2, 1, 1, 1, 1), 3, []int64{0, 1, 2, 2, 1, 2}},
		{long(3, 1, 1, 2, 2, 7, 7), 3, []int64{0, 1, 2, 1, 2, 0, 1}},
		{long(1, 1, 1, 1, 1, 1, 1, 1), 3, []int64{0, 1, 2, 0, 1, 2, 0, 1}},
		{long(1, 1, 1, 1, 1, 1, 1, 1, 1, 1, 1, 1), 10, []int64{0, 1, 2, 3, 4, 5, 6, 7, 8, 9, 0, 1}},
		{long(9, 8, 7, 6, 5, 4, 3, 2, 1, 1, 1, 1), 10, []int64{0, 1, 2, 3, 4, 5, 6, 7, 8, 9, 8, 9}},
		{long(10000, 1, 9999, 1), 2, []int64{0, 1, 1, 0}}, {long(10000, 1, 9998, 2), 2, []int64{0, 1, 1, 1}},
		// in the order of the list, whatever the Ids
		{[]impl.Job{asked(9, 1, 0, 0), asked(3, 5, 0, 0), asked(5, 2, 0, 0), asked(1, 2, 0, 0)}, 2, []int64{0, 1, 0, 0}},
		{[]impl.Job{asked(1, 2, 0, 0), asked(3, 5, 0, 0), asked(5, 2, 0, 0), asked(9, 1, 0, 0)}, 2, []int64{0, 1, 0, 0}},
		{[]impl.Job{asked(3, 5, 0, 0), asked(9, 1, 0, 0), asked(1, 2, 0, 0), asked(5, 2, 0, 0)}, 2, []int64{0, 1, 1, 1}},
	} {
		if got := impl.Spread(c.list, c.m); !slices.Equal(got, c.want) {
			t.Errorf("Spread of %v on %d: %v, not %v", c.list, c.m, got, c.want)
		}
	}
}

func TestSpanTable(t *testing.T) {
	list := long(5, 3, 2, 9)
	for _, c := range []struct {
		list     []impl.Job
		machines []int64
		m, want  int64
	}{
		{nil, nil, 1, 0}, {nil, []int64{}, 10, 0}, {long(7), []int64{0}, 1, 7}, {long(7), []int64{9}, 10, 7},
		{list, []int64{0, 0, 0, 0}, 1, 19}, {list, []int64{0, 0, 0, 0}, 10, 19}, {list, []int64{9, 9, 9, 9}, 10, 19},
		{list, []int64{0, 0, 0, 1}, 2, 10}, {list, []int64{1, 1, 1, 0}, 2, 10}, {list, []int64{0, 1, 1, 0}, 2, 14},
		{list, []int64{0, 1, 0, 1}, 2, 12}, {list, []int64{1, 0, 1, 0}, 2, 12}, {list, []int64{0, 1, 1, 2}, 3, 9},
		{list, []int64{0, 2, 2, 1}, 3, 9}, {list, []int64{3, 2, 1, 0}, 4, 9}, {list, []int64{3, 0, 3, 0}, 4, 12},
		{list, []int64{1, 3, 3, 3}, 4, 14}, {list, []int64{1, 3, 3, 3}, 10, 14},
		{list, []int64{1, 3, 3, 3}, 3, -1}, {list, []int64{0, 0, 0, 1}, 1, -1}, {list, []int64{10, 0, 0, 0}, 10, -1},
		{long(10000, 10000, 1), []int64{0, 0, 1}, 2, 20000},
	} {
		if got := impl.Span(c.list, c.machines, c.m); got != c.want {
			t.Errorf("Span of %v by %v on %d: %d, not %d", c.list, c.machines, c.m, got, c.want)
		}
	}
}

func TestSpanOfEveryGift(t *testing.T) {
	for _, list := range [][]impl.Job{nil, long(7), long(4, 4), long(1, 2, 4, 8), long(5, 1, 5, 3, 2)} {
		for m := int64(1); m <= 4; m++ {
			everyGift(len(list), m, func(machines []int64) {
				if got, want := impl.Span(list, machines, m), countSpan(list, machines, m); got != want {
					t.Fatalf("Span of %v by %v on %d: %d, not %d", list, machines, m, got, want)
				}
			})
		}
	}
}

func TestLongestTable(t *testing.T) {
	looksIds(t, "unlike", impl.Longest(long(1, 4, 2, 3)), 2, 4, 3, 1)
	looksIds(t, "alike", impl.Longest([]impl.Job{asked(9, 4, 1, 9), asked(10, 4, 0, 1), asked(2, 4, 7, 0), asked(100, 4, 0, 1000)}), 2, 9, 10, 100)
	looksIds(t, "some alike", impl.Longest([]impl.Job{asked(7, 2, 0, 0), asked(8, 3, 0, 0), asked(5, 2, 0, 0), asked(6, 3, 0, 0), asked(9, 1, 0, 0)}), 6, 8, 5, 7, 9)
	looksIds(t, "the ends", impl.Longest([]impl.Job{asked(1, 1, 0, 0), asked(2, 2, 0, 0), asked(3, 10000, 0, 0), asked(1000000, 10000, 0, 0), asked(4, 9999, 0, 0)}), 3, 1000000, 4, 2, 1)
}

func TestOptimumTable(t *testing.T) {
	for _, c := range []struct {
		list []impl.Job
		want [4]int64 // on 1 to 4 machines
	}{
		{nil, [4]int64{}}, {long(5), [4]int64{5, 5, 5, 5}}, {long(5, 5), [4]int64{10, 5, 5, 5}},
		{long(3, 3, 2, 2, 2), [4]int64{12, 6, 5, 4}}, {long(1, 1, 1, 3), [4]int64{6, 3, 3, 3}},
		{long(5, 5, 4, 4, 3, 3, 3), [4]int64{27, 14, 9, 8}}, {long(1, 1, 1, 1, 1, 1, 3), [4]int64{9, 5, 3, 3}},
		{long(7, 7, 7, 7, 7, 7, 7), [4]int64{49, 28, 21, 14}}, {long(1, 2, 4, 8, 16, 32, 64), [4]int64{127, 64, 64, 64}},
		{long(6, 5, 4, 3, 2, 1), [4]int64{21, 11, 7, 6}}, {long(9, 2, 2, 2, 2, 2), [4]int64{19, 10, 9, 9}},
		{long(10000, 10000, 10000, 10000, 10000, 10000, 10000), [4]int64{70000, 40000, 30000, 20000}},
		{long(10000, 1, 9999, 2, 9998, 3, 9997), [4]int64{40000, 20000, 19995, 10000}},
		{long(1, 1, 1, 1, 1, 1, 1, 1), [4]int64{-1, -1, -1, -1}},
	} {
		for i, want := range c.want {
			if got := impl.Optimum(c.list, int64(i+1)); got != want {
				t.Errorf("Optimum of %v on %d: %d, not %d", c.list, i+1, got, want)
			}
		}
		for _, m := range append(wrongCounts(), 5, 6, 7, 8, 9, 10) {
			if got := impl.Optimum(c.list, m); got != -1 {
				t.Errorf("Optimum of %v on %d: %d", c.list, m, got)
			}
		}
	}
	for n := 8; n <= 42; n++ {
		for m := int64(1); m <= 4; m++ {
			if got := impl.Optimum(alike(n, 1, 0, 0), m); got != -1 {
				t.Errorf("Optimum of %d Jobs on %d: %d", n, m, got)
			}
		}
	}
}

func TestBoundTable(t *testing.T) {
	for _, c := range []struct {
		list    []impl.Job
		m, want int64
	}{
		{nil, 1, 0}, {nil, 10, 0}, {[]impl.Job{}, 7, 0}, {long(5), 1, 5}, {long(5), 2, 5}, {long(5), 10, 5},
		{long(3, 3, 2, 2, 2), 1, 12}, {long(3, 3, 2, 2, 2), 2, 6}, {long(3, 3, 2, 2, 2), 3, 4}, {long(3, 3, 2, 2, 2), 4, 3}, {long(3, 3, 2, 2, 2), 5, 3},
		{long(3, 3, 2, 2, 2), 9, 3}, {long(3, 3, 2, 2, 2), 10, 3},
		// rounded up, by however little it is above
		{long(2, 2, 2, 1), 2, 4}, {long(2, 2, 2, 2), 2, 4}, {long(2, 2, 2, 2, 1), 2, 5},
		{long(3, 3, 3, 1), 3, 4}, {long(3, 3, 3, 2), 3, 4}, {long(3, 3, 3, 3), 3, 4}, {long(3, 3, 3, 3, 1), 3, 5}, {long(3, 3, 3), 3, 3},
		{long(1, 1, 1, 1, 1, 1, 1, 1, 1, 1), 10, 1}, {long(1, 1, 1, 1, 1, 1, 1, 1, 1, 1, 1), 10, 2},
		// the greatest Long, wherever it stands, one above, alike and one below
		{long(9, 1, 1), 2, 9}, {long(1, 9, 1), 2, 9}, {long(1, 1, 9), 2, 9},
		{long(6, 3, 2), 2, 6}, {long(5, 3, 2), 2, 5}, {long(4, 4, 2), 2, 5}, {long(6, 3, 3), 2, 6}, {long(6, 3, 4), 2, 7},
		{alike(40, 10000, 0, 0), 1, 400000}, {alike(40, 10000, 0, 0), 10, 40000}, {alike(40, 10000, 0, 0), 7, 57143}, {alike(39, 9999, 0, 0), 10, 38997},
	} {
		if got := impl.Bound(c.list, c.m); got != c.want {
			t.Errorf("Bound of %v on %d: %d, not %d", c.list, c.m, got, c.want)
		}
	}
}

func TestMachinesOutOfRange(t *testing.T) {
	for _, list := range [][]impl.Job{nil, {}, long(5), long(3, 3, 2, 2, 2), alike(40, 1, 0, 0)} {
		for _, m := range wrongCounts() {
			looksGraham(t, list, m, refusedGraham())
			if got := impl.Span(list, make([]int64, len(list)), m); got != -1 {
				t.Errorf("Span of %v on %d: %d", list, m, got)
			}
		}
	}
}

func TestMachinesOfNoJobsAndOfOne(t *testing.T) {
	for m := int64(1); m <= 10; m++ {
		for _, list := range [][]impl.Job{nil, {}, long(1), long(10000), {{Id: 1000000, Cores: 1000, Long: 7, Due: never, Weight: 1000, Rank: 9, At: never}}} {
			looksShared(t, list, m)
		}
	}
}

// Each list of up to four Jobs with four Longs, of five with three, and of six and seven with two, on 1 to 4 machines.
func TestGrahamOfEveryFew(t *testing.T) {
	for n, longs := range []int64{1, 4, 4, 4, 4, 3, 2, 2} {
		everyGift(n, longs, func(kinds []int64) {
			list := long(kinds...)
			for i := range list {
				list[i].Long = []int64{1, 3, 2, 5}[kinds[i]]
			}
			for m := int64(1); m <= 4; m++ {
				looksShared(t, list, m)
			}
		})
	}
}

func TestGrahamOfThrownFew(t *testing.T) {
	d := dice(59)
	for n := int64(1); n <= 7; n++ {
		for _, longs := range []int64{2, 5, 30, 10000} {
			for range 6 {
				list := thrownSingles(&d, n, longs)
				for m := int64(1); m <= 4; m++ {
					looksShared(t, list, m)
				}
			}
		}
	}
}

// Nothing nearer can be promised: here both are just as far off as they may be.
func TestGrahamIsMetExactly(t *testing.T) {
	for m := int64(1); m <= 6; m++ {
		list := append(alike(int(m*(m-1)), 1, 0, 0), asked(1000, m, 0, 0))
		if g := tellGraham(list, m); g.span != 2*m-1 || g.longSpan != m || g.bound != m {
			t.Errorf("of %v on %d: %v", list, m, g)
		}
		looksNear(t, list, m, m)
	}
	for m := int64(2); m <= 10; m++ {
		longs := []int64{m}
		for n := m; n < 2*m; n++ {
			longs = append(longs, n, n)
		}
		list := long(longs...)
		if g := tellGraham(list, m); g.longSpan != 4*m-1 || g.bound != 3*m {
			t.Errorf("of %v on %d: %v", list, m, g)
		}
		looksNear(t, list, m, 3*m)
	}
}

// thrownFull are Jobs that m machines can do without a gap, each in so much time: that is the best then.
func thrownFull(d *dice, m, each int64) []impl.Job {
	list := []impl.Job{}
	for range m {
		for left := each; left > 0; {
			long := left
			if len(list) < 28 {
				long = 1 + d.below(left)
			}
			list = append(list, asked(int64(len(list)+1), long, 0, 0))
			left -= long
		}
	}
	for i := range list {
		k := d.below(int64(i) + 1)
		list[i].Long, list[k].Long = list[k].Long, list[i].Long
	}
	return list
}

func TestGrahamOfManyWithAKnownBest(t *testing.T) {
	d := dice(61)
	for m := int64(1); m <= 10; m++ {
		for _, each := range []int64{1, 3, 12, 1000, 10000} {
			for range 10 {
				list := thrownFull(&d, m, each)
				if !impl.JobsOk(list) || impl.Bound(list, m) != each {
					t.Fatalf("of %v on %d: %d; the test is wrong", list, m, impl.Bound(list, m))
				}
				looksShared(t, list, m)
				looksNear(t, list, m, each)
			}
		}
	}
}

func TestGrahamOfMany(t *testing.T) {
	for _, list := range append(singleLists(), alike(40, 10000, 0, 0), alike(40, 1, 0, 0), alike(39, 7, 0, 0), alike(8, 3, 0, 0)) {
		for m := int64(1); m <= 10; m++ {
			if len(list) > 7 || m > 4 {
				looksShared(t, list, m)
			}
		}
	}
}

func TestMachinesOfAsManyJobsAsMayBe(t *testing.T) {
	want := []int64{}
	for i := range int64(40) {
		want = append(want, i%10)
	}
	looksGraham(t, alike(40, 10000, 0, 0), 10, graham{want, 40000, 40000, -1, 40000})
	looksGraham(t, alike(40, 10000, 0, 0), 1, graham{make([]int64, 40), 400000, 400000, -1, 400000})
	for _, n := range []int{41, 42, 80, 400} {
		list := alike(n, 1, 0, 0)
		for m := int64(1); m <= 10; m++ {
			looksGraham(t, list, m, refusedGraham())
			if got := impl.Span(list, make([]int64, n), m); got != -1 {
				t.Errorf("Span of %d Jobs on %d: %d", n, m, got)
			}
		}
	}
}

func TestWrongListsOfMachines(t *testing.T) {
	for n := range 6 {
		list := alike(n, 3, 0, 0)
		for m := int64(1); m <= 10; m++ {
			for _, other := range []int{0, 1, 2, n - 1, n + 1, n + 2, 40, 41} {
				if other < 0 || other == n {
					continue
				}
				if got := impl.Span(list, make([]int64, other), m); got != -1 {
					t.Errorf("Span of %d Jobs by %d numbers on %d: %d", n, other, m, got)
				}
			}
			for i := range n {
				for _, k := range []int64{-1, -2, -m, m, m + 1, 2 * m, 10 + m, 1 << 32, -1 << 32, math.MinInt64, math.MinInt64 + 1, math.MaxInt64} {
					machines := make([]int64, n)
					machines[i] = k
					if got := impl.Span(list, machines, m); got != -1 {
						t.Errorf("Span of %d Jobs by %v on %d: %d", n, machines, m, got)
					}
				}
			}
		}
	}
}

func TestWrongJobsAreNotShared(t *testing.T) {
	for _, list := range spoiltLists() {
		for _, m := range append(wrongCounts(), 1, 2, 4, 10) {
			looksGraham(t, list, m, refusedGraham())
			for _, k := range []int64{0, m - 1} {
				if got := impl.Span(list, slices.Repeat([]int64{k}, len(list)), m); got != -1 {
					t.Fatalf("Span of %v on %d: %d", list, m, got)
				}
			}
		}
	}
}

func TestMachinesLookAtLongAlone(t *testing.T) {
	d := dice(67)
	for _, n := range []int64{6, 12} {
		list := thrownSingles(&d, n, 4)
		// of alike Longs Longest goes by Id, which changes no Span
		for m := int64(1); m <= 4; m++ {
			want := tellGraham(list, m)
			for _, f := range jobFields() {
				for i := range list {
					for _, k := range []int64{f.least, f.most} {
						other := slices.Clone(list)
						other[i] = with(list[i], f, k)
						if f.name != "Long" && impl.JobsOk(other) {
							looksGraham(t, other, m, want)
						}
					}
				}
			}
		}
	}
}

func TestOptimumAndBoundDoNotHangOnTheOrderOfTheList(t *testing.T) {
	d := dice(71)
	for range 20 {
		list := thrownSingles(&d, 5, 9)
		for m := int64(1); m <= 4; m++ {
			optimum, bound := impl.Optimum(list, m), impl.Bound(list, m)
			everyOrder(list, func(o []impl.Job) {
				if impl.Optimum(o, m) != optimum || impl.Bound(o, m) != bound {
					t.Fatalf("of %v on %d: %d and %d, not %d and %d", o, m, impl.Optimum(o, m), impl.Bound(o, m), optimum, bound)
				}
			})
		}
	}
}

// Promise 21 for chapter 6: nothing is written into the lists, nor behind them, and a Spread is no part of another, nor of a list.
func TestMachinesShareNoMemory(t *testing.T) {
	for _, given := range append(append(singleLists(), wrongLists()...), long(3, 3, 2, 2, 2)) {
		for _, m := range []int64{1, 2, 3, 10, 0, 11} {
			list, all := behind(given)
			one, two := impl.Spread(list, m), impl.Spread(list, m)
			was := slices.Clone(two)
			for i := range one[:cap(one)] {
				one[:cap(one)][i] = -77
			}
			if !slices.Equal(two, was) || !slices.Equal(impl.Spread(list, m), was) {
				t.Fatalf("of %v on %d: two Spreads share memory", given, m)
			}
			machines := append(slices.Clone(two), 3, -5, 8)
			impl.Span(list, machines[:len(two)], m)
			if !slices.Equal(machines, append(slices.Clone(was), 3, -5, 8)) {
				t.Fatalf("Span of %v on %d: its machines %v became %v", given, m, was, machines)
			}
			impl.Optimum(list, m)
			impl.Bound(list, m)
			if now := list[:len(all)]; !slices.Equal(now, all) {
				t.Fatalf("on %d: the list %v became %v", m, all, now)
			}
			for i := range list {
				list[i] = impl.Job{Id: 5, Long: 5}
			}
			if !slices.Equal(two, was) {
				t.Fatalf("of %v on %d: a change of the list changes its Spread", given, m)
			}
		}
	}
}

func TestMachinesAnswerAtEveryArgument(t *testing.T) {
	all := append(wrongJobs(), asked(1, 1, 1, 1), asked(2, 10000, never, 1000), asked(3, 5, 0, 0))
	for _, a := range all {
		for _, b := range all {
			list := []impl.Job{a, b}
			right := impl.JobOk(a) && impl.JobOk(b) && a.Id != b.Id
			for _, m := range append(wrongCounts(), 1, 2, 4, 5, 10) {
				if right && m >= 1 && m <= 10 {
					looksShared(t, list, m)
				} else {
					looksGraham(t, list, m, refusedGraham())
				}
				for _, k := range []int64{math.MinInt64, -1, 0, 1, m - 1, m, math.MaxInt64} {
					want := int64(-1)
					if right && m >= 1 && m <= 10 && k >= 0 && k < m {
						want = countSpan(list, []int64{0, k}, m)
					}
					if got := impl.Span(list, []int64{0, k}, m); got != want {
						t.Fatalf("Span of %v by 0 and %d on %d: %d, not %d", list, k, m, got, want)
					}
				}
			}
		}
	}
}
