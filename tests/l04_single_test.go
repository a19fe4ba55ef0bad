package tests

import (
	"fmt"
	"math"
	"slices"
	"testing"

	"loop.example/g00255/impl"
)

// asked is right where its four numbers are.
func asked(id, long, due, weight int64) impl.Job {
	return impl.Job{Id: id, Cores: 1, Long: long, Due: due, Weight: weight}
}

// alike are n Jobs with Ids from 1 on.
func alike(n int, long, due, weight int64) []impl.Job {
	list := []impl.Job{}
	for i := range n {
		list = append(list, asked(int64(i+1), long, due, weight))
	}
	return list
}

// singles is all that chapter 4 tells of a list.
type singles struct {
	ends                               []int64
	lateness, weighted, tardy, waiting int64
}

func tellSingles(list []impl.Job) singles {
	return singles{impl.Ends(list), impl.Lateness(list), impl.Weighted(list), impl.Tardy(list), impl.Waiting(list)}
}

func (s singles) String() string {
	return fmt.Sprintf("Ends %v, Lateness %d, Weighted %d, Tardy %d, Waiting %d", s.ends, s.lateness, s.weighted, s.tardy, s.waiting)
}

// countSingles reckons each end anew from the beginning, as the chapter's words tell it.
func countSingles(list []impl.Job) singles {
	s := singles{ends: []int64{}}
	for i, j := range list {
		end := int64(0)
		for _, k := range list[:i+1] {
			end += k.Long
		}
		s.ends = append(s.ends, end)
		if late := end - j.Due; i == 0 || late > s.lateness {
			s.lateness = late
		}
		s.weighted += j.Weight * end
		if end > j.Due {
			s.tardy++
		}
		s.waiting += end - j.Long
	}
	return s
}

func refusedSingles() singles {
	return singles{weighted: -1, tardy: -1, waiting: -1}
}

func looksSingle(t *testing.T, list []impl.Job, want singles) {
	t.Helper()
	if got := tellSingles(list); got.String() != want.String() {
		t.Fatalf("of %v:\n%v, not\n%v", list, got, want)
	}
}

func TestSinglesOfOneJobAndOfNone(t *testing.T) {
	looksSingle(t, nil, singles{})
	looksSingle(t, []impl.Job{}, singles{})
	for _, c := range []struct {
		j    impl.Job
		want singles
	}{
		{asked(1, 1, 0, 0), singles{[]int64{1}, 1, 0, 1, 0}},
		{asked(1, 1, 1, 0), singles{[]int64{1}, 0, 0, 0, 0}},
		{asked(1, 1, 2, 0), singles{[]int64{1}, -1, 0, 0, 0}},
		{asked(1000000, 10000, 9999, 1000), singles{[]int64{10000}, 1, 10000000, 1, 0}},
		{asked(1000000, 10000, 10000, 1000), singles{[]int64{10000}, 0, 10000000, 0, 0}},
		{asked(1000000, 10000, 10001, 1), singles{[]int64{10000}, -1, 10000, 0, 0}},
		{asked(7, 5, 0, 3), singles{[]int64{5}, 5, 15, 1, 0}},
		{asked(7, 5, never-1, 3), singles{[]int64{5}, 6 - never, 15, 0, 0}},
		{asked(7, 5, never, 3), singles{[]int64{5}, 5 - never, 15, 0, 0}},
	} {
		looksSingle(t, []impl.Job{c.j}, c.want)
	}
}

func TestSinglesInEachOrderOfThree(t *testing.T) {
	a, b, c := asked(1, 4, 3, 1), asked(2, 2, 9, 5), asked(3, 7, 8, 0)
	looksSingle(t, []impl.Job{a, b}, singles{[]int64{4, 6}, 1, 34, 1, 4})
	looksSingle(t, []impl.Job{b, a}, singles{[]int64{2, 6}, 3, 16, 1, 2})
	looksSingle(t, []impl.Job{a, b, c}, singles{[]int64{4, 6, 13}, 5, 34, 2, 10})
	looksSingle(t, []impl.Job{a, c, b}, singles{[]int64{4, 11, 13}, 4, 69, 3, 15})
	looksSingle(t, []impl.Job{b, a, c}, singles{[]int64{2, 6, 13}, 5, 16, 2, 8})
	looksSingle(t, []impl.Job{b, c, a}, singles{[]int64{2, 9, 13}, 10, 23, 2, 11})
	looksSingle(t, []impl.Job{c, a, b}, singles{[]int64{7, 11, 13}, 8, 76, 2, 18})
	looksSingle(t, []impl.Job{c, b, a}, singles{[]int64{7, 9, 13}, 10, 58, 1, 16})
}

// Ends are 5, 8, 17: each Due in turn is missed by one, met exactly, and kept with one to spare.
func TestDuesAtTheirEnds(t *testing.T) {
	ends := []int64{5, 8, 17}
	for n := range int64(27) {
		dues := []int64{5 + n%3 - 1, 8 + n/3%3 - 1, 17 + n/9 - 1}
		list := []impl.Job{asked(1, 5, dues[0], 2), asked(2, 3, dues[1], 0), asked(3, 9, dues[2], 1)}
		want := singles{ends, -1, 27, 0, 13}
		for i, end := range ends {
			switch dues[i] {
			case end - 1:
				want.tardy, want.lateness = want.tardy+1, 1
			case end:
				want.lateness = max(want.lateness, 0)
			}
		}
		looksSingle(t, list, want)
	}
}

func TestTheGreatestLatenessMayStandAnywhere(t *testing.T) {
	for _, c := range []struct {
		dues        []int64
		late, tardy int64
	}{
		{[]int64{0, 9, 9}, 3, 1}, {[]int64{3, 0, 9}, 6, 1}, {[]int64{3, 6, 0}, 9, 1},
		{[]int64{4, 10, 11}, -1, 0}, {[]int64{7, 8, 13}, -2, 0}, {[]int64{8, 11, 12}, -3, 0},
		{[]int64{0, 0, 0}, 9, 3}, {[]int64{2, 4, 6}, 3, 3}, {[]int64{never, never, never}, 9 - never, 0},
		{[]int64{never, never - 3, never}, 9 - never, 0}, {[]int64{never - 6, never - 2, never}, 9 - never, 0},
		{[]int64{never, 5, never}, 1, 1},
	} {
		list := alike(3, 3, 0, 1)
		for i := range list {
			list[i].Due = c.dues[i]
		}
		looksSingle(t, list, singles{[]int64{3, 6, 9}, c.late, 18, c.tardy, 9})
	}
}

func TestWeightsAtTheirEnds(t *testing.T) {
	for _, c := range []struct{ one, two, three, want int64 }{
		{0, 0, 0, 0}, {1, 0, 0, 2}, {0, 1, 0, 5}, {0, 0, 1, 9},
		{1000, 0, 0, 2000}, {0, 1000, 0, 5000}, {0, 0, 1000, 9000}, {1000, 1000, 1000, 16000}, {999, 7, 1, 2042},
	} {
		list := []impl.Job{asked(1, 2, 9, c.one), asked(2, 3, 9, c.two), asked(3, 4, 9, c.three)}
		looksSingle(t, list, singles{[]int64{2, 5, 9}, 0, c.want, 0, 7})
	}
}

func TestSinglesOfAsManyJobsAsMayBe(t *testing.T) {
	for _, c := range []struct {
		list                               []impl.Job
		lateness, weighted, tardy, waiting int64
	}{
		{alike(40, 1, 0, 0), 40, 0, 40, 780},
		{alike(40, 1, 20, 1), 20, 820, 20, 780},
		{alike(40, 1, 40, 1000), 0, 820000, 0, 780},
		{alike(40, 1, 41, 1000), -1, 820000, 0, 780},
		{alike(40, 10000, 0, 1000), 400000, 8200000000, 40, 7800000},
		{alike(40, 10000, 399999, 1000), 1, 8200000000, 1, 7800000},
		{alike(40, 10000, 400000, 1000), 0, 8200000000, 0, 7800000},
		{alike(40, 10000, never, 1), 400000 - never, 8200000, 0, 7800000},
		{alike(39, 10000, 390001, 1), -1, 7800000, 0, 7410000},
	} {
		ends := []int64{}
		for i, j := range c.list {
			ends = append(ends, int64(i+1)*j.Long)
		}
		looksSingle(t, c.list, singles{ends, c.lateness, c.weighted, c.tardy, c.waiting})
	}
	for _, n := range []int{41, 42, 80, 400} {
		looksSingle(t, alike(n, 1, 3, 1), refusedSingles())
		looksSingle(t, alike(n, 10000, never, 1000), refusedSingles())
	}
}

// thrownSingles are n right Jobs; about a third of the Dues lie within 1 of the end of their Job.
func thrownSingles(d *dice, n, longs int64) []impl.Job {
	list, end := thrown(d, n, 10, never), int64(0)
	for i := range list {
		j := &list[i]
		j.Cores, j.Long, j.Weight = 1+d.below(1000), 1+d.below(longs), d.below(4)*d.below(334)
		end += j.Long
		switch d.below(6) {
		case 0, 1:
			j.Due = end - 1 + d.below(3)
		case 2:
			j.Due = never - d.below(3)
		default:
			j.Due = d.below(2*end + 1)
		}
	}
	return list
}

func singleLists() [][]impl.Job {
	d := dice(17)
	out := rightLists()
	for _, n := range []int64{1, 2, 3, 4, 7, 12, 39, 40} {
		for _, longs := range []int64{1, 2, 9, 10000} {
			for range 6 {
				out = append(out, thrownSingles(&d, n, longs))
			}
		}
	}
	return out
}

func TestSinglesAreCounted(t *testing.T) {
	for _, list := range singleLists() {
		looksSingle(t, list, countSingles(list))
		back := slices.Clone(list)
		slices.Reverse(back)
		looksSingle(t, back, countSingles(back))
	}
}

// Each list of up to three Jobs with two Longs, four Dues and three Weights.
func TestSinglesOfEveryThree(t *testing.T) {
	const kinds = 2 * 4 * 3
	for k := range int64(kinds * kinds * kinds) {
		list := []impl.Job{}
		for i, kind := range []int64{k % kinds, k / kinds % kinds, k / kinds / kinds} {
			list = append(list, asked(int64(3-i), 1+kind%2, kind/2%4+int64(i), kind/8))
		}
		for n := range 4 {
			looksSingle(t, list[:n], countSingles(list[:n]))
		}
	}
}

func TestEndsComeOneAfterTheOther(t *testing.T) {
	for _, list := range singleLists() {
		now, ends := int64(0), impl.Ends(list)
		if len(ends) != len(list) {
			t.Fatalf("of %v: %v", list, ends)
		}
		for i, j := range list {
			if ends[i]-now != j.Long {
				t.Fatalf("of %v: %v, where number %d has %d", list, ends, i, ends[i]-now)
			}
			now = ends[i]
			if ahead := impl.Ends(list[:i]); !slices.Equal(ahead, ends[:i]) {
				t.Fatalf("of %v: %v, but of the first %d: %v", list, ends, i, ahead)
			}
		}
	}
}

// looksChanged holds a list against itself with number i and the one behind it in each other's place.
func looksChanged(t *testing.T, list []impl.Job, i int) {
	t.Helper()
	swapped := slices.Clone(list)
	swapped[i], swapped[i+1] = list[i+1], list[i]
	was, now := impl.Ends(list), impl.Ends(swapped)
	if len(was) != len(list) || len(now) != len(list) {
		t.Fatalf("of %v: %v and %v", list, was, now)
	}
	begin := was[i] - list[i].Long
	for k := range list {
		want := was[k]
		if k == i {
			want = begin + list[i+1].Long
		}
		if now[k] != want {
			t.Fatalf("%v: with number %d changed %v becomes %v", list, i, was, now)
		}
	}
	one, two := list[i], list[i+1]
	if by := impl.Weighted(swapped) - impl.Weighted(list); by != one.Weight*two.Long-two.Weight*one.Long {
		t.Fatalf("%v: with number %d changed Weighted changes by %d", list, i, by)
	}
	if by := impl.Waiting(swapped) - impl.Waiting(list); by != two.Long-one.Long {
		t.Fatalf("%v: with number %d changed Waiting changes by %d", list, i, by)
	}
}

func TestAChangeOfTwoNeighboursChangesNoOthers(t *testing.T) {
	for _, list := range append(singleLists(), alike(40, 10000, 5, 1000), alike(40, 1, 5, 0)) {
		for i := range max(len(list)-1, 0) {
			looksChanged(t, list, i)
		}
	}
	ends := []impl.Job{asked(1, 1, 0, 0), asked(2, 1, 0, 1000), asked(3, 10000, 0, 0), asked(4, 10000, 0, 1000)}
	for _, a := range ends {
		for _, b := range ends {
			if a.Id != b.Id {
				looksChanged(t, []impl.Job{a, b}, 0)
				looksChanged(t, []impl.Job{asked(9, 3, 3, 3), a, b, asked(8, 2, 2, 2)}, 1)
			}
		}
	}
}

// A Job waits neither for its At nor for cores, and who it is does not matter.
func TestSinglesLookAtThreeFieldsAlone(t *testing.T) {
	d := dice(29)
	for range 20 {
		list := thrownSingles(&d, 12, 9)
		want := countSingles(list)
		for _, f := range jobFields() {
			if f.name == "Long" || f.name == "Due" || f.name == "Weight" {
				continue
			}
			for i := range list {
				other := slices.Clone(list)
				for _, n := range []int64{f.least, f.most} {
					other[i] = with(list[i], f, n)
					if impl.JobsOk(other) {
						looksSingle(t, other, want)
					}
				}
			}
		}
	}
}

func TestWrongJobsHaveNoEnds(t *testing.T) {
	for _, list := range wrongLists() {
		looksSingle(t, list, refusedSingles())
	}
	for _, f := range jobFields() {
		for _, n := range []int64{f.least - 1, f.most + 1, math.MinInt64, math.MaxInt64} {
			for i := range 4 {
				list := alike(4, 2, 5, 3)
				list[i] = with(list[i], f, n)
				looksSingle(t, list, refusedSingles())
			}
		}
	}
	// one Id twice, whatever else is unlike, wherever the two stand
	for i := range 6 {
		for k := range i {
			list := alike(6, 2, 5, 3)
			list[i].Id, list[i].Long, list[i].Due = list[k].Id, 9, 1
			looksSingle(t, list, refusedSingles())
		}
	}
}

// Promise 21 for chapter 4: nothing is written into the list, nor behind it, and Ends are no part of other Ends.
func TestEndsShareNoMemory(t *testing.T) {
	for _, given := range append(singleLists(), wrongLists()...) {
		list, all := behind(given)
		want := tellSingles(list)
		want.ends = slices.Clone(want.ends)
		one, two := impl.Ends(list), impl.Ends(list)
		for i := range one[:cap(one)] {
			one[:cap(one)][i] = -77
		}
		if !slices.Equal(two, want.ends) {
			t.Fatalf("%v: two Ends share memory", given)
		}
		looksSingle(t, list, want)
		if now := list[:len(all)]; !slices.Equal(now, all) {
			t.Fatalf("the list %v became %v", all, now)
		}
		for i := range list {
			list[i] = impl.Job{Id: 5, Long: 5}
		}
		if !slices.Equal(two, want.ends) {
			t.Fatalf("%v: a change of the list changes its Ends", given)
		}
	}
}

func TestSinglesAnswerAtEveryArgument(t *testing.T) {
	all := append(wrongJobs(), asked(1, 1, 1, 1), asked(2, 10000, never, 1000), asked(3, 5, 0, 0))
	for _, a := range all {
		for _, b := range all {
			list, want := []impl.Job{a, b}, refusedSingles()
			if impl.JobOk(a) && impl.JobOk(b) && a.Id != b.Id {
				want = countSingles(list)
			}
			looksSingle(t, list, want)
		}
	}
}
