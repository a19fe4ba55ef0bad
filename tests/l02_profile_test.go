package tests

import (
	"math"
	"slices"
	"testing"

	"loop.example/g00255/impl"
)

func profile(total int64, levels ...impl.Level) impl.Profile {
	return impl.Profile{Total: total, Levels: levels}
}

func at(from, free int64) impl.Level {
	return impl.Level{From: from, Free: free}
}

func same(p, q impl.Profile) bool {
	return p.Total == q.Total && slices.Equal(p.Levels, q.Levels)
}

// comb has n levels, from 0, 2, 4 .. on, of which 2 and 1 are free in turns.
func comb(n int) impl.Profile {
	p := impl.Profile{Total: 2}
	for i := range n {
		p.Levels = append(p.Levels, at(int64(2*i), int64(2-i%2)))
	}
	return p
}

// down has n levels, from 0, first + 2, first + 4 .. on; of each that from which it should be, less than MaxTotal, is free.
func down(n int, first int64) impl.Profile {
	p := impl.Profile{Total: impl.MaxTotal}
	for i := range n {
		p.Levels = append(p.Levels, at(first+int64(2*i), impl.MaxTotal-first-int64(2*i)))
	}
	p.Levels[0].From = 0
	return p
}

func rightProfiles() []impl.Profile {
	return []impl.Profile{
		profile(0, at(0, 0)), profile(1, at(0, 1)), profile(10, at(0, 10)), profile(10, at(0, 0)),
		profile(impl.MaxTotal, at(0, impl.MaxTotal)),
		profile(10, at(0, 10), at(5, 4), at(9, 10)),
		profile(3, at(0, 0), at(1, 3), at(2, 0), at(3, 3)),
		profile(7, at(0, 2), at(never-1, 7)), profile(7, at(0, 7), at(never-1, 0)),
		profile(5, at(0, 1), at(never-3, 2), at(never-2, 1), at(never-1, 3)),
		comb(impl.MaxLevels), down(impl.MaxLevels, 0), comb(impl.MaxLevels - 1),
	}
}

func wrongProfiles() []impl.Profile {
	return []impl.Profile{
		{}, {Total: 5}, {Total: 5, Levels: []impl.Level{}},
		profile(-1, at(0, 0)), profile(-1, at(0, -1)), profile(impl.MaxTotal+1, at(0, 0)),
		profile(math.MaxInt64, at(0, 5)), profile(math.MinInt64, at(0, 0)), profile(math.MinInt64, at(0, math.MinInt64)),
		profile(5, at(1, 5)), profile(5, at(-1, 5)), profile(5, at(-1, 5), at(0, 4)), profile(5, at(math.MinInt64, 5)),
		profile(5, at(0, 6)), profile(5, at(0, -1)), profile(5, at(0, math.MaxInt64)), profile(5, at(0, math.MinInt64)),
		profile(5, at(0, 5), at(3, 6)), profile(5, at(0, 5), at(3, -1)), profile(5, at(0, 5), at(3, 1), at(9, 6)),
		profile(5, at(0, 5), at(0, 4)), profile(5, at(0, 5), at(3, 4), at(3, 2)), profile(5, at(0, 5), at(4, 4), at(3, 2)),
		profile(5, at(0, 5), at(-1, 4)), profile(5, at(0, 5), at(math.MinInt64, 4)),
		profile(5, at(0, 5), at(3, 5)), profile(5, at(0, 5), at(3, 4), at(9, 4)),
		profile(5, at(0, 5), at(never, 4)), profile(5, at(0, 5), at(never+1, 4)), profile(5, at(0, 5), at(math.MaxInt64, 4)),
		profile(5, at(0, 5), at(math.MaxInt64, 4), at(math.MinInt64, 5)),
		comb(impl.MaxLevels + 1), comb(3 * impl.MaxLevels), down(impl.MaxLevels+1, 0),
	}
}

func TestProfileOk(t *testing.T) {
	if impl.MaxTotal != 1000 || impl.MaxLevels != 200 {
		t.Error(impl.MaxTotal, impl.MaxLevels)
	}
	for _, p := range rightProfiles() {
		if !impl.ProfileOk(p) {
			t.Errorf("%v is refused", p)
		}
	}
	for _, p := range wrongProfiles() {
		if impl.ProfileOk(p) {
			t.Errorf("%v is accepted", p)
		}
	}
}

func TestNewProfile(t *testing.T) {
	for _, total := range []int64{0, 1, 7, impl.MaxTotal - 1, impl.MaxTotal} {
		if p, is := impl.NewProfile(total); !is || !same(p, profile(total, at(0, total))) {
			t.Errorf("of %d: %v, %v", total, p, is)
		}
	}
	for _, total := range []int64{-1, -impl.MaxTotal, impl.MaxTotal + 1, math.MaxInt64, math.MinInt64} {
		if p, is := impl.NewProfile(total); is || !same(p, impl.Profile{}) {
			t.Errorf("of %d: %v, %v", total, p, is)
		}
	}
}

func TestFreeAtAndLeastTable(t *testing.T) {
	p := profile(10, at(0, 7), at(5, 4), at(9, 8), at(never-1, 3))
	for _, c := range []struct{ t, want int64 }{
		{0, 7}, {4, 7}, {5, 4}, {8, 4}, {9, 8}, {10, 8}, {never - 2, 8}, {never - 1, 3}, {never, 3},
	} {
		if got := impl.FreeAt(p, c.t); got != c.want {
			t.Errorf("FreeAt %d is %d, not %d", c.t, got, c.want)
		}
	}
	for _, c := range []struct{ from, to, want int64 }{
		{0, 1, 7}, {0, 5, 7}, {0, 6, 4}, {4, 5, 7}, {4, 6, 4}, {5, 9, 4}, {8, 9, 4}, {8, 10, 4}, {9, 10, 8},
		{9, never - 1, 8}, {9, never, 3}, {0, never, 3}, {never - 1, never, 3}, {never - 2, never - 1, 8},
		{5, 5, 10}, {6, 5, 10}, {never, 0, 10}, {never, never, 10}, {0, 0, 10}, {never, never - 1, 10},
	} {
		if got := impl.Least(p, c.from, c.to); got != c.want {
			t.Errorf("Least from %d to %d is %d, not %d", c.from, c.to, got, c.want)
		}
	}
}

func TestReserveTable(t *testing.T) {
	p := profile(10, at(0, 10), at(5, 4), at(9, 10))
	for _, c := range []struct {
		from, to, n int64
		want        impl.Profile
	}{
		{0, 5, 3, profile(10, at(0, 7), at(5, 4), at(9, 10))},
		{0, 5, 6, profile(10, at(0, 4), at(9, 10))},
		{9, 12, 6, profile(10, at(0, 10), at(5, 4), at(12, 10))},
		{2, 3, 10, profile(10, at(0, 10), at(2, 0), at(3, 10), at(5, 4), at(9, 10))},
		{4, 10, 4, profile(10, at(0, 10), at(4, 6), at(5, 0), at(9, 6), at(10, 10))},
		{0, never, 4, profile(10, at(0, 6), at(5, 0), at(9, 6))},
		{9, never, 10, profile(10, at(0, 10), at(5, 4), at(9, 0))},
		{9, never - 1, 6, profile(10, at(0, 10), at(5, 4), at(never-1, 10))},
		{never - 1, never, 1, profile(10, at(0, 10), at(5, 4), at(9, 10), at(never-1, 9))},
		{5, 9, 0, p}, {0, never, 0, p}, {2, 2, 0, p},
		{5, 5, 11, p}, {8, 6, 5, p}, {never, never, math.MaxInt64, p}, {never, 0, 7, p}, {0, 0, math.MaxInt64, p},
	} {
		if got, is := impl.Reserve(p, c.from, c.to, c.n); !is || !same(got, c.want) {
			t.Errorf("%d from %d to %d: %v, %v, not %v", c.n, c.from, c.to, got, is, c.want)
		}
	}
	for _, c := range []struct{ from, to, n int64 }{
		{5, 6, 5}, {8, 9, 5}, {0, 6, 5}, {8, 20, 5}, {0, never, 5}, {0, 5, 11}, {20, 30, 11}, {never - 1, never, 11},
		{0, 5, math.MaxInt64}, {0, 5, math.MaxInt64 - 5}, {0, 5, 1 << 62}, {0, 5, impl.MaxTotal + 1},
		{0, 5, -1}, {0, 0, -1}, {5, 3, -1}, {5, 9, math.MinInt64}, {5, 9, -math.MaxInt64}, {5, 9, -6}, {never, never, -1},
	} {
		if got, is := impl.Reserve(p, c.from, c.to, c.n); is || !same(got, impl.Profile{}) {
			t.Errorf("%d from %d to %d: %v, %v", c.n, c.from, c.to, got, is)
		}
	}
}

func TestReleaseTable(t *testing.T) {
	p := profile(10, at(0, 4), at(5, 0), at(9, 8))
	for _, c := range []struct {
		from, to, n int64
		want        impl.Profile
	}{
		{0, 5, 6, profile(10, at(0, 10), at(5, 0), at(9, 8))},
		{5, 9, 4, profile(10, at(0, 4), at(9, 8))},
		{5, 9, 8, profile(10, at(0, 4), at(5, 8))},
		{5, 7, 4, profile(10, at(0, 4), at(7, 0), at(9, 8))},
		{6, 7, 10, profile(10, at(0, 4), at(5, 0), at(6, 10), at(7, 0), at(9, 8))},
		{0, never, 2, profile(10, at(0, 6), at(5, 2), at(9, 10))},
		{never - 1, never, 2, profile(10, at(0, 4), at(5, 0), at(9, 8), at(never-1, 10))},
		{5, 9, 0, p}, {5, 5, 11, p}, {9, 3, math.MaxInt64, p}, {never, never, 3, p},
	} {
		if got, is := impl.Release(p, c.from, c.to, c.n); !is || !same(got, c.want) {
			t.Errorf("%d from %d to %d: %v, %v, not %v", c.n, c.from, c.to, got, is, c.want)
		}
	}
	for _, c := range []struct{ from, to, n int64 }{
		{0, 5, 7}, {8, 10, 3}, {0, never, 3}, {5, 9, 11}, {never - 1, never, 3},
		{5, 9, math.MaxInt64}, {0, 9, math.MaxInt64 - 3}, {5, 9, 1 << 62}, {5, 9, impl.MaxTotal + 1},
		{0, 5, -1}, {0, 0, -1}, {5, 3, -1}, {9, 10, math.MinInt64}, {9, 10, -8}, {never, never, -1},
	} {
		if got, is := impl.Release(p, c.from, c.to, c.n); is || !same(got, impl.Profile{}) {
			t.Errorf("%d from %d to %d: %v, %v", c.n, c.from, c.to, got, is)
		}
	}
}

func TestAllOfTheGreatestTotal(t *testing.T) {
	all, none := profile(impl.MaxTotal, at(0, impl.MaxTotal)), profile(impl.MaxTotal, at(0, 0))
	if got, is := impl.Reserve(all, 0, never, impl.MaxTotal); !is || !same(got, none) {
		t.Error(got, is)
	}
	if got, is := impl.Release(none, 0, never, impl.MaxTotal); !is || !same(got, all) {
		t.Error(got, is)
	}
	for _, n := range []int64{impl.MaxTotal + 1, impl.MaxTotal + 2, math.MaxInt64 - impl.MaxTotal, math.MaxInt64} {
		q, is := impl.Reserve(all, 0, never, n)
		noProfile(t, "Reserve", q, is)
		q, is = impl.Release(none, 0, never, n)
		noProfile(t, "Release", q, is)
		q, is = impl.Release(all, 0, never, n)
		noProfile(t, "Release", q, is)
	}
}

func TestAtMostMaxLevels(t *testing.T) {
	const max = impl.MaxLevels
	for _, c := range []struct {
		of          int
		how         change
		from, to, n int64
		want        int // 0: refused
	}{
		{max - 2, impl.Reserve, 500, 501, 1, max}, {max - 2, impl.Reserve, 500, never, 1, max - 1}, {max - 2, impl.Reserve, 1, 2, 1, max - 2},
		{max - 1, impl.Reserve, 500, never, 1, max}, {max - 1, impl.Reserve, 500, 501, 1, 0}, {max - 1, impl.Reserve, 0, 1, 1, max},
		{max, impl.Reserve, 0, 1, 1, 0}, {max, impl.Reserve, 0, 2, 1, max - 1}, {max, impl.Reserve, 0, 2, 2, max}, {max, impl.Reserve, 0, never, 1, max},
		{max, impl.Reserve, 4, 6, 1, max - 2}, {max, impl.Reserve, 2, 4, 1, max}, {max, impl.Reserve, 1, 2, 1, max}, {max, impl.Reserve, 1, 2, 2, 0},
		{max, impl.Reserve, 500, never, 1, 0}, {max, impl.Reserve, 500, 501, 1, 0}, {max, impl.Reserve, 398, never, 1, max},
		{max, impl.Reserve, 500, 501, 0, max}, {max, impl.Reserve, 501, 501, 1, max}, {max, impl.Reserve, never, never, 1, max},
		{max, impl.Release, 2, 4, 1, max - 2}, {max, impl.Release, 2, 3, 1, max}, {max, impl.Release, 3, 4, 1, max},
		{max, impl.Release, 398, never, 1, max - 1}, {max, impl.Release, 398, 399, 1, max}, {max, impl.Release, 398, 400, 1, max},
		{max, impl.Release, 400, 401, 1, 0}, {max, impl.Release, 400, never, 1, 0}, {max - 2, impl.Release, 400, 401, 1, max},
		{max, impl.Release, 400, 401, 0, max}, {max, impl.Release, 401, 401, 1, max},
	} {
		got, is := c.how(comb(c.of), c.from, c.to, c.n)
		if is != (c.want > 0) || len(got.Levels) != c.want || is != impl.ProfileOk(got) || !is && got.Total != 0 {
			t.Errorf("of %d Levels %d from %d to %d: %d Levels, %v, not %d", c.of, c.n, c.from, c.to, len(got.Levels), is, c.want)
		}
	}
}

func TestLowerTable(t *testing.T) {
	p := profile(10, at(0, 10), at(5, 4), at(9, 10))
	for _, c := range []struct{ a, b, want impl.Profile }{
		{p, p, p},
		{p, profile(7, at(0, 7)), profile(7, at(0, 7), at(5, 4), at(9, 7))},
		{p, profile(1000, at(0, 1000)), p},
		{p, profile(4, at(0, 4)), profile(4, at(0, 4))},
		{p, profile(0, at(0, 0)), profile(0, at(0, 0))},
		{p, profile(20, at(0, 3), at(6, 20), at(7, 2), at(never-1, 1)), profile(10, at(0, 3), at(6, 4), at(7, 2), at(never-1, 1))},
		{p, profile(10, at(0, 0), at(9, 10)), profile(10, at(0, 0), at(9, 10))},
		{p, profile(10, at(0, 10), at(3, 4), at(5, 10), at(9, 4), at(12, 5)), profile(10, at(0, 10), at(3, 4), at(12, 5))},
	} {
		for _, q := range [][2]impl.Profile{{c.a, c.b}, {c.b, c.a}} {
			if got, is := impl.Lower(q[0], q[1]); !is || !same(got, c.want) {
				t.Errorf("Lower of %v and %v: %v, %v, not %v", q[0], q[1], got, is, c.want)
			}
		}
	}
}

func TestLowerAtMostMaxLevels(t *testing.T) {
	const max = impl.MaxLevels
	for _, c := range []struct {
		a, b impl.Profile
		want int // 0: refused
	}{
		{down(100, 0), down(100, 1), max - 1}, {down(100, 0), down(101, 1), max}, {down(101, 0), down(100, 1), max},
		{down(101, 0), down(101, 1), 0}, {down(max, 0), down(1, 1), max}, {down(max, 0), down(2, 1), 0}, {down(2, 0), down(max, 1), 0},
		{down(max, 0), down(max, 0), max}, {down(max, 0), down(max, 1), 0}, {comb(max), comb(max), max}, {comb(max), down(max, 0), max},
		{down(max, 0), profile(5, at(0, 5)), 1}, {down(max, 0), profile(5, at(0, 5), at(1, 4), at(3, 3)), 3},
	} {
		for _, q := range [][2]impl.Profile{{c.a, c.b}, {c.b, c.a}} {
			got, is := impl.Lower(q[0], q[1])
			if is != (c.want > 0) || len(got.Levels) != c.want || is != impl.ProfileOk(got) || !is && got.Total != 0 {
				t.Errorf("Lower of %d and %d Levels: %d, %v, not %d", len(q[0].Levels), len(q[1].Levels), len(got.Levels), is, c.want)
			}
		}
	}
}

func TestFitTable(t *testing.T) {
	p := profile(10, at(0, 10), at(5, 4), at(9, 10), at(never-3, 2))
	for _, c := range []struct{ from, long, n, want int64 }{
		{0, 5, 8, 0}, {0, 6, 8, 9}, {1, 4, 8, 1}, {1, 5, 8, 9}, {2, 99, 4, 2}, {5, 1, 5, 9}, {8, 1, 5, 9}, {7, 1, 4, 7}, {10, 1, 10, 10},
		{0, never - 12, 10, 9}, {0, never - 11, 10, never}, {0, never - 3, 4, 0}, {0, never - 2, 4, never}, {0, never, 2, 0}, {0, never, 3, never},
		{never - 3, 1, 3, never}, {never - 4, 1, 3, never - 4}, {never - 4, 2, 3, never}, {never - 1, 1, 3, never}, {never, 1, 0, never},
		{never - 1, never, 2, never - 1}, {never - 3, 5, 2, never - 3}, {20, never, 2, 20}, {never, never, 2, never}, {never, 0, 0, never},
		{0, 0, 10, 0}, {6, 0, 10, 6}, {never - 1, 0, 10, never - 1}, {6, never, 0, 6}, {5, 3, 0, 5},
	} {
		if got := impl.Fit(p, c.from, c.long, c.n); got != c.want {
			t.Errorf("Fit of %d for %d from %d on is %d, not %d", c.n, c.long, c.from, got, c.want)
		}
	}
	for _, c := range []struct{ from, long, n int64 }{
		{0, 1, 11}, {0, 0, 11}, {never, 1, 11}, {0, 1, -1}, {0, 0, -1}, {0, 1, math.MaxInt64}, {0, 1, math.MinInt64},
		{-1, 1, 1}, {never + 1, 1, 1}, {0, -1, 1}, {0, never + 1, 1}, {0, math.MaxInt64, 1}, {math.MaxInt64, math.MaxInt64, 1}, {math.MinInt64, 1, 1},
	} {
		if got := impl.Fit(p, c.from, c.long, c.n); got != -1 {
			t.Errorf("Fit of %d for %d from %d on is %d, not -1", c.n, c.long, c.from, got)
		}
	}
}

func TestAreaTable(t *testing.T) {
	p := profile(10, at(0, 10), at(5, 4), at(9, 8), at(never-2, 3))
	for _, c := range []struct{ from, to, want int64 }{
		{0, 1, 10}, {0, 5, 50}, {3, 11, 52}, {5, 9, 16}, {6, 8, 8}, {8, 10, 12}, {20, 30, 80},
		{never - 1, never, 3}, {never - 3, never, 14}, {never - 3, never - 1, 11}, {0, never, 66 + 8*(never-11) + 6},
		{5, 5, 0}, {6, 5, 0}, {never, never, 0}, {never, 0, 0}, {0, 0, 0},
	} {
		if got := impl.Area(p, c.from, c.to); got != c.want {
			t.Errorf("Area from %d to %d is %d, not %d", c.from, c.to, got, c.want)
		}
	}
	all, _ := impl.NewProfile(impl.MaxTotal)
	if got := impl.Area(all, 0, never); got != impl.MaxTotal*never {
		t.Errorf("Area of all is %d", got)
	}
}

type change = func(impl.Profile, int64, int64, int64) (impl.Profile, bool)

// A field is some times, the first one 0; between each and the next (Never behind the last) what is free stays as it is.
type field []int64

func smallFields() []field {
	return []field{{0, 1, 2, 3, 4}, {0, never - 4, never - 3, never - 2, never - 1}, {0, 7, 500000000, never - 9, never - 1}}
}

// profile is what is free in each stretch of the field, put as Levels; false where that can't be.
func (f field) profile(total int64, free []int64) (impl.Profile, bool) {
	p := impl.Profile{Total: total}
	for i, n := range free {
		if n < 0 || n > total {
			return impl.Profile{}, false
		}
		if i == 0 || n != free[i-1] {
			p.Levels = append(p.Levels, at(f[i], n))
		}
	}
	return p, true
}

// ends are the times of the field, and Never.
func (f field) ends() []int64 {
	return append(slices.Clone(f), never)
}

// every is called with all that can be free in five stretches, of a Total of 2.
func every(see func(free []int64)) {
	for k := range int64(3 * 3 * 3 * 3 * 3) {
		see([]int64{k % 3, k / 3 % 3, k / 9 % 3, k / 27 % 3, k / 81})
	}
}

// shifted is what is free where by more is, from stretch i on, ahead of k.
func shifted(free []int64, i, k int, by int64) []int64 {
	free = slices.Clone(free)
	for ; i < k; i++ {
		free[i] += by
	}
	return free
}

// compare holds an answer against the field's.
func compare(t *testing.T, what string, got impl.Profile, is bool, want impl.Profile, can bool) {
	t.Helper()
	if is != can || !same(got, want) || is != impl.ProfileOk(got) {
		t.Fatalf("%s: %v, %v, not %v, %v", what, got, is, want, can)
	}
}

func TestReserveAndReleaseOfEveryField(t *testing.T) {
	for _, f := range smallFields() {
		every(func(free []int64) {
			p, _ := f.profile(2, free)
			for i, from := range f.ends() {
				for k, to := range f.ends() {
					for n := range int64(4) {
						want, can := f.profile(2, shifted(free, i, k, -n))
						got, is := impl.Reserve(p, from, to, n)
						compare(t, "Reserve", got, is, want, can)
						want, can = f.profile(2, shifted(free, i, k, n))
						got, is = impl.Release(p, from, to, n)
						compare(t, "Release", got, is, want, can)
					}
				}
			}
		})
	}
}

func TestReservedAndReleasedIsAsItWas(t *testing.T) {
	for _, p := range rightProfiles() {
		for _, from := range near(p) {
			for _, to := range near(p) {
				for _, n := range []int64{0, 1, impl.Least(p, from, to), impl.FreeAt(p, from), p.Total} {
					one, is := impl.Reserve(p, from, to, n)
					fits := n <= impl.Least(p, from, to) || to <= from
					if is && !fits || !is && fits && len(p.Levels)+2 <= impl.MaxLevels {
						t.Fatalf("%v: %d from %d to %d: %v", p, n, from, to, is)
					}
					if !is {
						continue
					}
					if two, is := impl.Release(one, from, to, n); !is || !same(two, p) {
						t.Fatalf("%v: %d from %d to %d Reserved and Released: %v", p, n, from, to, two)
					}
				}
			}
		}
	}
}

// near are the ends of some levels of p, the times beside them, and the edges of time.
func near(p impl.Profile) []int64 {
	out := []int64{0, 1, never - 1, never}
	for i, l := range p.Levels {
		if i < 3 || i >= len(p.Levels)-2 {
			out = append(out, max(l.From-1, 0), l.From, l.From+1)
		}
	}
	slices.Sort(out)
	return slices.Compact(out)
}

func TestLeastFreeAtAndAreaOfEveryField(t *testing.T) {
	for _, f := range smallFields() {
		every(func(free []int64) {
			p, _ := f.profile(2, free)
			ends := f.ends()
			for i, from := range ends {
				if i < len(free) && (impl.FreeAt(p, from) != free[i] || impl.FreeAt(p, ends[i+1]-1) != free[i]) {
					t.Fatalf("%v: FreeAt %d is %d", p, from, impl.FreeAt(p, from))
				}
				least, area := int64(2), int64(0)
				for k := i; k < len(ends); k++ {
					if impl.Least(p, from, ends[k]) != least || impl.Area(p, from, ends[k]) != area {
						t.Fatalf("%v from %d to %d: Least %d, Area %d", p, from, ends[k], impl.Least(p, from, ends[k]), impl.Area(p, from, ends[k]))
					}
					if k < len(free) {
						least, area = min(least, free[k]), area+free[k]*(ends[k+1]-ends[k])
					}
				}
			}
		})
	}
}

func TestAreaGoesWithItsParts(t *testing.T) {
	for _, p := range rightProfiles() {
		for _, a := range near(p) {
			for _, b := range near(p) {
				for _, c := range near(p) {
					if a <= b && b <= c && impl.Area(p, a, b)+impl.Area(p, b, c) != impl.Area(p, a, c) {
						t.Fatalf("%v: Area from %d to %d and to %d", p, a, b, c)
					}
				}
				if q, is := impl.Reserve(p, a, b, 1); is && a < b && impl.Area(q, 0, never) != impl.Area(p, 0, never)-(b-a) {
					t.Fatalf("%v: 1 Reserved from %d to %d: Area is %d", p, a, b, impl.Area(q, 0, never))
				}
			}
		}
	}
}

// firstFit tries time by time, by Least, up to last, behind which nothing changes.
func firstFit(p impl.Profile, from, long, n, last int64) int64 {
	for t := from; t <= max(last, from) && t < never; t++ {
		if impl.Least(p, t, impl.Later(t, long)) >= n {
			return t
		}
	}
	return never
}

func TestNoTimeAheadOfFitFits(t *testing.T) {
	f := field{0, 1, 2, 3, 4}
	every(func(free []int64) {
		p, _ := f.profile(2, free)
		for from := range int64(7) {
			for _, long := range []int64{0, 1, 2, 3, 4, 5, 9, never - 2, never - 1, never} {
				for n := range int64(3) {
					if got, want := impl.Fit(p, from, long, n), firstFit(p, from, long, n, 6); got != want {
						t.Fatalf("%v: Fit of %d for %d from %d on is %d, not %d", p, n, long, from, got, want)
					}
				}
			}
		}
	})
}

func TestNoTimeAheadOfFitFitsAtTheEndOfTime(t *testing.T) {
	f := field{0, never - 6, never - 4, never - 3, never - 1}
	every(func(free []int64) {
		p, _ := f.profile(2, free)
		for from := int64(never - 8); from <= never; from++ {
			for _, long := range []int64{0, 1, 2, 3, 4, 5, 6, 7, 9, never} {
				for n := range int64(3) {
					if got, want := impl.Fit(p, from, long, n), firstFit(p, from, long, n, never); got != want {
						t.Fatalf("%v: Fit of %d for %d from %d on is %d, not %d", p, n, long, from, got, want)
					}
				}
			}
		}
	})
}

func TestNoTimeAheadOfFitFitsInManyLevels(t *testing.T) {
	for _, p := range []impl.Profile{comb(impl.MaxLevels), comb(impl.MaxLevels - 1), down(impl.MaxLevels, 0)} {
		for _, from := range []int64{0, 1, 199, 397, 398, 399, 500} {
			for _, long := range []int64{0, 1, 2, 3, 50, 398, 399, 400, never} {
				for _, n := range []int64{0, 1, 2, p.Total - 40, p.Total - 398, p.Total - 396, p.Total} {
					if got, want := impl.Fit(p, from, long, max(n, 0)), firstFit(p, from, long, max(n, 0), 500); got != want {
						t.Fatalf("%d Levels: Fit of %d for %d from %d on is %d, not %d", len(p.Levels), n, long, from, got, want)
					}
				}
			}
		}
	}
}

func TestWhereLessIsFreeNothingFitsSooner(t *testing.T) {
	fits := func(p, less impl.Profile) {
		for _, from := range []int64{0, 1, 3, 6, never - 1, never} {
			for _, long := range []int64{0, 1, 2, 5, never} {
				for n := range less.Total + 1 {
					if impl.Fit(less, from, long, n) < impl.Fit(p, from, long, n) {
						t.Fatalf("%d for %d from %d on fits sooner in %v than in %v", n, long, from, less, p)
					}
				}
			}
		}
	}
	f := field{0, 1, 2, 3, 4}
	other := profile(2, at(0, 1), at(2, 2), at(3, 0), at(4, 1))
	every(func(free []int64) {
		p, _ := f.profile(2, free)
		low, is := impl.Lower(p, other)
		if !is {
			t.Fatal(p)
		}
		fits(p, low)
		fits(other, low)
		for from := range int64(6) {
			if less, is := impl.Reserve(p, from, from+2, 1); is {
				fits(p, less)
			}
		}
	})
}

func TestLowerOfEveryField(t *testing.T) {
	f := field{0, 1, 2, 3, 4}
	every(func(free []int64) {
		p, _ := f.profile(2, free)
		every(func(other []int64) {
			q, _ := f.profile(2, other)
			both := slices.Clone(free)
			for i := range both {
				both[i] = min(free[i], other[i])
			}
			want, _ := f.profile(2, both)
			got, is := impl.Lower(p, q)
			compare(t, "Lower", got, is, want, true)
		})
	})
}

// noProfile looks at the zero Profile and false.
func noProfile(t *testing.T, what string, p impl.Profile, is bool) {
	t.Helper()
	if is || !same(p, impl.Profile{}) {
		t.Errorf("%s: %v, %v", what, p, is)
	}
}

func TestWrongProfilesAreRefused(t *testing.T) {
	right := profile(5, at(0, 5), at(3, 1))
	times := append(edgeTimes(), noTimes()...)
	for _, p := range wrongProfiles() {
		for _, x := range times {
			for _, y := range []int64{0, 1, 9, never, -1, math.MaxInt64, math.MinInt64} {
				for _, got := range []int64{impl.FreeAt(p, x), impl.Least(p, x, y), impl.Area(p, x, y), impl.Fit(p, x, y, 0), impl.Fit(p, x, 1, y)} {
					if got != -1 {
						t.Fatalf("%v with %d and %d: %d", p, x, y, got)
					}
				}
				for _, n := range []int64{0, 1, y} {
					q, is := impl.Reserve(p, x, y, n)
					noProfile(t, "Reserve", q, is)
					q, is = impl.Release(p, x, y, n)
					noProfile(t, "Release", q, is)
				}
			}
		}
		for _, q := range append(wrongProfiles(), right) {
			low, is := impl.Lower(p, q)
			noProfile(t, "Lower", low, is)
			low, is = impl.Lower(q, p)
			noProfile(t, "Lower", low, is)
		}
	}
}

func TestNoTimesAreRefusedByProfiles(t *testing.T) {
	for _, p := range rightProfiles() {
		for _, bad := range noTimes() {
			if impl.FreeAt(p, bad) != -1 {
				t.Fatalf("FreeAt %d is %d", bad, impl.FreeAt(p, bad))
			}
			for _, x := range append(edgeTimes(), noTimes()...) {
				for i, got := range []int64{impl.Least(p, bad, x), impl.Least(p, x, bad), impl.Area(p, bad, x), impl.Area(p, x, bad), impl.Fit(p, bad, x, 0), impl.Fit(p, x, bad, 0)} {
					if got != -1 {
						t.Fatalf("answer %d at %d and %d is %d", i, bad, x, got)
					}
				}
				// n 0, and a stretch without a time, excuse nothing
				for i, how := range []change{impl.Reserve, impl.Release, impl.Reserve, impl.Release} {
					from, to := bad, x
					if i >= 2 {
						from, to = x, bad
					}
					q, is := how(p, from, to, 0)
					noProfile(t, "with what is no time", q, is)
				}
			}
		}
	}
}

// spoil writes over all that an answer is made of, the room behind it too.
func spoil(p impl.Profile) {
	all := p.Levels[:cap(p.Levels)]
	for i := range all {
		all[i] = at(-77, -77)
	}
}

// roomy is p with spare room behind its Levels, where something stands already.
func roomy(p impl.Profile) impl.Profile {
	levels := append(slices.Clone(p.Levels), at(-5, -6), at(-7, -8), at(-9, -10))
	return impl.Profile{Total: p.Total, Levels: levels[:len(p.Levels):len(levels)]}
}

func TestProfilesShareNoMemory(t *testing.T) {
	for _, right := range rightProfiles() {
		p, other := roomy(right), roomy(profile(impl.MaxTotal, at(0, impl.MaxTotal)))
		all, spare := slices.Clone(p.Levels[:cap(p.Levels)]), slices.Clone(other.Levels[:cap(other.Levels)])
		look := func(what string, q impl.Profile, is bool) {
			if is {
				spoil(q)
			}
			if now := p.Levels[:cap(p.Levels)]; p.Total != right.Total || !slices.Equal(now, all) {
				t.Fatalf("%s: the argument %v became %v", what, all, now)
			}
			if !slices.Equal(other.Levels[:cap(other.Levels)], spare) {
				t.Fatalf("%s: the other argument became %v", what, other)
			}
		}
		for _, from := range near(p) {
			for _, to := range near(p) {
				for _, n := range []int64{0, 1, p.Total, -1, math.MaxInt64} {
					q, is := impl.Reserve(p, from, to, n)
					look("Reserve", q, is)
					q, is = impl.Release(p, from, to, n)
					look("Release", q, is)
					impl.Fit(p, from, to, n)
				}
				impl.FreeAt(p, from)
				impl.Least(p, from, to)
				impl.Area(p, from, to)
				look("what tells numbers", impl.Profile{}, false)
			}
		}
		for _, q := range [][2]impl.Profile{{p, p}, {p, other}, {other, p}} {
			low, is := impl.Lower(q[0], q[1])
			look("Lower", low, is)
		}
	}
}

func TestAnswersOfOneCallAreNotThoseOfAnother(t *testing.T) {
	one, _ := impl.NewProfile(9)
	two, _ := impl.NewProfile(9)
	spoil(one)
	three, _ := impl.NewProfile(9)
	if !same(two, profile(9, at(0, 9))) || !same(three, two) {
		t.Error("NewProfile hands out what it keeps")
	}
	p := profile(9, at(0, 9), at(4, 2))
	for _, how := range []change{impl.Reserve, impl.Release} {
		one, _ := how(p, 5, 5, 0)
		two, _ := how(p, 5, 5, 0)
		spoil(one)
		if !same(two, p) {
			t.Error("two answers share memory")
		}
	}
}
