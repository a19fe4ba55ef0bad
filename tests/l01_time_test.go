package tests

import (
	"math"
	"testing"

	"loop.example/g00255/impl"
)

const never = 1000000000

// edgeTimes are times, the edges of chapter 1 among them.
func edgeTimes() []int64 {
	return []int64{0, 1, 2, 5, 7, 499999999, 500000000, 500000001, never - 2, never - 1, never}
}

// noTimes are numbers that are no times; the last two are so near the ends of
// int64 that a sum made ahead of looking would wrap round into the times.
func noTimes() []int64 {
	return []int64{-1, -2, never + 1, 2 * never, -never, math.MaxInt64, math.MinInt64,
		math.MaxInt64 - never, math.MinInt64 + never}
}

func TestNeverIsTheDocumentsNumber(t *testing.T) {
	if impl.Never != never {
		t.Fatal(impl.Never)
	}
}

func TestTimeOk(t *testing.T) {
	for _, x := range edgeTimes() {
		if !impl.TimeOk(x) {
			t.Errorf("TimeOk(%d) is false", x)
		}
	}
	for _, x := range noTimes() {
		if impl.TimeOk(x) {
			t.Errorf("TimeOk(%d) is true", x)
		}
	}
}

func TestLaterTable(t *testing.T) {
	for _, c := range []struct{ t, by, want int64 }{
		{0, 0, 0}, {0, 1, 1}, {5, 7, 12}, {7, 5, 12}, {999, 1, 1000},
		{never - 1, 0, never - 1}, {never - 1, 1, never}, {never - 2, 1, never - 1},
		{never - 1, 2, never}, {never - 1, never - 1, never},
		{500000000, 499999999, never - 1}, {500000000, 500000000, never}, {500000000, 500000001, never},
		{never, 0, never}, {0, never, never}, {never, never, never}, {never, 1, never},
	} {
		if got := impl.Later(c.t, c.by); got != c.want {
			t.Errorf("Later(%d, %d) = %d, not %d", c.t, c.by, got, c.want)
		}
	}
}

func TestLaterGoesInAnyOrder(t *testing.T) {
	for _, a := range edgeTimes() {
		for _, b := range edgeTimes() {
			if impl.Later(a, b) != impl.Later(b, a) {
				t.Errorf("Later of %d and %d hangs on their order", a, b)
			}
			for _, c := range edgeTimes() {
				want := min(a+b+c, never)
				one, two := impl.Later(impl.Later(a, b), c), impl.Later(a, impl.Later(b, c))
				if one != want || two != want {
					t.Errorf("of %d, %d, %d: %d and %d, not %d", a, b, c, one, two, want)
				}
			}
		}
	}
}

func TestNeverIsTheEnd(t *testing.T) {
	for _, a := range edgeTimes() {
		if got := impl.Later(a, never); got != never {
			t.Errorf("Later(%d, Never) = %d", a, got)
		}
		if got := impl.Later(a, impl.Until(a, never)); got != never {
			t.Errorf("%d, and the time till Never behind it, is %d", a, got)
		}
		if got := impl.Until(never, a); got != 0 {
			t.Errorf("Until(Never, %d) = %d", a, got)
		}
	}
}

func TestUntilTable(t *testing.T) {
	for _, c := range []struct{ from, to, want int64 }{
		{0, 0, 0}, {3, 10, 7}, {10, 3, 0}, {10, 10, 0}, {10, 11, 1}, {11, 10, 0},
		{0, never - 1, never - 1}, {never - 2, never - 1, 1}, {never - 1, never - 2, 0},
		{0, never, never}, {4, never, never}, {never - 1, never, never},
		{never, never, 0}, {never, never - 1, 0}, {never, 0, 0},
	} {
		if got := impl.Until(c.from, c.to); got != c.want {
			t.Errorf("Until(%d, %d) = %d, not %d", c.from, c.to, got, c.want)
		}
	}
}

func TestUntilUndoesLater(t *testing.T) {
	for _, a := range edgeTimes() {
		for _, b := range edgeTimes() {
			if a <= b && impl.Later(a, impl.Until(a, b)) != b {
				t.Errorf("from %d until %d is %d, which does not come back", a, b, impl.Until(a, b))
			}
		}
	}
}

func TestOverlapTable(t *testing.T) {
	for _, c := range []struct{ a, b, c, d, want int64 }{
		{0, 5, 3, 9, 2}, {0, 9, 3, 5, 2}, {3, 5, 0, 9, 2}, {0, 5, 0, 5, 5},
		{0, 3, 3, 9, 0}, {0, 4, 3, 9, 1}, {0, 2, 3, 9, 0}, {3, 9, 0, 3, 0},
		{5, 2, 0, 9, 0}, {0, 9, 5, 2, 0}, {5, 5, 0, 9, 0}, {0, 9, 5, 5, 0}, {5, 2, 5, 2, 0},
		{0, never - 1, 0, never - 1, never - 1}, {0, never, 4, 9, 5}, {4, 9, 0, never, 5},
		{never - 2, never, 0, never - 1, 1}, {0, never - 1, 7, never, never - 8},
		{0, never, 0, never, never}, {0, never, 4, never, never}, {never - 1, never, 4, never, never},
		{never, never, 0, never, 0}, {0, never, never, never, 0}, {never, 0, 0, never, 0},
	} {
		if got := impl.Overlap(c.a, c.b, c.c, c.d); got != c.want {
			t.Errorf("Overlap(%d, %d, %d, %d) = %d, not %d", c.a, c.b, c.c, c.d, got, c.want)
		}
	}
}

// countBoth counts time by time, as no sum of ends can go wrong in it.
func countBoth(a, b, c, d int64) int64 {
	n := int64(0)
	for x := int64(0); x < 8; x++ {
		if a <= x && x < b && c <= x && x < d {
			n++
		}
	}
	return n
}

func TestOverlapCountsTheTimesOfBoth(t *testing.T) {
	for n := int64(0); n < 8*8*8*8; n++ {
		a, b, c, d := n%8, n/8%8, n/64%8, n/512
		if got := impl.Overlap(a, b, c, d); got != countBoth(a, b, c, d) {
			t.Errorf("Overlap(%d, %d, %d, %d) = %d, not %d", a, b, c, d, got, countBoth(a, b, c, d))
		}
	}
}

func TestOverlapGoesBothWays(t *testing.T) {
	times := edgeTimes()
	for _, a := range times {
		for _, b := range times {
			if got := impl.Overlap(a, b, a, b); got != impl.Until(a, b) {
				t.Errorf("from %d to %d and itself: %d", a, b, got)
			}
			for _, c := range times {
				for _, d := range times {
					if impl.Overlap(a, b, c, d) != impl.Overlap(c, d, a, b) {
						t.Errorf("Overlap of %d to %d and %d to %d hangs on their order", a, b, c, d)
					}
				}
			}
		}
	}
}

func TestSumsRefuseWhatIsNoTime(t *testing.T) {
	for _, bad := range noTimes() {
		for _, x := range append(edgeTimes(), noTimes()...) {
			told := []int64{
				impl.Later(bad, x), impl.Later(x, bad), impl.Until(bad, x), impl.Until(x, bad),
				impl.Overlap(bad, x, 0, 9), impl.Overlap(x, bad, 0, 9), impl.Overlap(0, 9, bad, x), impl.Overlap(0, 9, x, bad),
				// an empty stretch beside it doesn't excuse what is no time
				impl.Overlap(9, 2, bad, x), impl.Overlap(9, 2, x, bad), impl.Overlap(bad, x, 9, 2), impl.Overlap(x, bad, 9, 2),
			}
			for i, got := range told {
				if got != -1 {
					t.Errorf("sum %d of %d with %d tells %d, not -1", i, bad, x, got)
				}
			}
		}
	}
}

func TestShowTime(t *testing.T) {
	for _, c := range []struct {
		t    int64
		want string
	}{
		{0, "0"}, {7, "7"}, {10, "10"}, {1234567, "1234567"}, {never - 1, "999999999"}, {never, "never"},
	} {
		if got := impl.ShowTime(c.t); got != c.want {
			t.Errorf("ShowTime(%d) = %q, not %q", c.t, got, c.want)
		}
	}
	for _, bad := range noTimes() {
		if got := impl.ShowTime(bad); got != "" {
			t.Errorf("ShowTime(%d) = %q", bad, got)
		}
	}
}

// Promise 21 for chapter 1: whatever is handed in, an answer comes, and it is -1 or a time.
func TestTimeAnswersAtEveryNumber(t *testing.T) {
	all := append(append(edgeTimes(), noTimes()...), math.MaxInt64-1, math.MinInt64+1)
	for _, a := range all {
		if impl.TimeOk(a) != (impl.ShowTime(a) != "") {
			t.Errorf("TimeOk and ShowTime are of two minds on %d", a)
		}
		for _, b := range all {
			both := impl.TimeOk(a) && impl.TimeOk(b)
			for _, got := range []int64{impl.Later(a, b), impl.Until(a, b), impl.Overlap(a, b, b, a), impl.Overlap(a, b, a, b)} {
				if both != impl.TimeOk(got) || !both && got != -1 {
					t.Errorf("of %d and %d: %d", a, b, got)
				}
			}
		}
	}
}
