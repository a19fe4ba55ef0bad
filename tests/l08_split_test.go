package tests

import (
	"math"
	"math/big"
	"slices"
	"testing"

	"loop.example/g00255/impl"
)

func piece(job, machine, from, to int64) impl.Piece {
	return impl.Piece{Job: job, Machine: machine, From: from, To: to}
}

// countPieces goes along the line time by time, and begins a Piece where the Job or the machine is another.
func countPieces(list []impl.Job, m int64) []impl.Piece {
	stretch, machine, time := countBound(list, m), int64(0), int64(0)
	out := []impl.Piece{}
	for _, j := range list {
		for k := range j.Long {
			if time == stretch {
				machine, time = machine+1, 0
			}
			if k == 0 || time == 0 {
				out = append(out, piece(j.Id, machine, time, time))
			}
			time++
			out[len(out)-1].To = time
		}
	}
	return out
}

// countPiecesOk holds each two Pieces against each other, and sums up without an end.
func countPiecesOk(list []impl.Job, m int64, pieces []impl.Piece) bool {
	if !impl.JobsOk(list) || m < 1 || m > 10 {
		return false
	}
	left := map[int64]*big.Int{}
	for _, j := range list {
		left[j.Id] = big.NewInt(j.Long)
	}
	for i, p := range pieces {
		if left[p.Job] == nil || p.Machine < 0 || p.Machine >= m || p.From < 0 || p.From >= p.To {
			return false
		}
		for _, q := range pieces[:i] {
			if (p.Machine == q.Machine || p.Job == q.Job) && p.From < q.To && q.From < p.To {
				return false
			}
		}
		left[p.Job].Sub(left[p.Job], big.NewInt(p.To-p.From))
	}
	for _, more := range left {
		if more.Sign() != 0 {
			return false
		}
	}
	return true
}

func countFinish(pieces []impl.Piece) int64 {
	for _, p := range pieces {
		if !slices.ContainsFunc(pieces, func(q impl.Piece) bool { return q.To > p.To }) {
			return p.To
		}
	}
	return 0
}

func countParts(pieces []impl.Piece, id int64) int64 {
	return int64(len(slices.DeleteFunc(slices.Clone(pieces), func(p impl.Piece) bool { return p.Job != id })))
}

func looksPiecesOk(t *testing.T, what string, list []impl.Job, m int64, pieces []impl.Piece, want bool) {
	t.Helper()
	if got := impl.PiecesOk(list, m, pieces); got != want {
		t.Fatalf("%s: of %v on %d %v are right: %v", what, list, m, pieces, got)
	}
}

// looksAsCounted is for Pieces that may be right or not.
func looksAsCounted(t *testing.T, list []impl.Job, m int64, pieces []impl.Piece) {
	t.Helper()
	looksPiecesOk(t, "counted", list, m, pieces, countPiecesOk(list, m, pieces))
	if got, want := impl.Finish(pieces), countFinish(pieces); got != want {
		t.Fatalf("Finish of %v: %d, not %d", pieces, got, want)
	}
	for _, p := range append(slices.Clone(pieces), impl.Piece{}, piece(-1, 0, 0, 1)) {
		if got, want := impl.Parts(pieces, p.Job), countParts(pieces, p.Job); got != want {
			t.Fatalf("Parts of %d in %v: %d, not %d", p.Job, pieces, got, want)
		}
	}
}

// looksSplit is promise 8.
func looksSplit(t *testing.T, list []impl.Job, m int64) {
	t.Helper()
	pieces := impl.Pieces(list, m)
	if want := countPieces(list, m); !slices.Equal(pieces, want) {
		t.Fatalf("of %v on %d:\n%v, not\n%v", list, m, pieces, want)
	}
	looksPiecesOk(t, "McNaughton", list, m, pieces, true)
	looksAsCounted(t, list, m, pieces)
	bound, all := impl.Bound(list, m), int64(0)
	if finish := impl.Finish(pieces); finish != bound || bound != countBound(list, m) {
		t.Fatalf("of %v on %d: Finish of %v is %d, the Bound %d", list, m, pieces, finish, bound)
	}
	for _, j := range list {
		parts := impl.Parts(pieces, j.Id)
		if parts < 1 || parts > 2 {
			t.Fatalf("of %v on %d: %d is in %d Parts: %v", list, m, j.Id, parts, pieces)
		}
		all += parts
	}
	if parted := all - int64(len(list)); all != int64(len(pieces)) || parted > m-1 {
		t.Fatalf("of %v on %d: %v has %d Parts of its Jobs, %d times one is parted", list, m, pieces, all, parted)
	}
}

// looksNoSplit looks for what is answered where something is not as told, whatever the Pieces are.
func looksNoSplit(t *testing.T, list []impl.Job, m int64, pieces ...impl.Piece) {
	t.Helper()
	if got := impl.Pieces(list, m); len(got) != 0 {
		t.Fatalf("of %v on %d: %v", list, m, got)
	}
	looksPiecesOk(t, "not as told", list, m, pieces, false)
	looksPiecesOk(t, "not as told", list, m, nil, false)
	looksPiecesOk(t, "not as told", list, m, []impl.Piece{}, false)
}

func TestPiecesTable(t *testing.T) {
	for _, c := range []struct {
		what string
		list []impl.Job
		m    int64
		want []impl.Piece
	}{
		{"no Jobs", nil, 1, nil}, {"no Jobs", []impl.Job{}, 10, nil},
		{"one Job", long(5), 1, []impl.Piece{piece(1, 0, 0, 5)}}, {"one Job on many", long(5), 10, []impl.Piece{piece(1, 0, 0, 5)}},
		{"the greatest Id and Long", []impl.Job{asked(1000000, 10000, 0, 0)}, 10, []impl.Piece{piece(1000000, 0, 0, 10000)}},
		{"one machine", long(2, 3, 1), 1, []impl.Piece{piece(1, 0, 0, 2), piece(2, 0, 2, 5), piece(3, 0, 5, 6)}},
		{"one parted", long(4, 3, 3), 2, []impl.Piece{piece(1, 0, 0, 4), piece(2, 0, 4, 5), piece(2, 1, 0, 2), piece(3, 1, 2, 5)}},
		{"Ids, not numbers", []impl.Job{asked(7, 4, 0, 0), asked(8, 3, 0, 0), asked(2, 3, 0, 0)}, 2,
			[]impl.Piece{piece(7, 0, 0, 4), piece(8, 0, 4, 5), piece(8, 1, 0, 2), piece(2, 1, 2, 5)}},
		{"the order of the list", long(3, 4, 3), 2, []impl.Piece{piece(1, 0, 0, 3), piece(2, 0, 3, 5), piece(2, 1, 0, 2), piece(3, 1, 2, 5)}},
		{"just where a machine ends", long(2, 3, 5), 2, []impl.Piece{piece(1, 0, 0, 2), piece(2, 0, 2, 5), piece(3, 1, 0, 5)}},
		{"just where each machine ends", long(3, 3, 3), 3, []impl.Piece{piece(1, 0, 0, 3), piece(2, 1, 0, 3), piece(3, 2, 0, 3)}},
		{"by one ahead of the end", long(2, 2, 6), 2, []impl.Piece{piece(1, 0, 0, 2), piece(2, 0, 2, 4), piece(3, 0, 4, 6), piece(3, 1, 0, 4)}},
		{"by one behind the end", long(4, 2, 4), 2, []impl.Piece{piece(1, 0, 0, 4), piece(2, 0, 4, 5), piece(2, 1, 0, 1), piece(3, 1, 1, 5)}},
		{"as long as the Bound, all of one machine", long(6, 4, 2), 2, []impl.Piece{piece(1, 0, 0, 6), piece(2, 1, 0, 4), piece(3, 1, 4, 6)}},
		{"as long as the Bound, parted", long(4, 6, 2), 2, []impl.Piece{piece(1, 0, 0, 4), piece(2, 0, 4, 6), piece(2, 1, 0, 4), piece(3, 1, 4, 6)}},
		{"longer than the others together", long(1, 9, 2), 3, []impl.Piece{piece(1, 0, 0, 1), piece(2, 0, 1, 9), piece(2, 1, 0, 1), piece(3, 1, 1, 3)}},
		{"each machine's end parts one", long(2, 2, 2, 2, 2), 4, []impl.Piece{piece(1, 0, 0, 2), piece(2, 0, 2, 3), piece(2, 1, 0, 1), piece(3, 1, 1, 3), piece(4, 2, 0, 2), piece(5, 2, 2, 3), piece(5, 3, 0, 1)}},
		{"m less one are parted", long(3, 3, 3, 3, 3), 3, []impl.Piece{piece(1, 0, 0, 3), piece(2, 0, 3, 5), piece(2, 1, 0, 1), piece(3, 1, 1, 4), piece(4, 1, 4, 5), piece(4, 2, 0, 2), piece(5, 2, 2, 5)}},
		{"rounded up, the last one has less", long(1, 1, 1, 1, 1), 2, []impl.Piece{piece(1, 0, 0, 1), piece(2, 0, 1, 2), piece(3, 0, 2, 3), piece(4, 1, 0, 1), piece(5, 1, 1, 2)}},
		{"more machines than Jobs", long(1, 1), 10, []impl.Piece{piece(1, 0, 0, 1), piece(2, 1, 0, 1)}},
		{"ten machines, twelve Jobs", alike(12, 5, 0, 0), 10, []impl.Piece{
			piece(1, 0, 0, 5), piece(2, 0, 5, 6), piece(2, 1, 0, 4), piece(3, 1, 4, 6), piece(3, 2, 0, 3), piece(4, 2, 3, 6), piece(4, 3, 0, 2), piece(5, 3, 2, 6), piece(5, 4, 0, 1),
			piece(6, 4, 1, 6), piece(7, 5, 0, 5), piece(8, 5, 5, 6), piece(8, 6, 0, 4), piece(9, 6, 4, 6), piece(9, 7, 0, 3), piece(10, 7, 3, 6), piece(10, 8, 0, 2), piece(11, 8, 2, 6), piece(11, 9, 0, 1), piece(12, 9, 1, 6)}},
	} {
		if got := impl.Pieces(c.list, c.m); !slices.Equal(got, c.want) {
			t.Errorf("%s: of %v on %d:\n%v, not\n%v", c.what, c.list, c.m, got, c.want)
		}
		looksSplit(t, c.list, c.m)
	}
}

// Each list of one Job with nine Longs, of two to five with four, and of six and seven with two.
func TestSplitOfEveryFew(t *testing.T) {
	for n, longs := range []int64{1, 9, 4, 4, 4, 4, 2, 2} {
		everyGift(n, longs, func(kinds []int64) {
			list := long(kinds...)
			for i := range list {
				list[i].Long = []int64{1, 3, 2, 5, 4, 6, 7, 9999, 10000}[kinds[i]]
			}
			for m := int64(1); m <= 10; m++ {
				looksSplit(t, list, m)
			}
		})
	}
}

func TestSplitOfMany(t *testing.T) {
	for _, list := range append(singleLists(), alike(40, 1, 0, 0), alike(39, 7, 0, 0), alike(11, 10, 0, 0), alike(40, 10000, 0, 0)) {
		for m := int64(1); m <= 10; m++ {
			looksSplit(t, list, m)
		}
	}
}

// Jobs that fill all machines, each to its end.
func TestSplitOfFullMachines(t *testing.T) {
	d := dice(103)
	for m := int64(1); m <= 10; m++ {
		for _, each := range []int64{1, 3, 12, 1000, 10000} {
			list := thrownFull(&d, m, each)
			looksSplit(t, list, m)
			for machine := range m {
				full := int64(0)
				for _, p := range impl.Pieces(list, m) {
					if p.Machine == machine {
						full += p.To - p.From
					}
				}
				if full != each {
					t.Fatalf("of %v machine %d does %d, not %d", list, machine, full, each)
				}
			}
		}
	}
}

func TestSplitOfAsManyJobsAsMayBe(t *testing.T) {
	for m := int64(1); m <= 10; m++ {
		for _, n := range []int{41, 42, 80, 400} {
			list := alike(n, 3, 0, 0)
			looksNoSplit(t, list, m, countPieces(list, m)...)
			looksNoSplit(t, list, m, countPieces(list[:40], m)...)
		}
	}
	if got := impl.Pieces(alike(40, 10000, 0, 0), 1); len(got) != 40 || got[39] != piece(40, 0, 390000, 400000) {
		t.Error(got)
	}
	if got := impl.Pieces(alike(40, 10000, 0, 0), 10); len(got) != 40 || got[39] != piece(40, 9, 30000, 40000) {
		t.Error(got)
	}
}

func TestSplitsOutOfRange(t *testing.T) {
	for _, list := range [][]impl.Job{nil, {}, long(5), long(4, 3, 3), alike(40, 1, 0, 0)} {
		for _, m := range wrongCounts() {
			looksNoSplit(t, list, m, impl.Pieces(list, 1)...)
			looksNoSplit(t, list, m, impl.Pieces(list, 10)...)
		}
	}
}

func TestWrongJobsAreNotSplit(t *testing.T) {
	right := map[int64][]impl.Piece{}
	for m := int64(1); m <= 10; m++ {
		right[m] = impl.Pieces(alike(4, 2, 5, 3), m)
	}
	for _, list := range spoiltLists() {
		for _, m := range append(wrongCounts(), 1, 2, 4, 10) {
			looksNoSplit(t, list, m, right[m]...)
		}
	}
	// what could be split, and is refused for another field alone
	for _, f := range jobFields() {
		for _, j := range spoilt(asked(3, 2, 5, 3), []fieldOf[impl.Job]{f}) {
			if j.Id == 3 && j.Long == 2 {
				looksNoSplit(t, []impl.Job{asked(1, 4, 0, 0), j}, 2, piece(1, 0, 0, 4), piece(3, 1, 0, 2))
			}
		}
	}
	// two with one Id, whichever of them has Pieces
	twins := []impl.Job{asked(1, 2, 0, 0), asked(1, 3, 0, 0)}
	looksNoSplit(t, twins, 2, piece(1, 0, 0, 2))
	looksNoSplit(t, twins, 2, piece(1, 0, 0, 3))
	looksNoSplit(t, twins, 2, piece(1, 0, 0, 2), piece(1, 0, 2, 5))
}

// Each of these differs in one thing from what is right.
func TestPiecesOkTable(t *testing.T) {
	const last = math.MaxInt64
	list := long(4, 3, 3)
	one, two, more, three := piece(1, 0, 0, 4), piece(2, 0, 4, 5), piece(2, 1, 0, 2), piece(3, 1, 2, 5)
	for _, c := range []struct {
		what   string
		pieces []impl.Piece
		want   bool
	}{
		{"as they come", []impl.Piece{one, two, more, three}, true},
		{"in another order", []impl.Piece{three, more, two, one}, true},
		{"none", nil, false},
		{"one too few", []impl.Piece{one, two, three}, false}, {"the first one too few", []impl.Piece{two, more, three}, false}, {"the last one too few", []impl.Piece{one, two, more}, false},
		{"one twice", []impl.Piece{one, two, more, three, two}, false}, {"all twice", []impl.Piece{one, two, more, three, one, two, more, three}, false},
		{"a Piece too many", []impl.Piece{one, two, more, three, piece(3, 0, 5, 6)}, false}, {"a Piece too many, much later", []impl.Piece{one, two, more, three, piece(1, 0, last-1, last)}, false},
		{"longer by 1", []impl.Piece{one, two, more, piece(3, 1, 2, 6)}, false}, {"shorter by 1", []impl.Piece{one, two, more, piece(3, 1, 2, 4)}, false},
		{"begun later by 1", []impl.Piece{one, two, more, piece(3, 1, 3, 5)}, false}, {"the one longer, the other shorter", []impl.Piece{piece(1, 0, 0, 3), piece(2, 0, 3, 5), more, three}, false},
		{"all of a Job later by 1", []impl.Piece{one, two, more, piece(3, 1, 3, 6)}, true}, {"as late as can be", []impl.Piece{one, two, more, piece(3, 1, last-3, last)}, true},
		{"From -1", []impl.Piece{one, two, piece(2, 1, -1, 1), three}, false}, {"From far below 0", []impl.Piece{one, two, piece(2, 1, math.MinInt64, math.MinInt64+2), three}, false},
		{"From -1, and To 0", []impl.Piece{one, two, more, piece(3, 1, 2, 4), piece(3, 1, -1, 0)}, false},
		{"From equal to To", []impl.Piece{one, two, more, three, piece(3, 1, 9, 9)}, false}, {"From equal to To at 0", []impl.Piece{one, two, more, three, piece(3, 0, 0, 0)}, false},
		{"From above To", []impl.Piece{one, two, more, three, piece(3, 1, 9, 8)}, false}, {"From above To, made good", []impl.Piece{one, two, more, three, piece(3, 1, 9, 8), piece(3, 1, 20, 21)}, false},
		{"long by wrapping round alone", []impl.Piece{one, two, more, piece(3, 1, last, math.MinInt64+2)}, false},
		{"a sum that wraps round", []impl.Piece{one, two, more, piece(3, 1, 2, last), piece(3, 0, 5, last), piece(3, 1, 0, 14)}, false},
		{"To at the least", []impl.Piece{one, two, more, three, piece(3, 1, 9, math.MinInt64)}, false},
		{"a machine of -1", []impl.Piece{one, two, more, piece(3, -1, 2, 5)}, false}, {"a machine of m", []impl.Piece{one, two, more, piece(3, 2, 2, 5)}, false},
		{"a machine far below", []impl.Piece{one, two, more, piece(3, math.MinInt64, 2, 5)}, false}, {"a machine far above", []impl.Piece{one, two, more, piece(3, 1<<32, 2, 5)}, false},
		{"of none of them", []impl.Piece{one, two, more, three, piece(4, 0, 5, 6)}, false}, {"of a Job 0", []impl.Piece{one, two, more, three, piece(0, 0, 5, 6)}, false},
		{"of a Job -1", []impl.Piece{one, two, more, three, piece(-1, 0, 5, 6)}, false}, {"of another in its place", []impl.Piece{one, two, more, piece(4, 1, 2, 5)}, false},
		{"two of one machine at one time by 1", []impl.Piece{one, two, more, piece(3, 1, 1, 4)}, false}, {"two of one machine at all their time", []impl.Piece{one, two, piece(2, 1, 2, 4), three}, false},
		{"one within another, of one machine", []impl.Piece{one, two, piece(2, 1, 3, 5), three}, false},
		{"two of one Job at one time by 1", []impl.Piece{one, two, piece(2, 1, 3, 5), piece(3, 1, 0, 3)}, false}, {"two of one Job at one time, begun alike", []impl.Piece{one, two, piece(2, 1, 4, 6), piece(3, 1, 0, 3)}, false},
		{"two of one Job at one time by their ends", []impl.Piece{piece(1, 0, 2, 6), piece(2, 0, 0, 2), piece(2, 1, 1, 2), piece(3, 1, 2, 5)}, false},
		{"two of one Job that touch", []impl.Piece{piece(1, 0, 2, 6), piece(2, 0, 0, 2), piece(2, 1, 2, 3), piece(3, 1, 3, 6)}, true},
		{"two of one Job that touch on one machine", []impl.Piece{one, piece(2, 0, 4, 6), piece(2, 0, 6, 7), three}, true},
		{"cut to the least", []impl.Piece{one, two, piece(2, 1, 0, 1), piece(2, 1, 1, 2), piece(3, 1, 2, 3), piece(3, 0, 5, 6), piece(3, 1, 4, 5)}, true},
		{"machines changed", []impl.Piece{piece(1, 1, 0, 4), piece(2, 1, 4, 5), piece(2, 0, 0, 2), piece(3, 0, 2, 5)}, true},
		{"one machine for all", []impl.Piece{one, piece(2, 0, 4, 7), piece(3, 0, 7, 10)}, true},
	} {
		looksPiecesOk(t, c.what, list, 2, c.pieces, c.want)
		looksAsCounted(t, list, 2, c.pieces)
		everyFew(c.pieces, func(pieces []impl.Piece) { looksPiecesOk(t, c.what, list, 2, pieces, c.want) })
	}
	for _, m := range []int64{1, 2, 3, 10, 11} {
		looksPiecesOk(t, "on other machines", list, m, []impl.Piece{one, two, more, three}, m > 1 && m < 11)
		looksPiecesOk(t, "no Jobs, no Pieces", nil, m, nil, m < 11)
		looksPiecesOk(t, "a Piece of no Job", nil, m, []impl.Piece{one}, false)
		looksPiecesOk(t, "an empty Piece of no Job", nil, m, []impl.Piece{{}}, false)
	}
}

// everyFew shows all orders of some few, else none.
func everyFew(pieces []impl.Piece, see func([]impl.Piece)) {
	if len(pieces) <= 6 {
		everyOrder(pieces, see)
	}
}

// changedPieces are copies, each with the i-th Piece changed.
func changedPieces(pieces []impl.Piece, i int, changes ...impl.Piece) [][]impl.Piece {
	out := [][]impl.Piece{}
	for _, by := range changes {
		own := slices.Clone(pieces)
		own[i] = piece(own[i].Job+by.Job, own[i].Machine+by.Machine, own[i].From+by.From, own[i].To+by.To)
		out = append(out, own)
	}
	return out
}

// Pieces of thrown lists, spoilt in each place.
func TestSpoiltPiecesAreRefused(t *testing.T) {
	d := dice(107)
	for _, n := range []int64{1, 2, 3, 5, 12} {
		for _, longs := range []int64{1, 2, 9, 10000} {
			list := thrownSingles(&d, n, longs)
			for m := int64(1); m <= 10; m++ {
				pieces := impl.Pieces(list, m)
				end := impl.Finish(pieces)
				for i, p := range pieces {
					spoilt := changedPieces(pieces, i, piece(0, 0, 0, 1), piece(0, 0, 0, -1), piece(0, 0, 1, 0), piece(0, 0, -1, 0), piece(500000, 0, 0, 0), piece(-p.Job, 0, 0, 0),
						piece(0, -1-p.Machine, 0, 0), piece(0, m-p.Machine, 0, 0), piece(0, 0, p.To-p.From, 0), piece(0, 0, 0, p.From-p.To), piece(0, 0, -1-p.From, -1-p.From))
					for _, more := range []impl.Piece{p, piece(p.Job, 0, end, end+1), piece(p.Job, 0, end, end), piece(p.Job, m-1, end+1, end), piece(500000, 0, end, end+1), {}} {
						spoilt = append(spoilt, append(slices.Clone(pieces), more))
					}
					spoilt = append(spoilt, slices.Delete(slices.Clone(pieces), i, i+1))
					for _, own := range spoilt {
						looksPiecesOk(t, "spoilt", list, m, own, false)
						mix(&d, own)
						looksPiecesOk(t, "spoilt, in another order", list, m, own, false)
						looksAsCounted(t, list, m, own)
					}
					// what hangs on the others
					for _, own := range changedPieces(pieces, i, piece(0, 0, -1, -1), piece(0, 0, 1, 1), piece(0, -1, 0, 0), piece(0, 1, 0, 0), piece(0, 0, end, end), piece(1, 0, 0, 0), piece(7, 0, 0, 0)) {
						looksAsCounted(t, list, m, own)
					}
				}
			}
		}
	}
}

// Pieces that are right are so at any later time, with their machines changed about, cut up, and in any order.
func TestPiecesThatAreRightInOtherWays(t *testing.T) {
	d := dice(109)
	for _, list := range singleLists() {
		m := 1 + d.below(10)
		pieces := impl.Pieces(list, m)
		end := impl.Finish(pieces)
		for _, by := range []int64{0, 1, never, math.MaxInt64 - end, -1, -2} {
			other := slices.Clone(pieces)
			for i := range other {
				other[i].From, other[i].To, other[i].Machine = other[i].From+by, other[i].To+by, m-1-other[i].Machine
			}
			mix(&d, other)
			looksPiecesOk(t, "at another time", list, m, other, by >= 0 || len(list) == 0)
			looksPiecesOk(t, "on more machines", list, 10, other, by >= 0 || len(list) == 0)
			// the first machine is one of them wherever there is a Job
			for i := range other {
				other[i].Machine = m - 2 - other[i].Machine
			}
			looksPiecesOk(t, "with machines from -1 on", list, m, other, len(list) == 0)
		}
		cut := []impl.Piece{}
		for _, p := range pieces {
			at := p.From + d.below(p.To-p.From)
			if at > p.From {
				cut = append(cut, piece(p.Job, p.Machine, p.From, at))
			}
			cut = append(cut, piece(p.Job, p.Machine, at, p.To))
		}
		mix(&d, cut)
		looksPiecesOk(t, "cut", list, m, cut, true)
		looksAsCounted(t, list, m, cut)
	}
}

// The same Pieces of another list: a Job more, one less, one that is longer or shorter, or has another Id.
func TestPiecesOfAnotherList(t *testing.T) {
	d := dice(113)
	for _, n := range []int64{1, 2, 5, 12, 39} {
		list := thrownSingles(&d, n, 9)
		for m := int64(1); m <= 10; m++ {
			pieces := impl.Pieces(list, m)
			looksPiecesOk(t, "a Job more", append(slices.Clone(list), asked(900000, 1, 0, 0)), m, pieces, false)
			looksPiecesOk(t, "no Job", nil, m, pieces, false)
			for i := range list {
				less := slices.Delete(slices.Clone(list), i, i+1)
				looksPiecesOk(t, "a Job less", less, m, pieces, false)
				looksPiecesOk(t, "a Job less", less, m, slices.DeleteFunc(slices.Clone(pieces), func(p impl.Piece) bool { return p.Job == list[i].Id }), true)
				for _, by := range []impl.Job{{Long: 1}, {Long: -1}, {Long: 9}, {Id: 1}, {Id: 900000}} {
					other := slices.Clone(list)
					other[i].Long += by.Long
					other[i].Id += by.Id
					looksPiecesOk(t, "another Job", other, m, pieces, false)
				}
			}
			other := slices.Clone(list)
			mix(&d, other)
			looksPiecesOk(t, "the list in another order", other, m, pieces, true)
			looksPiecesOk(t, "Pieces of the list in another order", list, m, impl.Pieces(other, m), true)
		}
	}
}

// All lists of up to two Pieces of a small field, and of three of a smaller one.
func TestPiecesOkOfEveryFew(t *testing.T) {
	times := [][2]int64{{0, 1}, {0, 2}, {1, 2}, {1, 3}, {2, 3}, {1, 1}, {2, 1}, {-1, 0}, {-1, 1}}
	field := func(jobs, from, to int64, times [][2]int64) []impl.Piece {
		out := []impl.Piece{}
		for job := range jobs {
			for machine := from; machine <= to; machine++ {
				for _, t := range times {
					out = append(out, piece(job+1, machine, t[0], t[1]))
				}
			}
		}
		return out
	}
	list, right := long(1, 2), 0
	for n, all := range [][]impl.Piece{nil, field(3, -1, 2, times), field(3, -1, 2, times), field(2, 0, 1, times[:7])} {
		everyGift(n, int64(max(1, len(all))), func(kinds []int64) {
			pieces := []impl.Piece{}
			for _, k := range kinds {
				pieces = append(pieces, all[k])
			}
			looksAsCounted(t, list, 2, pieces)
			if impl.PiecesOk(list, 2, pieces) {
				right++
			}
		})
	}
	if right == 0 {
		t.Error("none of them is right: the test is wrong")
	}
}

// As many Pieces as can be right at all, and one more.
func TestPiecesOkOfTheMostPieces(t *testing.T) {
	d := dice(127)
	list, pieces := alike(40, 10000, 0, 0), []impl.Piece{}
	for k := range int64(40) {
		for time := k / 10 * 10000; time < (k/10+1)*10000; time++ {
			pieces = append(pieces, piece(k+1, k%10, time, time+1))
		}
	}
	mix(&d, pieces)
	if !impl.PiecesOk(list, 10, pieces) || impl.Finish(pieces) != 40000 || impl.Parts(pieces, 40) != 10000 {
		t.Error("400000 Pieces of 1 are refused, or are not what they are")
	}
	if impl.PiecesOk(list, 10, append(slices.Clone(pieces), piece(40, 9, 40000, 40001))) || impl.PiecesOk(list, 10, pieces[1:]) || impl.PiecesOk(list, 9, pieces) {
		t.Error("one more, one less, or a machine less is accepted")
	}
	pieces[0].From, pieces[0].To = pieces[1].From, pieces[1].To
	pieces[0].Machine = pieces[1].Machine
	if impl.PiecesOk(list, 10, pieces) {
		t.Error("two at one time are accepted")
	}
}

func TestFinishTable(t *testing.T) {
	for _, c := range []struct {
		pieces []impl.Piece
		want   int64
	}{
		{nil, 0}, {[]impl.Piece{}, 0}, {[]impl.Piece{{}}, 0}, {[]impl.Piece{piece(1, 0, 0, 5)}, 5},
		{[]impl.Piece{piece(1, 0, 0, 5), piece(2, 1, 0, 7), piece(3, 2, 0, 6)}, 7}, {[]impl.Piece{piece(1, 0, 0, 7), piece(2, 1, 0, 5)}, 7}, {[]impl.Piece{piece(1, 0, 0, 5), piece(2, 1, 0, 7)}, 7},
		// To alone tells it, right or not
		{[]impl.Piece{piece(1, 0, 90, 5), piece(2, 80, 0, 3), piece(70, 0, 0, 4)}, 5}, {[]impl.Piece{piece(1, 0, 3, 3), piece(1, 0, 3, 3)}, 3},
		// the greatest may be below 0
		{[]impl.Piece{piece(1, 0, 0, -5)}, -5}, {[]impl.Piece{piece(1, 0, 0, -5), piece(2, 1, 0, -3), piece(3, 1, 0, -4)}, -3}, {[]impl.Piece{piece(1, 0, 0, -5), {}}, 0},
		{[]impl.Piece{piece(1, 0, 0, math.MinInt64)}, math.MinInt64}, {[]impl.Piece{piece(1, 0, 0, math.MinInt64), piece(1, 0, 0, math.MinInt64+1)}, math.MinInt64 + 1},
		{[]impl.Piece{piece(1, 0, 0, math.MinInt64), piece(1, 0, 0, math.MaxInt64)}, math.MaxInt64}, {[]impl.Piece{piece(1, 0, 0, math.MaxInt64), piece(1, 0, 0, math.MinInt64), piece(1, 0, 0, -1)}, math.MaxInt64},
	} {
		if got := impl.Finish(c.pieces); got != c.want {
			t.Errorf("Finish of %v: %d, not %d", c.pieces, got, c.want)
		}
	}
}

func TestPartsTable(t *testing.T) {
	pieces := []impl.Piece{piece(7, 0, 0, 4), piece(8, 0, 4, 5), piece(8, 1, 0, 2), {}, piece(-1, 8, 8, 8), piece(math.MinInt64, 7, 7, 7), piece(8, -1, 9, 3), piece(math.MaxInt64, 0, 0, 0), piece(math.MaxInt64, 0, 0, 0)}
	for id, want := range map[int64]int64{7: 1, 8: 3, 0: 1, -1: 1, 1: 0, 2: 0, 4: 0, 5: 0, 9: 0, 1000000: 0, math.MinInt64: 1, math.MinInt64 + 1: 0, math.MaxInt64: 2, math.MaxInt64 - 1: 0} {
		if got := impl.Parts(pieces, id); got != want {
			t.Errorf("Parts of %d: %d, not %d", id, got, want)
		}
		if got := impl.Parts(nil, id); got != 0 {
			t.Errorf("Parts of %d in nothing: %d", id, got)
		}
	}
}

func TestSplitsLookAtIdAndLongAlone(t *testing.T) {
	d := dice(131)
	for _, n := range []int64{1, 4, 12} {
		list := thrownSingles(&d, n, 9)
		for m := int64(1); m <= 10; m++ {
			want := impl.Pieces(list, m)
			for _, f := range jobFields() {
				for i := range list {
					for _, k := range []int64{f.least, f.most} {
						other := slices.Clone(list)
						other[i] = with(list[i], f, k)
						if f.name == "Id" || f.name == "Long" {
							continue
						}
						if got := impl.Pieces(other, m); !slices.Equal(got, want) || !impl.PiecesOk(other, m, want) {
							t.Fatalf("%s %d of %v on %d: %v, not %v", f.name, k, list, m, got, want)
						}
					}
				}
			}
		}
	}
}

// Promise 21 for chapter 8: nothing is written into the lists, nor behind them, and Pieces are no part of other Pieces, nor of a list.
func TestSplitsShareNoMemory(t *testing.T) {
	d := dice(137)
	for _, given := range append(append(singleLists(), wrongLists()...), long(4, 3, 3)) {
		for _, m := range []int64{1, 2, 3, 10, 0, 11} {
			list, all := behind(given)
			one, two := impl.Pieces(list, m), impl.Pieces(list, m)
			was := slices.Clone(two)
			for i := range one[:cap(one)] {
				one[:cap(one)][i] = impl.Piece{Job: -77}
			}
			if !slices.Equal(two, was) || !slices.Equal(impl.Pieces(list, m), was) {
				t.Fatalf("of %v on %d: two answers share memory", given, m)
			}
			mix(&d, two)
			pieces, own := roomFor(two, piece(7, 7, 7, 7), impl.Piece{To: -5}, piece(8, 8, 0, 8))
			impl.PiecesOk(list, m, pieces)
			impl.Finish(pieces)
			impl.Parts(pieces, 1)
			if now := pieces[:len(own)]; !slices.Equal(now, own) {
				t.Fatalf("on %d: the Pieces %v became %v", m, own, now)
			}
			if now := list[:len(all)]; !slices.Equal(now, all) {
				t.Fatalf("on %d: the list %v became %v", m, all, now)
			}
			for i := range list {
				list[i] = impl.Job{Id: 5, Long: 5}
			}
			if !slices.Equal(two, own[:len(two)]) {
				t.Fatalf("of %v on %d: a change of the list changes its Pieces", given, m)
			}
		}
	}
}

func TestSplitsAnswerAtEveryArgument(t *testing.T) {
	all := append(wrongJobs(), asked(1, 1, 1, 1), asked(2, 10000, never, 1000), asked(3, 5, 0, 0))
	for _, a := range all {
		for _, b := range all {
			list := []impl.Job{a, b}
			right := impl.JobOk(a) && impl.JobOk(b) && a.Id != b.Id
			for _, m := range append(wrongCounts(), 1, 2, 4, 5, 10) {
				if right && m >= 1 && m <= 10 {
					looksSplit(t, list, m)
				} else {
					looksNoSplit(t, list, m, piece(a.Id, 0, 0, a.Long), piece(b.Id, 1, 0, b.Long))
				}
			}
		}
	}
}

// Pieces of all numbers at their ends, some few right ones among them.
func TestPiecesOkAnswersAtEveryPiece(t *testing.T) {
	d := dice(139)
	ends := []int64{math.MinInt64, math.MinInt64 + 1, math.MinInt64 + 4, -1, 0, 0, 0, 1, 1, 2, 3, 4, 5, 10, 11, math.MaxInt64 - 4, math.MaxInt64 - 1, math.MaxInt64}
	end := func() int64 { return ends[d.below(int64(len(ends)))] }
	for _, a := range ends {
		for _, b := range ends {
			for _, from := range ends {
				for _, to := range ends {
					looksAsCounted(t, long(4), 2, []impl.Piece{piece(a, b, from, to)})
				}
			}
		}
	}
	for range 40000 {
		list, pieces := long(4, 1), []impl.Piece{}
		for range 1 + d.below(4) {
			pieces = append(pieces, piece(1+d.below(2), d.below(2), end(), end()))
		}
		if d.below(4) == 0 {
			pieces[0] = piece(end(), end(), end(), end())
		}
		looksAsCounted(t, list, 2, pieces)
	}
}
