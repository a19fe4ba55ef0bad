package tests

import (
	"fmt"
	"math"
	"slices"
	"testing"

	"loop.example/g00255/impl"
)

func pass(id, first, second int64) impl.Pass {
	return impl.Pass{Id: id, First: first, Second: second}
}

// passes are made of a First and a Second in turn, with Ids from 1 on.
func passes(times ...int64) []impl.Pass {
	list := []impl.Pass{}
	for i := 0; i < len(times); i += 2 {
		list = append(list, pass(int64(i/2+1), times[i], times[i+1]))
	}
	return list
}

func alikePasses(n int, first, second int64) []impl.Pass {
	return passes(slices.Repeat([]int64{first, second}, n)...)
}

func passFields() []fieldOf[impl.Pass] {
	return []fieldOf[impl.Pass]{
		{"Id", 1, 1000000, func(p *impl.Pass) *int64 { return &p.Id }},
		{"First", 0, 10000, func(p *impl.Pass) *int64 { return &p.First }},
		{"Second", 0, 10000, func(p *impl.Pass) *int64 { return &p.Second }},
	}
}

func wrongPasses() []impl.Pass {
	out := []impl.Pass{{}, {First: 5, Second: 2}}
	for _, ends := range []int64{math.MinInt64, math.MaxInt64, -1} {
		out = append(out, pass(ends, ends, ends))
	}
	return append(out, spoilt(pass(3, 2, 5), passFields())...)
}

func mix[T any](d *dice, list []T) {
	for i := range list {
		k := d.below(int64(i) + 1)
		list[i], list[k] = list[k], list[i]
	}
}

// thrownPasses are n right ones of so many kinds at most, their Ids in no order; some have alike numbers, or none.
func thrownPasses(d *dice, n, kinds, most int64) []impl.Pass {
	times := [][2]int64{}
	for range kinds {
		one, two := d.below(most+1), d.below(most+1)
		switch d.below(8) {
		case 0:
			two = one
		case 1:
			one = 0
		case 2:
			two = 0
		}
		times = append(times, [2]int64{one, two})
	}
	list := []impl.Pass{}
	for id := range n {
		kind := times[d.below(kinds)]
		list = append(list, pass(id*7+1, kind[0], kind[1]))
	}
	mix(d, list)
	return list
}

func shopLists() [][]impl.Pass {
	d := dice(73)
	out := [][]impl.Pass{nil, {}, passes(0, 0), passes(0, 7), passes(7, 0), passes(7, 7), {pass(1000000, 10000, 10000)},
		passes(5, 2, 1, 6, 9, 7), alikePasses(40, 10000, 10000), alikePasses(40, 0, 0), alikePasses(39, 3, 1), alikePasses(40, 1, 3)}
	for _, n := range []int64{1, 2, 3, 4, 7, 12, 13, 39, 40} {
		for _, most := range []int64{1, 2, 9, 10000} {
			out = append(out, thrownPasses(&d, n, 1, most), thrownPasses(&d, n, 4, most), thrownPasses(&d, n, 40, most))
		}
	}
	return out
}

func wrongShops() [][]impl.Pass {
	d := dice(79)
	a, b := pass(1, 4, 2), pass(2, 2, 4)
	out := [][]impl.Pass{{a, a}, {a, pass(1, 9, 9)}, {pass(1, 0, 0), pass(1, 0, 0)}, {a, b, a}, {b, a, a}, {a, a, b}}
	for _, n := range []int64{41, 42, 80, 400} {
		out = append(out, thrownPasses(&d, n, 40, 9), alikePasses(int(n), 0, 0))
	}
	for i := range 6 {
		for k := range i {
			list := thrownPasses(&d, 6, 6, 9)
			list[i].Id = list[k].Id
			out = append(out, list)
		}
	}
	for _, p := range wrongPasses() {
		out = append(out, []impl.Pass{p}, []impl.Pass{p, a, b}, []impl.Pass{a, p, b}, []impl.Pass{a, b, p}, []impl.Pass{p, p},
			append(thrownPasses(&d, 39, 39, 9), p))
	}
	return append(out, slices.Repeat([]impl.Pass{a}, 40), slices.Repeat([]impl.Pass{{}}, 41))
}

// countThrough goes by the longest way: First of all up to some Pass, Second of all from it on.
func countThrough(list []impl.Pass) int64 {
	most := int64(0)
	for turn := range list {
		way := int64(0)
		for i, p := range list {
			if i <= turn {
				way += p.First
			}
			if i >= turn {
				way += p.Second
			}
		}
		most = max(most, way)
	}
	return most
}

// countIdle sums up the times at which the second machine waits for the first.
func countIdle(list []impl.Pass) int64 {
	idle, first, second := int64(0), int64(0), int64(0)
	for _, p := range list {
		first += p.First
		if first > second {
			idle += first - second
			second = first
		}
		second += p.Second
	}
	return idle
}

func johnsonAhead(a, b impl.Pass) bool {
	one, two := a.First < a.Second, b.First < b.Second
	switch {
	case one != two:
		return one
	case one && a.First != b.First:
		return a.First < b.First
	case !one && a.Second != b.Second:
		return a.Second > b.Second
	}
	return a.Id < b.Id
}

// leastOfEveryPass goes through all orders.
func leastOfEveryPass(list []impl.Pass) int64 {
	least := int64(math.MaxInt64)
	everyOrder(list, func(o []impl.Pass) { least = min(least, countThrough(o)) })
	return least
}

// leastOfManyPasses goes by how many of each kind are done: whatever their order, First of all is then done at one time, and
// the sooner the second machine is, the better.
func leastOfManyPasses(list []impl.Pass) int64 {
	kinds, counts, all := []impl.Pass{}, []int{}, 1
	for _, p := range list {
		p.Id = 0
		i := slices.Index(kinds, p)
		if i < 0 {
			i, kinds, counts = len(kinds), append(kinds, p), append(counts, 0)
		}
		counts[i]++
	}
	for _, n := range counts {
		all *= n + 1
	}
	first, second := make([]int64, all), make([]int64, all)
	for s := 1; s < all; s++ {
		second[s] = math.MaxInt64
		step := 1
		for i, p := range kinds {
			if s/step%(counts[i]+1) > 0 {
				first[s] = first[s-step] + p.First
				second[s] = min(second[s], max(first[s], second[s-step])+p.Second)
			}
			step *= counts[i] + 1
		}
	}
	return second[all-1]
}

// turnedAbout is the list in the other order, with both machines changed.
func turnedAbout(list []impl.Pass) []impl.Pass {
	out := []impl.Pass{}
	for _, p := range slices.Backward(list) {
		out = append(out, pass(p.Id, p.Second, p.First))
	}
	return out
}

// looksThrough holds all that is told of a right list against the chapter's words told anew.
func looksThrough(t *testing.T, list []impl.Pass) {
	t.Helper()
	through, idle, sum := impl.Through(list), impl.Idle(list), int64(0)
	for _, p := range list {
		sum += p.Second
	}
	if !impl.PassesOk(list) || through != countThrough(list) || idle != countIdle(list) || idle != through-sum {
		t.Fatalf("of %v: %v, Through %d, Idle %d, not %d and %d", list, impl.PassesOk(list), through, idle, countThrough(list), countIdle(list))
	}
	if got, want := impl.Johnson(list), counted(johnsonAhead)(list); !slices.Equal(got, want) {
		t.Fatalf("Johnson of %v:\n%v, not\n%v", list, got, want)
	}
	if other := impl.Through(turnedAbout(list)); other != through {
		t.Fatalf("Through of %v is %d, and turned about %d", list, through, other)
	}
}

// looksSoonest looks that Johnson's order, and that of the list turned about, is Through when it can be at the soonest.
func looksSoonest(t *testing.T, list []impl.Pass, least int64) {
	t.Helper()
	johnson, other := impl.Johnson(list), impl.Johnson(turnedAbout(list))
	if len(johnson) != len(list) || impl.Through(johnson) != least {
		t.Fatalf("of %v: %v is Through at %d, but there is an order with %d", list, johnson, impl.Through(johnson), least)
	}
	if len(other) != len(list) || impl.Through(other) != least {
		t.Fatalf("of %v turned about: %v is Through at %d, but there is an order with %d", list, other, impl.Through(other), least)
	}
	looksThrough(t, johnson)
}

// looksNoPasses looks for what is answered where a list is not PassesOk.
func looksNoPasses(t *testing.T, list []impl.Pass) {
	t.Helper()
	if ok, through, johnson, idle := impl.PassesOk(list), impl.Through(list), impl.Johnson(list), impl.Idle(list); ok || through != -1 || len(johnson) != 0 || idle != -1 {
		t.Fatalf("of %v: %v, Through %d, Johnson %v, Idle %d", list, ok, through, johnson, idle)
	}
}

func TestPassesOk(t *testing.T) {
	for _, list := range shopLists() {
		if !impl.PassesOk(list) {
			t.Errorf("%v are refused", list)
		}
	}
	for _, list := range wrongShops() {
		if impl.PassesOk(list) {
			t.Errorf("%v are accepted", list)
		}
	}
	for _, f := range passFields() {
		for _, n := range []int64{f.least, f.least + 1, f.most - 1, f.most} {
			if p := with(pass(3, 2, 5), f, n); !impl.PassesOk([]impl.Pass{p}) {
				t.Errorf("%s %d is refused: %v", f.name, n, p)
			}
		}
	}
	if !impl.PassesOk([]impl.Pass{pass(1, 4, 4), pass(2, 4, 4), pass(1000000, 4, 4)}) {
		t.Error("Passes may be alike but for their Ids")
	}
	if !impl.PassesOk([]impl.Pass{{Id: 1}, {Id: 1000000, First: 10000, Second: 10000}}) {
		t.Error("all fields at their ends are refused")
	}
}

func TestThroughTable(t *testing.T) {
	for _, c := range []struct {
		list          []impl.Pass
		through, idle int64
	}{
		{nil, 0, 0}, {[]impl.Pass{}, 0, 0},
		{passes(0, 0), 0, 0}, {passes(5, 0), 5, 5}, {passes(0, 5), 5, 0}, {passes(5, 2), 7, 5}, {passes(10000, 10000), 20000, 10000},
		{passes(5, 2, 1, 6, 9, 7), 22, 7}, {passes(1, 6, 9, 7, 5, 2), 19, 4}, {passes(9, 7, 5, 2, 1, 6), 24, 9},
		// the second machine waits for the first, or is not yet done, or just done
		{passes(1, 1, 5, 1), 7, 5}, {passes(1, 5, 1, 1), 7, 1},
		{passes(2, 3, 2, 1), 6, 2}, {passes(2, 3, 3, 1), 6, 2}, {passes(2, 3, 4, 1), 7, 3},
		{passes(1, 1, 1, 9, 1, 1, 9, 1), 13, 1}, {passes(1, 1, 2, 1, 3, 1, 4, 1), 11, 7}, {passes(4, 4, 3, 3, 2, 2, 1, 1), 14, 4},
		// nothing to do on the one or on the other
		{passes(2, 3, 9, 0), 11, 8}, {passes(2, 9, 1, 0), 11, 2}, {passes(9, 0, 2, 3), 14, 11}, {passes(1, 0, 2, 9), 12, 3},
		{passes(0, 4, 0, 3), 7, 0}, {passes(0, 0, 0, 0), 0, 0}, {passes(0, 0, 3, 1), 4, 3}, {passes(0, 4, 9, 0, 0, 1), 10, 5}, {passes(3, 0, 4, 0), 7, 7},
		{passes(0, 3, 3, 0), 3, 0}, {passes(3, 0, 0, 3), 6, 3}, {passes(0, 10000, 10000, 0), 10000, 0}, {passes(10000, 0, 0, 10000), 20000, 10000},
		// as many as may be
		{alikePasses(40, 1, 1), 41, 1}, {alikePasses(40, 0, 10000), 400000, 0}, {alikePasses(40, 10000, 0), 400000, 400000},
		{alikePasses(40, 10000, 10000), 410000, 10000}, {alikePasses(40, 10000, 9999), 409999, 10039}, {alikePasses(40, 9999, 10000), 409999, 9999},
		{alikePasses(40, 0, 0), 0, 0},
	} {
		if through, idle := impl.Through(c.list), impl.Idle(c.list); through != c.through || idle != c.idle {
			t.Errorf("of %v: Through %d, Idle %d, not %d and %d", c.list, through, idle, c.through, c.idle)
		}
		looksThrough(t, c.list)
	}
}

func TestJohnsonTable(t *testing.T) {
	for _, c := range []struct {
		what string
		list []impl.Pass
		want []int64
	}{
		{"none", nil, nil}, {"one", passes(0, 0), []int64{1}}, {"one that rises", passes(2, 3), []int64{1}},
		{"both halves", passes(5, 2, 1, 6, 9, 7), []int64{2, 3, 1}},
		{"those that rise", passes(4, 9, 2, 3, 3, 100, 1, 10), []int64{4, 2, 3, 1}},
		{"those that fall", passes(9, 4, 3, 2, 100, 3, 10, 1), []int64{1, 3, 2, 4}},
		{"First alike goes by Id, whatever Second is", []impl.Pass{pass(9, 4, 5), pass(10, 4, 9), pass(2, 4, 7), pass(100, 4, 6)}, []int64{2, 9, 10, 100}},
		{"Second alike goes by Id, whatever First is", []impl.Pass{pass(9, 5, 4), pass(10, 9, 4), pass(2, 7, 4), pass(100, 4, 4)}, []int64{2, 9, 10, 100}},
		{"all alike, and they rise", []impl.Pass{pass(9, 4, 5), pass(10, 4, 5), pass(2, 4, 5)}, []int64{2, 9, 10}},
		{"all alike, and they fall", []impl.Pass{pass(9, 5, 4), pass(10, 5, 4), pass(2, 5, 4)}, []int64{2, 9, 10}},
		{"all alike, First and Second too", []impl.Pass{pass(9, 4, 4), pass(10, 4, 4), pass(2, 4, 4)}, []int64{2, 9, 10}},
		{"First and Second alike is no rise", passes(3, 3, 4, 5), []int64{2, 1}},
		{"First and Second alike by Second", passes(1, 1, 2, 3, 0, 0, 4, 4), []int64{2, 4, 1, 3}},
		{"by one", passes(5, 5, 6, 5, 6, 6, 5, 6), []int64{4, 3, 1, 2}},
		{"Second of those that rise tells nothing", passes(3, 4, 2, 9000, 1, 2), []int64{3, 2, 1}},
		{"First of those that fall tells nothing", passes(9000, 3, 5, 4, 7, 5), []int64{3, 2, 1}},
		{"of no length", passes(1, 0, 0, 0, 0, 1, 1, 1, 2, 0), []int64{3, 4, 1, 2, 5}},
		{"the ends", passes(10000, 10000, 0, 10000, 10000, 0, 0, 0, 9999, 10000, 10000, 9999), []int64{2, 5, 1, 6, 3, 4}},
		{"some alike in each half", []impl.Pass{pass(8, 2, 3), pass(7, 3, 2), pass(6, 1, 3), pass(5, 3, 1), pass(4, 2, 9), pass(3, 9, 2), pass(1000000, 1, 2), pass(1, 1, 1)},
			[]int64{6, 1000000, 4, 8, 3, 7, 1, 5}},
	} {
		got := []int64{}
		for _, p := range impl.Johnson(c.list) {
			got = append(got, p.Id)
		}
		if !slices.Equal(got, c.want) {
			t.Errorf("%s: %v, not %v", c.what, got, c.want)
		}
		looksThrough(t, c.list)
		looksSoonest(t, c.list, leastOfManyPasses(c.list))
	}
}

// Each list of up to three Passes with both from 0 to 3, and of four with both from 0 to 2, against all its orders.
func TestNoOrderOfEveryFewPassesIsSooner(t *testing.T) {
	for n, times := range []int64{1, 4, 4, 4, 3} {
		everyGift(n, times*times, func(kinds []int64) {
			list := []impl.Pass{}
			for i, kind := range kinds {
				list = append(list, pass([]int64{3, 1, 4, 2}[i], kind%times, kind/times))
			}
			looksThrough(t, list)
			looksSoonest(t, list, leastOfEveryPass(list))
		})
	}
}

func TestNoOrderOfSomeFewPassesIsSooner(t *testing.T) {
	d := dice(83)
	for n := int64(1); n <= 7; n++ {
		for _, most := range []int64{2, 5, 30, 10000} {
			for range 8 {
				list := thrownPasses(&d, n, n+2, most)
				least := leastOfEveryPass(list)
				looksThrough(t, list)
				looksSoonest(t, list, least)
				if many := leastOfManyPasses(list); many != least {
					t.Fatalf("of %v: %d, but there are %d; the test is wrong", list, many, least)
				}
			}
		}
	}
}

// What is told of any order, not of Johnson's alone.
func TestThroughOfEveryOrder(t *testing.T) {
	d := dice(89)
	for _, n := range []int64{4, 6} {
		for range 6 {
			list := thrownPasses(&d, n, n, 9)
			least := impl.Through(impl.Johnson(list))
			everyOrder(list, func(o []impl.Pass) {
				if through := impl.Through(o); through < least || through != countThrough(o) || through != impl.Through(turnedAbout(o)) || impl.Idle(o) != countIdle(o) {
					t.Fatalf("of %v: Through %d, turned about %d, Idle %d; Johnson's is %d", o, through, impl.Through(turnedAbout(o)), impl.Idle(o), least)
				}
			})
		}
	}
}

func TestNoOrderOfManyPassesIsSooner(t *testing.T) {
	d := dice(97)
	for _, most := range []int64{1, 2, 9, 10000} {
		for range 5 {
			for _, n := range []int64{8, 12} {
				list := thrownPasses(&d, n, 40, most)
				looksThrough(t, list)
				looksSoonest(t, list, leastOfManyPasses(list))
			}
			for _, n := range []int64{13, 25, 39, 40} {
				list := thrownPasses(&d, n, 4, most)
				looksThrough(t, list)
				looksSoonest(t, list, leastOfManyPasses(list))
			}
		}
	}
}

// Where the orders are too many, none that comes of a change of two Passes is sooner.
func TestNoChangeOfTwoIsSooner(t *testing.T) {
	for _, list := range shopLists() {
		looksThrough(t, list)
		own := impl.Johnson(list)
		least := impl.Through(own)
		for i := range own {
			for k := range i {
				own[i], own[k] = own[k], own[i]
				if got := impl.Through(own); got < least {
					t.Fatalf("Johnson of %v is Through at %d, but with %d and %d changed at %d", list, least, k, i, got)
				}
				own[i], own[k] = own[k], own[i]
			}
		}
	}
}

func TestJohnsonDoesNotHangOnTheOrderOfTheList(t *testing.T) {
	d := dice(101)
	for _, list := range shopLists() {
		want := impl.Johnson(list)
		for range 3 {
			other := slices.Clone(list)
			mix(&d, other)
			if got := impl.Johnson(other); !slices.Equal(got, want) {
				t.Fatalf("Johnson of %v: %v, but in another order %v", list, want, got)
			}
		}
		if again := impl.Johnson(want); !slices.Equal(again, want) {
			t.Fatalf("Johnson of %v: %v, not as it was", want, again)
		}
	}
}

// Who it is matters for nothing but who of alike ones is first.
func TestThroughLooksAtNoId(t *testing.T) {
	for _, list := range shopLists() {
		other := slices.Clone(list)
		for i := range other {
			other[i].Id = int64(1000000 - i)
		}
		if impl.Through(other) != impl.Through(list) || impl.Idle(other) != impl.Idle(list) {
			t.Fatalf("of %v: %d and %d, not %d and %d", other, impl.Through(other), impl.Idle(other), impl.Through(list), impl.Idle(list))
		}
	}
}

func TestWrongPassesHaveNoAnswer(t *testing.T) {
	for _, list := range wrongShops() {
		looksNoPasses(t, list)
	}
	for i := range 4 {
		for _, p := range wrongPasses() {
			list := passes(5, 2, 1, 6, 9, 7, 0, 4)
			list[i] = p
			if p.Id == 3 && i != 2 {
				list[2].Id = 9
			}
			looksNoPasses(t, list)
		}
	}
}

// Promise 21 for chapter 7: nothing is written into the list, nor behind it, and Johnson's order is no part of it, nor of another.
func TestPassesShareNoMemory(t *testing.T) {
	for _, given := range append(shopLists(), wrongShops()...) {
		list, all := roomFor(given, pass(7, 7, 7), impl.Pass{Id: -5}, pass(8, 0, 8))
		one, two := impl.Johnson(list), impl.Johnson(list)
		was := slices.Clone(two)
		for i := range one[:cap(one)] {
			one[:cap(one)][i] = impl.Pass{Id: -77}
		}
		if !slices.Equal(two, was) || !slices.Equal(impl.Johnson(list), was) {
			t.Fatalf("Johnson of %v: two answers share memory", given)
		}
		impl.PassesOk(list)
		impl.Through(list)
		impl.Idle(list)
		if now := list[:len(all)]; !slices.Equal(now, all) {
			t.Fatalf("the list %v became %v", all, now)
		}
		for i := range list {
			list[i] = impl.Pass{Id: 5, First: 5}
		}
		if !slices.Equal(two, was) {
			t.Fatalf("Johnson of %v: a change of the list changes the answer", given)
		}
	}
}

func TestPassesAnswerAtEveryArgument(t *testing.T) {
	wrong := wrongPasses()
	all := append(slices.Clone(wrong), pass(1, 0, 10000), pass(1000000, 10000, 0), pass(3, 5, 5), pass(3, 0, 0))
	for _, a := range all {
		for _, b := range all {
			list := []impl.Pass{a, b}
			if slices.Contains(wrong, a) || slices.Contains(wrong, b) || a.Id == b.Id {
				looksNoPasses(t, list)
				continue
			}
			looksThrough(t, list)
		}
	}
	ends := []int64{math.MinInt64, math.MinInt64 + 1, -1, 0, 1, 10000, 10001, 1000000, 1000001, math.MaxInt64 - 1, math.MaxInt64}
	for _, id := range ends {
		for _, one := range ends {
			for _, two := range ends {
				list := []impl.Pass{pass(id, one, two)}
				if id < 1 || id > 1000000 || min(one, two) < 0 || max(one, two) > 10000 {
					looksNoPasses(t, list)
					looksNoPasses(t, slices.Repeat(list, 40))
				} else if got := fmt.Sprint(impl.Through(list), impl.Johnson(list), impl.Idle(list)); got != fmt.Sprint(one+two, list, one) {
					t.Fatalf("of %v: %s", list, got)
				}
			}
		}
	}
}
