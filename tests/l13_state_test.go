package tests

import (
	"maps"
	"math"
	"reflect"
	"slices"
	"testing"

	"loop.example/g00255/impl"
)

const maxId = 1000000

// waiter is a Job as a State has it.
func waiter(id, cores, long, rank, at int64) impl.Job {
	return impl.Job{Id: id, Cores: cores, Long: long, Due: never, Rank: rank, At: at}
}

func entry(j impl.Job, phase, start, epoch int64, parts ...impl.Part) impl.Entry {
	return impl.Entry{Job: j, Phase: phase, Start: start, Epoch: epoch, Parts: parts}
}

func stateOf(now int64, nodes []impl.Node, next, epochs int64, entries ...impl.Entry) impl.State {
	return impl.State{Now: now, Nodes: nodes, Entries: entries, Next: next, Epochs: epochs}
}

// mixedState has all Phases, and Nodes in all States.
func mixedState() impl.State {
	return stateOf(20, []impl.Node{node(4, 1), node(4, 2), node(9, 3), node(3, 1)}, 12, 8,
		entry(waiter(1, 4, 7, 0, 0), 3, 3, 1), entry(waiter(2, 3, 100, 9, 2), 2, 5, 2, part(0, 2), part(1, 1)),
		entry(waiter(4, 1000, 10000, 9, 20), 1, 0, 0), entry(waiter(5, 4, 7, 3, 6), 4, 0, 0), entry(waiter(6, 6, 9, 3, 11), 2, 20, 5, part(0, 1), part(1, 3), part(3, 2)),
		entry(waiter(7, 2, 3, 1, 4), 5, 12, 4), entry(waiter(9, 2, 5, 2, 15), 1, 0, 0), entry(waiter(11, 1, 1, 0, 20), 4, 20, 8))
}

// ownState is s in memory of its own; what is empty is nil.
func ownState(s impl.State) impl.State {
	s.Nodes = append([]impl.Node(nil), s.Nodes...)
	s.Entries = append([]impl.Entry(nil), s.Entries...)
	for i, e := range s.Entries {
		s.Entries[i].Parts = append([]impl.Part(nil), e.Parts...)
	}
	return s
}

func sameState(a, b impl.State) bool {
	return reflect.DeepEqual(ownState(a), ownState(b))
}

func runsNow(s impl.State) []impl.Entry {
	return slices.DeleteFunc(slices.Clone(s.Entries), func(e impl.Entry) bool { return e.Phase != 2 })
}

// countRunOk takes the cores of e's Parts from those that are left of each Node.
func countRunOk(s impl.State, e impl.Entry, left []int64) bool {
	want, last := e.Job.Cores, int64(-1)
	for _, p := range e.Parts {
		if p.Node <= last || p.Node >= int64(len(left)) || s.Nodes[p.Node].State == 3 || p.Cores < 1 || p.Cores > left[p.Node] {
			return false
		}
		last = p.Node
		left[last] -= p.Cores
		want -= p.Cores
	}
	return want == 0
}

// countStateOk goes through the chapter's paragraph, Entry by Entry.
func countStateOk(s impl.State) bool {
	if s.Now < 0 || s.Now >= never || !impl.NodesOk(s.Nodes) || len(s.Entries) > 40 || s.Next < 1 || s.Next > maxId || s.Epochs < 0 || s.Epochs > maxId {
		return false
	}
	left, epochs, last := []int64{}, map[int64]bool{}, int64(0)
	for _, n := range s.Nodes {
		left = append(left, n.Cores)
	}
	for _, e := range s.Entries {
		j := e.Job
		if !impl.JobOk(j) || j.Id <= last || j.Id >= s.Next || j.At > s.Now || j.Weight != 0 || j.Due != never || e.Epoch > s.Epochs {
			return false
		}
		last = j.Id
		if e.Phase < 1 || e.Phase > 5 || e.Phase != 2 && len(e.Parts) > 0 || e.Phase != 1 && (e.Start > s.Now || e.Start < 0 || e.Epoch < 0) {
			return false
		}
		if e.Phase == 1 && (e.Start != 0 || e.Epoch != 0) || e.Phase == 2 && (e.Epoch < 1 || epochs[e.Epoch] || !countRunOk(s, e, left)) {
			return false
		}
		epochs[e.Epoch] = epochs[e.Epoch] || e.Phase == 2
	}
	return true
}

// untoldBelow0 is where the chapter does not say in so many words whether a number may be below 0.
func untoldBelow0(s impl.State) bool {
	return slices.ContainsFunc(s.Entries, func(e impl.Entry) bool {
		return e.Phase > 1 && e.Phase < 6 && e.Start < 0 || e.Phase > 2 && e.Phase < 6 && e.Epoch < 0
	})
}

func countInUse(s impl.State) []int64 {
	out := make([]int64, len(s.Nodes))
	for k := range out {
		for _, e := range runsNow(s) {
			for _, p := range e.Parts {
				if p.Node == int64(k) {
					out[k] += p.Cores
				}
			}
		}
	}
	return out
}

// endOf is when e is over; it may be above Never.
func endOf(e impl.Entry) int64 {
	return e.Start + e.Job.Long
}

// countOutlook asks at each time at which something ends who still runs then.
func countOutlook(s impl.State) impl.Profile {
	ends, total := []int64{0}, int64(0)
	for _, e := range runsNow(s) {
		ends = append(ends, max(0, endOf(e)-s.Now))
	}
	for _, n := range s.Nodes {
		if n.State == 1 {
			total += n.Cores
		}
	}
	slices.Sort(ends)
	out := impl.Profile{Total: total}
	for _, t := range ends {
		free := total
		for _, e := range runsNow(s) {
			for _, p := range e.Parts {
				if s.Nodes[p.Node].State == 1 && endOf(e) > s.Now+t {
					free -= p.Cores
				}
			}
		}
		if n := len(out.Levels); n == 0 || out.Levels[n-1].Free != free {
			out.Levels = append(out.Levels, at(t, free))
		}
	}
	return out
}

func countWaits(s impl.State) []impl.Job {
	out := []impl.Job{}
	for _, e := range s.Entries {
		if e.Phase == 1 {
			out = append(out, e.Job)
		}
	}
	return counted(first)(out)
}

// countAsked does what the chapter tells of each Kind, ahead of scheduling.
func countAsked(s *impl.State, c impl.Command) int64 {
	_, is := countShown(c)
	many := int64(0)
	if !is || c.Kind > 3 && c.Kind < 7 && c.A >= int64(len(s.Nodes)) || c.Kind == 3 && (c.A < s.Now || c.A >= never) || c.Kind == 1 && (len(s.Entries) >= 40 || s.Next >= maxId) {
		return -1
	}
	if c.Kind == 1 {
		s.Entries = append(s.Entries, entry(waiter(s.Next, c.A, c.B, c.C, s.Now), 1, 0, 0))
		s.Next++
		return s.Next - 1
	}
	if c.Kind == 3 {
		s.Now = c.A
	}
	if c.Kind > 3 && c.Kind < 7 {
		s.Nodes[c.A].State = map[int64]int64{4: 2, 5: 1, 6: 3}[c.Kind]
	}
	for i := range s.Entries {
		e := &s.Entries[i]
		there := slices.ContainsFunc(e.Parts, func(p impl.Part) bool { return p.Node == c.A })
		switch {
		case c.Kind == 2 && e.Job.Id == c.A && e.Phase < 3:
			*e = entry(e.Job, 4, e.Start, e.Epoch)
			return min(e.Epoch, 1)
		case c.Kind == 3 && e.Phase == 2 && e.Start+e.Job.Long <= s.Now:
			*e = entry(e.Job, 5, e.Start, e.Epoch)
			many++
		case c.Kind == 6 && there:
			*e = entry(e.Job, 1, 0, 0)
			many++
		case c.Kind == 7 && e.Phase == 2 && e.Job.Id == c.A && e.Epoch == c.B:
			*e = entry(e.Job, 3, e.Start, e.Epoch)
			return s.Now - e.Start
		}
	}
	if c.Kind == 2 || c.Kind == 7 {
		return -1
	}
	return many
}

func countScheduled(s *impl.State) {
	waits := countWaits(*s)
	for i, start := range countPlan(countOutlook(*s), waits, 0, false) {
		if start != 0 || s.Epochs >= maxId {
			continue
		}
		parts, is := countPicked(s.Nodes, countInUse(*s), waits[i].Cores)
		for k, e := range s.Entries {
			if is && e.Job.Id == waits[i].Id {
				s.Epochs++
				s.Entries[k] = entry(e.Job, 2, s.Now, s.Epochs, parts...)
			}
		}
	}
}

func countApplied(s impl.State, c impl.Command) (impl.State, int64) {
	own := ownState(s)
	answer := countAsked(&own, c)
	if answer >= 0 {
		countScheduled(&own)
	}
	return own, answer
}

// looksState holds all that is told of a right State against what is counted.
func looksState(t *testing.T, s impl.State) {
	t.Helper()
	if !impl.StateOk(s) {
		t.Fatalf("%v is not right", s)
	}
	if got, want := impl.InUse(s), countInUse(s); !slices.Equal(got, want) {
		t.Fatalf("InUse of %v: %v, not %v", s, got, want)
	}
	if got, is := impl.Outlook(s); !is || !same(got, countOutlook(s)) {
		t.Fatalf("Outlook of %v: %v, %v, not %v", s, got, is, countOutlook(s))
	}
	if got, want := impl.Waits(s), countWaits(s); !slices.Equal(got, want) {
		t.Fatalf("Waits of %v: %v, not %v", s, got, want)
	}
	ids, phases := []int64{math.MinInt64, -1, 0, s.Next, s.Next + 1, maxId, math.MaxInt64}, map[int64]int64{}
	for _, e := range s.Entries {
		ids = append(ids, e.Job.Id-1, e.Job.Id, e.Job.Id+1)
		phases[e.Job.Id] = e.Phase
	}
	for _, id := range ids {
		if got := impl.PhaseOf(s, id); got != phases[id] {
			t.Fatalf("PhaseOf %d in %v: %d, not %d", id, s, got, phases[id])
		}
	}
}

// looksNoState looks for what is answered of a State that is not right.
func looksNoState(t *testing.T, what string, s impl.State) {
	t.Helper()
	was := ownState(s)
	if impl.StateOk(s) {
		t.Fatalf("%s: %v is right", what, s)
	}
	p, is := impl.Outlook(s)
	if used, waits := impl.InUse(s), impl.Waits(s); len(used) > 0 || len(waits) > 0 || is || !same(p, impl.Profile{}) {
		t.Fatalf("%s: of %v: %v are InUse, Outlook %v, %v, Waits %v", what, s, used, p, is, waits)
	}
	for _, id := range []int64{math.MinInt64, -1, 0, 1, 2, 4, 5, 6, 7, 9, 11, maxId, math.MaxInt64} {
		if got := impl.PhaseOf(s, id); got != 0 {
			t.Fatalf("%s: PhaseOf %d in %v: %d", what, id, s, got)
		}
	}
	for _, c := range []impl.Command{command(1, 1, 1, 0), command(2, 2, 0, 0), command(2, 9, 0, 0), command(3, s.Now, 0, 0), command(3, never-1, 0, 0), command(4, 0, 0, 0), command(5, 0, 0, 0), command(6, 0, 0, 0), command(7, 2, 2, 0), command(7, 6, 5, 0), {}} {
		if got, n := impl.Applied(s, c); n != -1 || !sameState(got, impl.State{}) {
			t.Fatalf("%s: Applied %v to %v: %v, %d", what, c, s, got, n)
		}
	}
	if !sameState(s, was) {
		t.Fatalf("%s: %v became %v", what, was, s)
	}
}

// waitsInVain tells whether somebody waits who is planned for now and could be run. Where there is no Epoch left nobody could.
func waitsInVain(s impl.State) bool {
	if s.Epochs == maxId {
		return false
	}
	p, is := impl.Outlook(s)
	waits := impl.Waits(s)
	for i, start := range impl.Planned(p, waits, 0) {
		if _, can := impl.Picked(s.Nodes, impl.InUse(s), waits[i].Cores); is && start == 0 && can {
			return true
		}
	}
	return false
}

// looksRun looks at who was run: each Epoch is the next one, and was nobody's.
func looksRun(t *testing.T, s, next impl.State) {
	t.Helper()
	was, given := map[int64]int64{}, []int64{}
	for _, e := range runsNow(s) {
		was[e.Job.Id] = e.Epoch
	}
	for _, e := range runsNow(next) {
		if was[e.Job.Id] != e.Epoch {
			given = append(given, e.Epoch)
			if e.Start != next.Now {
				t.Fatalf("%v is run at %d", e, next.Now)
			}
		}
	}
	slices.Sort(given)
	if int64(len(given)) != next.Epochs-s.Epochs || len(given) > 0 && (given[0] != s.Epochs+1 || given[len(given)-1] != next.Epochs) {
		t.Fatalf("Epochs %d became %d, given are %v", s.Epochs, next.Epochs, given)
	}
}

// looksUndisturbed looks whether each that ran runs as it did.
func looksUndisturbed(t *testing.T, s, next impl.State) {
	t.Helper()
	for i, e := range s.Entries {
		if e.Phase == 2 && !reflect.DeepEqual(e, next.Entries[i]) {
			t.Fatalf("%v became %v", e, next.Entries[i])
		}
	}
}

// looksApplied is promise 13 for one Command, and all that is told of it.
func looksApplied(t *testing.T, s impl.State, c impl.Command) (impl.State, int64) {
	t.Helper()
	was := ownState(s)
	next, answer := impl.Applied(s, c)
	want, n := countApplied(s, c)
	if answer != n || !sameState(next, want) {
		t.Fatalf("%v applied to\n%v:\n%v, %d, not\n%v, %d", c, s, next, answer, want, n)
	}
	if !sameState(s, was) || answer == -1 && !sameState(next, was) || answer < -1 {
		t.Fatalf("%v applied to\n%v:\n%v, %d", c, was, next, answer)
	}
	if !impl.StateOk(next) || !countStateOk(next) {
		t.Fatalf("%v applied to\n%v:\n%v is not right", c, s, next)
	}
	if answer >= 0 && waitsInVain(next) {
		t.Fatalf("%v applied to\n%v: somebody waits in vain in\n%v", c, s, next)
	}
	looksRun(t, s, next)
	return next, answer
}

// looksAppliedFrom is looksApplied for a State that came of a new one, in which nobody runs any more who is over.
func looksAppliedFrom(t *testing.T, s impl.State, c impl.Command) impl.State {
	t.Helper()
	next, answer := looksApplied(t, s, c)
	if c.Kind == 1 || c.Kind == 2 && answer == 0 || c.Kind == 3 && c.A == s.Now || c.Kind == 4 || c.Kind == 5 || answer < 0 {
		looksUndisturbed(t, s, next)
	}
	return next
}

// thrownCommand is mostly one that can be done in s; one in ten is not right.
func thrownCommand(d *dice, s impl.State, wrong []impl.Command) impl.Command {
	id, epoch := 1+d.below(s.Next+1), 1+d.below(s.Epochs+1)
	if runs := runsNow(s); len(runs) > 0 && d.below(4) > 0 {
		e := runs[d.below(int64(len(runs)))]
		id, epoch = e.Job.Id, e.Epoch-max(0, d.below(4)-2)
	}
	nodes := int64(len(s.Nodes))
	switch d.below(20) {
	case 0, 1, 2, 3, 4, 5:
		total := int64(0)
		for _, n := range s.Nodes {
			total += n.Cores
		}
		return command(1, 1+d.below(1+d.below(total+1)), 1+d.below(1+d.below(20)), d.below(3))
	case 6, 7:
		return command(2, id, 0, 0)
	case 8, 9, 10:
		return command(3, max(0, s.Now-1+d.below(5)), 0, 0)
	case 11, 12, 13, 14, 15:
		return command([]int64{4, 5, 5, 6}[d.below(4)], min(7, d.below(nodes+1)), 0, 0)
	case 16, 17:
		return wrong[d.below(int64(len(wrong)))]
	}
	return command(7, id, epoch, 0)
}

// thrownUp are Nodes that are all up, or one in three of them not.
func thrownUp(d *dice, n, cores int64) []impl.Node {
	list, _ := thrownNodes(d, n, cores)
	for i := range list {
		if d.below(2) > 0 {
			list[i].State = 1
		}
	}
	return list
}

// begunAt is a new State that was ticked to now.
func begunAt(t *testing.T, nodes []impl.Node, now int64) impl.State {
	t.Helper()
	s, is := impl.NewState(nodes)
	if !is {
		t.Fatalf("there is no State of %v", nodes)
	}
	return looksAppliedFrom(t, s, command(3, now, 0, 0))
}

func TestPhasesAreTheDocumentsNumbers(t *testing.T) {
	if got := []int64{impl.PhQueue, impl.PhRun, impl.PhDone, impl.PhGone, impl.PhOut}; !slices.Equal(got, []int64{1, 2, 3, 4, 5}) {
		t.Fatal(got)
	}
}

func TestNewState(t *testing.T) {
	d := dice(353)
	for n := int64(1); n <= 8; n++ {
		for range 10 {
			nodes, _ := thrownNodes(&d, n, 100)
			s, is := impl.NewState(nodes)
			if want := stateOf(0, nodes, 1, 0); !is || !sameState(s, want) {
				t.Fatalf("NewState of %v: %v, %v", nodes, s, is)
			}
			looksState(t, s)
		}
	}
	for _, nodes := range noNodes() {
		if s, is := impl.NewState(nodes); is || !sameState(s, impl.State{}) {
			t.Fatalf("NewState of %v: %v, %v", nodes, s, is)
		}
	}
}

// One story, told Command by Command.
func TestAppliedTable(t *testing.T) {
	const q, r, done, gone, out = 1, 2, 3, 4, 5
	s, _ := impl.NewState([]impl.Node{node(4, 1), node(4, 2), node(2, 1)})
	for _, c := range []struct {
		what   impl.Command
		answer int64
		phases []int64
		used   []int64
	}{
		{command(3, 5, 0, 0), 0, nil, []int64{0, 0, 0}}, {command(3, 4, 0, 0), -1, nil, []int64{0, 0, 0}},
		{command(1, 5, 10, 0), 1, []int64{r}, []int64{4, 0, 1}}, {command(1, 6, 3, 0), 2, []int64{r, q}, []int64{4, 0, 1}},
		{command(1, 1, 11, 0), 3, []int64{r, q, q}, []int64{4, 0, 1}}, {command(1, 1, 10, 0), 4, []int64{r, q, q, r}, []int64{4, 0, 2}},
		{command(1, 7, 1, 9), 5, []int64{r, q, q, r, q}, []int64{4, 0, 2}}, {command(3, 5, 0, 0), 0, []int64{r, q, q, r, q}, []int64{4, 0, 2}},
		{command(2, 2, 0, 0), 0, []int64{r, gone, q, r, q}, []int64{4, 0, 2}}, {command(2, 2, 0, 0), -1, []int64{r, gone, q, r, q}, []int64{4, 0, 2}},
		{command(7, 1, 2, 0), -1, []int64{r, gone, q, r, q}, []int64{4, 0, 2}}, {command(7, 4, 1, 0), -1, []int64{r, gone, q, r, q}, []int64{4, 0, 2}},
		{command(3, 8, 0, 0), 0, []int64{r, gone, q, r, q}, []int64{4, 0, 2}}, {command(7, 1, 1, 0), 3, []int64{done, gone, r, r, q}, []int64{1, 0, 1}},
		{command(5, 1, 0, 0), 0, []int64{done, gone, r, r, r}, []int64{4, 4, 1}}, {command(6, 2, 0, 0), 1, []int64{done, gone, r, q, r}, []int64{4, 4, 0}},
		{command(4, 3, 0, 0), -1, []int64{done, gone, r, q, r}, []int64{4, 4, 0}}, {command(6, 0, 0, 0), 2, []int64{done, gone, r, r, q}, []int64{0, 2, 0}},
		{command(4, 1, 0, 0), 0, []int64{done, gone, r, r, q}, []int64{0, 2, 0}}, {command(2, 3, 0, 0), 1, []int64{done, gone, gone, r, q}, []int64{0, 1, 0}},
		{command(5, 0, 0, 0), 0, []int64{done, gone, gone, r, q}, []int64{0, 1, 0}}, {command(5, 2, 0, 0), 0, []int64{done, gone, gone, r, q}, []int64{0, 1, 0}},
		{command(3, 17, 0, 0), 0, []int64{done, gone, gone, r, q}, []int64{0, 1, 0}}, {command(3, 18, 0, 0), 1, []int64{done, gone, gone, out, q}, []int64{0, 0, 0}},
		{command(5, 1, 0, 0), 0, []int64{done, gone, gone, out, r}, []int64{4, 3, 0}}, {command(3, 19, 0, 0), 1, []int64{done, gone, gone, out, out}, []int64{0, 0, 0}},
		{command(7, 5, 8, 0), -1, []int64{done, gone, gone, out, out}, []int64{0, 0, 0}}, {command(1, 10, 1, 0), 6, []int64{done, gone, gone, out, out, r}, []int64{4, 4, 2}},
	} {
		next, n := looksApplied(t, s, c.what)
		phases := []int64{}
		for _, e := range next.Entries {
			phases = append(phases, e.Phase)
		}
		if n != c.answer || !slices.Equal(phases, c.phases) || !slices.Equal(impl.InUse(next), c.used) {
			t.Fatalf("%v: %d, %v, %v are used, not %d, %v, %v", c.what, n, phases, impl.InUse(next), c.answer, c.phases, c.used)
		}
		looksState(t, next)
		s = next
	}
}

// Promise 13, over scripts of Commands.
func TestScriptsOfCommands(t *testing.T) {
	d, wrong := dice(359), wrongCommands()
	answered := map[[2]int64]int{}
	for round := range int64(240) {
		n := 1 + round%8
		now := []int64{0, 0, 0, 7, never - 12}[d.below(5)]
		s := begunAt(t, thrownUp(&d, n, []int64{1, 3, 8, 100}[d.below(4)]), now)
		for range 30 + d.below(90) {
			c := thrownCommand(&d, s, wrong)
			next := looksAppliedFrom(t, s, c)
			_, answer := impl.Applied(s, c)
			answered[[2]int64{min(max(c.Kind, 0), 8), min(answer, 2)}]++
			if d.below(6) == 0 {
				looksState(t, next)
			}
			s = next
		}
		looksState(t, s)
	}
	for _, kind := range []int64{1, 2, 3, 4, 5, 6, 7} {
		for _, answer := range [][]int64{nil, {-1, 1, 2}, {-1, 0, 1}, {-1, 0, 1, 2}, {-1, 0}, {-1, 0}, {-1, 0, 1, 2}, {-1, 0, 1, 2}}[kind] {
			if answered[[2]int64{kind, answer}] < 20 {
				t.Errorf("but %d Commands of Kind %d were answered %d", answered[[2]int64{kind, answer}], kind, answer)
			}
		}
	}
}

// thrownRun is what is run on some of what is left of Nodes that are not down; and whether there is any.
func thrownRun(d *dice, nodes []impl.Node, left []int64) (parts []impl.Part, cores int64) {
	for k, n := range nodes {
		if n.State == 3 || left[k] == 0 || d.below(2) > 0 {
			continue
		}
		p := part(int64(k), 1+d.below(left[k]))
		left[k] -= p.Cores
		cores += p.Cores
		parts = append(parts, p)
	}
	return parts, cores
}

// thrownState is a right one with n Entries; some of it no Command would bring about, such as one that runs and is over.
func thrownState(d *dice, n int64) impl.State {
	nodes, left := thrownUp(d, 1+d.below(8), []int64{3, 12, 100}[d.below(3)]), []int64{}
	for _, n := range nodes {
		left = append(left, n.Cores)
	}
	s := stateOf([]int64{0, 1, 25, 25, 3000, never - 25, never - 1}[d.below(7)], nodes, 1+d.below(5), 0)
	past := func() int64 { return s.Now - d.below(min(s.Now, 30)+1) }
	ids, epochs := []int64{}, []int64{}
	for range n {
		ids, epochs = append(ids, s.Next), append(epochs, 1+d.below(3)+slices.Max(append(epochs, 0)))
		s.Next += 1 + max(0, d.below(9)-6)
	}
	mix(d, epochs)
	s.Epochs = slices.Max(append(epochs, d.below(9)))
	for i, id := range ids {
		e := entry(waiter(id, 1+d.below(1+d.below(20)), 1+d.below(40), d.below(4), past()), []int64{1, 1, 2, 2, 2, 2, 3, 4, 5}[d.below(9)], past(), epochs[i])
		if parts, cores := thrownRun(d, nodes, left); e.Phase == 2 && cores > 0 {
			e.Job.Cores, e.Parts = cores, parts
		} else {
			for _, p := range parts {
				left[p.Node] += p.Cores
			}
			if e.Phase < 3 {
				e = entry(e.Job, 1, 0, 0)
			}
		}
		s.Entries = append(s.Entries, e)
	}
	return s
}

// rightStates are as they come of Commands, thrown ones, and ones at the ends.
func rightStates() []impl.State {
	d := dice(367)
	full := stateOf(never-1, slices.Repeat(up(100), 8), maxId, maxId)
	for i := range int64(40) {
		full.Entries = append(full.Entries, entry(waiter(maxId-40+i, 20, 10000, 9, never-1), 2, never-1, maxId-i, part(i/5, 20)))
	}
	out := []impl.State{mixedState(), full, stateOf(0, up(1), 1, 0), stateOf(0, []impl.Node{node(1, 3)}, 1, 0), stateOf(never-1, up(1), maxId, maxId),
		stateOf(0, up(1), 2, 0, entry(waiter(1, 1, 1, 0, 0), 1, 0, 0)), stateOf(3, up(1), 2, 0, entry(waiter(1, 1, 1, 0, 3), 3, 3, 0))}
	for n := int64(0); n <= 40; n += 1 + n/10 {
		for range 6 {
			out = append(out, thrownState(&d, n))
		}
	}
	return out
}

func TestStatesThatAreRight(t *testing.T) {
	for _, s := range rightStates() {
		if !countStateOk(s) {
			t.Fatalf("%v is not right", s)
		}
		looksState(t, s)
	}
}

// Commands to States that no Commands need have brought about.
func TestAppliedToThrownStates(t *testing.T) {
	d, wrong := dice(373), wrongCommands()
	for round := range int64(2500) {
		s := thrownState(&d, round%29)
		looksState(t, s)
		for range 3 {
			looksApplied(t, s, thrownCommand(&d, s, wrong))
		}
	}
}

// Of each Entry: cancelled, and done with each Epoch that somebody has.
func TestCancelAndDoneOfEachEntry(t *testing.T) {
	for _, s := range rightStates()[:60] {
		ids, epochs := []int64{1, maxId}, []int64{1, maxId}
		for _, e := range s.Entries {
			ids, epochs = append(ids, e.Job.Id), append(epochs, max(1, e.Epoch))
		}
		for i, id := range ids {
			looksApplied(t, s, command(2, id, 0, 0))
			looksApplied(t, s, command(7, id, epochs[i], 0))
			looksApplied(t, s, command(7, id, epochs[(i+1)%len(epochs)], 0))
			looksApplied(t, s, command(7, id, max(1, epochs[i]-1), 0))
			looksApplied(t, s, command(7, id, min(maxId, epochs[i]+1), 0))
		}
	}
}

func TestTicks(t *testing.T) {
	for _, s := range rightStates() {
		times := []int64{0, s.Now - 1, s.Now, s.Now + 1, never - 2, never - 1, never}
		for _, e := range runsNow(s) {
			times = append(times, endOf(e)-1, endOf(e), endOf(e)+1)
		}
		for _, now := range times {
			if now < 0 || now > never {
				continue
			}
			if _, answer := looksApplied(t, s, command(3, now, 0, 0)); (answer < 0) != (now < s.Now || now >= never) {
				t.Fatalf("a tick to %d in %v is answered %d", now, s, answer)
			}
		}
	}
}

func TestStatesOfNodes(t *testing.T) {
	for _, s := range rightStates() {
		for _, kind := range []int64{4, 5, 6} {
			for k := range int64(8) {
				next, answer := looksApplied(t, s, command(kind, k, 0, 0))
				if is := k < int64(len(s.Nodes)); is != (answer >= 0) || is && next.Nodes[k].State != map[int64]int64{4: 2, 5: 1, 6: 3}[kind] {
					t.Fatalf("%v of number %d: %d, %v", kind, k, answer, next)
				}
			}
		}
	}
}

// MaxJobs Entries, whatever their Phase is.
func TestAtMostMaxJobsAreSubmitted(t *testing.T) {
	for _, cores := range []int64{1, 2, 90} {
		s := begunAt(t, up(30, 30), 0)
		for i := range int64(40) {
			next, n := looksApplied(t, s, command(1, cores, 5, 0))
			if n != i+1 || next.Next != i+2 {
				t.Fatalf("number %d is answered %d", i+1, n)
			}
			s = next
			if cores == 2 {
				s, _ = looksApplied(t, s, command(2, i+1, 0, 0))
			}
		}
		for _, c := range []impl.Command{command(1, cores, 5, 0), command(1, 1, 1, 9), command(3, 9, 0, 0), command(1, cores, 5, 0)} {
			next, n := looksApplied(t, s, c)
			if c.Kind == 1 && (n != -1 || len(next.Entries) != 40) {
				t.Fatalf("one more is answered %d", n)
			}
			s = next
		}
		looksState(t, s)
	}
}

func TestNextEndsAtMaxId(t *testing.T) {
	for _, c := range []struct{ next, answer, then int64 }{{maxId - 2, maxId - 2, maxId - 1}, {maxId - 1, maxId - 1, maxId}, {maxId, -1, maxId}} {
		s := stateOf(4, up(2), c.next, 0)
		next, n := looksApplied(t, s, command(1, 1, 1, 0))
		if n != c.answer || next.Next != c.then {
			t.Errorf("Next %d: %d, then %d", c.next, n, next.Next)
		}
		looksState(t, next)
	}
}

// Of three who could be run so many are as there are Epochs left; who comes first in the Queue is run.
func TestEpochsEndAtMaxId(t *testing.T) {
	for left, want := range [][]int64{{1, 1, 1}, {1, 2, 1}, {1, 2, 2}, {2, 2, 2}, {2, 2, 2}} {
		s := stateOf(4, []impl.Node{node(3, 3)}, 4, maxId-int64(left), entry(waiter(1, 1, 5, 0, 0), 1, 0, 0), entry(waiter(2, 1, 5, 8, 0), 1, 0, 0), entry(waiter(3, 1, 5, 7, 0), 1, 0, 0))
		next, n := looksApplied(t, s, command(5, 0, 0, 0))
		got := []int64{impl.PhaseOf(next, 1), impl.PhaseOf(next, 2), impl.PhaseOf(next, 3)}
		if n != 0 || !slices.Equal(got, want) || next.Epochs != min(maxId, maxId-int64(left)+3) {
			t.Errorf("of %d Epochs: %v, Epochs %d", left, got, next.Epochs)
		}
		looksState(t, next)
		looksApplied(t, next, command(3, 9, 0, 0))
		looksApplied(t, next, command(6, 0, 0, 0))
	}
}

// A Job that can be run at once, but not all the time it is planned to, waits behind one ahead of it.
func TestNobodyIsPushedBack(t *testing.T) {
	s := begunAt(t, up(4, 4), 0)
	for _, c := range []struct {
		what    impl.Command
		running []int64
	}{
		{command(1, 6, 10, 0), []int64{1}}, {command(1, 8, 5, 0), []int64{1}}, {command(1, 2, 11, 0), []int64{1}}, {command(1, 2, 10, 0), []int64{1, 4}},
		{command(1, 1, 1, 9), []int64{1, 4}}, {command(3, 1, 0, 0), []int64{1, 4}}, {command(7, 4, 2, 0), []int64{1, 5}}, {command(3, 2, 0, 0), []int64{1}},
		{command(2, 2, 0, 0), []int64{1, 3}}, {command(3, 9, 0, 0), []int64{1, 3}}, {command(3, 10, 0, 0), []int64{3}}, {command(3, 12, 0, 0), []int64{3}}, {command(3, 13, 0, 0), nil},
	} {
		s = looksAppliedFrom(t, s, c.what)
		got := []int64{}
		for _, e := range runsNow(s) {
			got = append(got, e.Job.Id)
		}
		if !slices.Equal(got, c.running) {
			t.Fatalf("behind %v %v run, not %v", c.what, got, c.running)
		}
	}
}

// Who is begun shortly ahead of Never has its cores for its Long, as it was planned: those behind it are planned behind that.
func TestRunsThatGoPastNever(t *testing.T) {
	for _, c := range []struct {
		cores, now int64
		jobs       []impl.Command
		running    []int64
		outlook    []impl.Level
		waits      []int64
		starts     []int64
	}{
		{5, never - 1, []impl.Command{command(1, 2, 1, 2), command(1, 3, 6, 0), command(1, 5, 1, 1)}, []int64{1}, []impl.Level{at(0, 3), at(1, 5)}, []int64{3, 2}, []int64{1, 2}},
		{5, never - 1, []impl.Command{command(1, 2, 1, 2), command(1, 3, 1, 0), command(1, 5, 1, 1)}, []int64{1, 2}, []impl.Level{at(0, 0), at(1, 5)}, []int64{3}, []int64{1}},
		{9, never - 5, []impl.Command{command(1, 5, 2, 1), command(1, 2, 6, 4), command(1, 4, 7, 1), command(1, 3, 7, 3)}, []int64{2, 4}, []impl.Level{at(0, 4), at(6, 6), at(7, 9)}, []int64{1, 3}, []int64{6, 7}},
		{9, never - 5, []impl.Command{command(1, 5, 2, 1), command(1, 2, 6, 4), command(1, 4, 6, 1), command(1, 3, 7, 3)}, []int64{2, 3, 4}, []impl.Level{at(0, 0), at(6, 6), at(7, 9)}, []int64{1}, []int64{6}},
		{4, never - 1, []impl.Command{command(1, 3, 10000, 9), command(1, 1, 10000, 0), command(1, 4, 2, 1), command(1, 1, 1, 0)}, []int64{1, 2}, []impl.Level{at(0, 0), at(10000, 4)}, []int64{3, 4}, []int64{10000, 10002}},
	} {
		s := looksAppliedFrom(t, begunAt(t, up(c.cores), 0), command(6, 0, 0, 0))
		s = looksAppliedFrom(t, s, command(3, c.now, 0, 0))
		for _, j := range c.jobs {
			s = looksAppliedFrom(t, s, j)
		}
		s = looksAppliedFrom(t, s, command(5, 0, 0, 0))
		looksState(t, s)
		running, waits := []int64{}, []int64{}
		for _, e := range runsNow(s) {
			running = append(running, e.Job.Id)
		}
		for _, j := range impl.Waits(s) {
			waits = append(waits, j.Id)
		}
		p, is := impl.Outlook(s)
		if !slices.Equal(running, c.running) || !is || !same(p, profile(c.cores, c.outlook...)) || !slices.Equal(waits, c.waits) || !slices.Equal(impl.Planned(p, impl.Waits(s), 0), c.starts) {
			t.Errorf("%v at %d: %v run, Outlook %v, %v, %v wait, planned for %v", c.jobs, c.now, running, p, is, waits, impl.Planned(p, impl.Waits(s), 0))
		}
	}
}

// passed tells whether somebody runs till Never or past it; and whether somebody waits behind one ahead of him, who could else be run.
func passed(s impl.State) (runs bool, behind bool) {
	for _, e := range runsNow(s) {
		runs = runs || endOf(e) >= never
	}
	p, _ := impl.Outlook(s)
	waits := impl.Waits(s)
	for i, start := range impl.Planned(p, waits, 0) {
		_, can := impl.Picked(s.Nodes, impl.InUse(s), waits[i].Cores)
		behind = behind || can && start > 0
	}
	return runs, behind
}

// nearScript are some Jobs of unlike Rank, Cores and Long, that are asked for while all Nodes are down or up, some of them cancelled or done, and the Nodes then up; with a tick now and then.
func nearScript(d *dice, s impl.State) []impl.Command {
	script, total := []impl.Command{}, int64(0)
	for k, n := range s.Nodes {
		total += n.Cores
		script = append(script, command([]int64{6, 6, 4, 5}[d.below(4)], int64(k), 0, 0))
	}
	for range 2 + d.below(5) {
		script = append(script, command(1, 1+d.below(min(total, 1000)), 1+d.below([]int64{2, 8, 20, 10000}[d.below(4)]), d.below(10)))
	}
	for range d.below(3) {
		script = append(script, command(2, 1+d.below(s.Next+1), 0, 0))
	}
	for _, e := range runsNow(s) {
		if d.below(3) == 0 {
			script = append(script, command(7, e.Job.Id, e.Epoch, 0))
		}
	}
	if d.below(3) == 0 {
		script = append(script, command(3, min(never-1, s.Now+d.below(4)), 0, 0))
	}
	mix(d, script)
	for k := range s.Nodes {
		script = append(script, command(5, int64(k), 0, 0))
	}
	return script
}

// Promise 13 at the end of all times: scripts behind a tick to Never less a few.
func TestNobodyWaitsInVainAheadOfNever(t *testing.T) {
	d, counted := dice(401), map[string]int{}
	for round := range int64(250) {
		nodes, _ := thrownNodes(&d, 1+round%4, []int64{2, 5, 9, 100}[d.below(4)])
		s := begunAt(t, nodes, never-1-d.below(12))
		for range 5 {
			for _, c := range nearScript(&d, s) {
				_, answer := impl.Applied(s, c)
				s = looksAppliedFrom(t, s, c)
				runs, behind := passed(s)
				if answer >= 0 {
					counted[[]string{"", "submit", "cancel", "tick", "drain", "up", "down", "done"}[c.Kind]]++
				}
				if runs && behind {
					counted["behind"]++
				}
				if runs && s.Now == never-1 {
					counted["at the last"]++
				}
			}
			looksState(t, s)
		}
	}
	for _, what := range []string{"submit", "cancel", "tick", "up", "down", "done", "behind", "at the last"} {
		if counted[what] < 200 {
			t.Errorf("but %d of %s", counted[what], what)
		}
	}
}

// allLater is s as it were if all had been later by so much.
func allLater(s impl.State, by int64) impl.State {
	s = ownState(s)
	s.Now += by
	for i := range s.Entries {
		e := &s.Entries[i]
		e.Job.At += by
		if e.Epoch > 0 {
			e.Start += by
		}
	}
	return s
}

// Shortly ahead of Never all is as it is at any other time.
func TestAheadOfNeverIsAsAnywhere(t *testing.T) {
	d := dice(409)
	wrong := []impl.Command{{}, command(8, 0, 0, 0), command(1, 0, 1, 0), command(4, 8, 0, 0)}
	for round := range int64(200) {
		nodes, by := thrownUp(&d, 1+round%8, []int64{1, 3, 8, 100}[d.below(4)]), never-1-d.below(30)
		soon, late := begunAt(t, nodes, 0), begunAt(t, nodes, by)
		for range 20 + d.below(60) {
			c := thrownCommand(&d, soon, wrong)
			then := c
			if c.Kind == 3 {
				then.A += by
			}
			if then.A >= never {
				continue
			}
			was := late
			next, answer := impl.Applied(soon, c)
			later, same := impl.Applied(late, then)
			if answer != same || !sameState(allLater(next, by), later) {
				t.Fatalf("%v applied to\n%v:\n%v, %d; later by %d:\n%v, %d", c, soon, next, answer, by, later, same)
			}
			p, _ := impl.Outlook(next)
			if q, is := impl.Outlook(later); !is || !slices.Equal(p.Levels, q.Levels) || p.Total != q.Total || waitsInVain(later) && answer >= 0 {
				t.Fatalf("%v applied to\n%v: Outlook %v, not %v", then, was, q, p)
			}
			soon, late = next, later
		}
	}
}

// Outlook has nobody who is over, but till a tick its cores are used.
func TestWhoIsOverHasItsCoresTillATick(t *testing.T) {
	over := entry(waiter(1, 3, 5, 0, 0), 2, 1, 1, part(0, 3))
	s := stateOf(6, up(4), 4, 1, over, entry(waiter(2, 2, 3, 5, 6), 1, 0, 0), entry(waiter(3, 1, 3, 0, 6), 1, 0, 0))
	looksState(t, s)
	next, _ := looksApplied(t, s, command(1, 1, 9, 0))
	if impl.PhaseOf(next, 1) != 2 || impl.PhaseOf(next, 2) != 1 || impl.PhaseOf(next, 3) != 2 || impl.PhaseOf(next, 4) != 1 {
		t.Fatal(next.Entries)
	}
	next, n := looksApplied(t, next, command(3, 6, 0, 0))
	if n != 1 || impl.PhaseOf(next, 1) != 5 || impl.PhaseOf(next, 2) != 2 || impl.PhaseOf(next, 4) != 2 {
		t.Fatal(n, next.Entries)
	}
}

func TestOutlookTable(t *testing.T) {
	const last = never - 1
	runs := func(start, long int64, parts ...impl.Part) impl.Entry {
		cores := int64(0)
		for _, p := range parts {
			cores += p.Cores
		}
		return entry(waiter(0, cores, long, 0, 0), 2, start, 0, parts...)
	}
	three := []impl.Node{node(4, 1), node(9, 2), node(3, 1)}
	for _, c := range []struct {
		what    string
		now     int64
		nodes   []impl.Node
		entries []impl.Entry
		used    []int64
		want    impl.Profile
	}{
		{"nobody runs", 5, three, nil, []int64{0, 0, 0}, profile(7, at(0, 7))},
		{"no Node is up", 5, []impl.Node{node(4, 2), node(9, 3)}, []impl.Entry{runs(5, 9, part(0, 2))}, []int64{2, 0}, profile(0, at(0, 0))},
		{"till later", 5, three, []impl.Entry{runs(3, 9, part(0, 2))}, []int64{2, 0, 0}, profile(7, at(0, 5), at(7, 7))},
		{"till the next time", 5, three, []impl.Entry{runs(3, 3, part(0, 2))}, []int64{2, 0, 0}, profile(7, at(0, 5), at(1, 7))},
		{"till now", 5, three, []impl.Entry{runs(3, 2, part(0, 2))}, []int64{2, 0, 0}, profile(7, at(0, 7))},
		{"over since", 5, three, []impl.Entry{runs(0, 2, part(0, 4), part(2, 3))}, []int64{4, 0, 3}, profile(7, at(0, 7))},
		{"on a Node that drains", 5, three, []impl.Entry{runs(5, 2, part(1, 9))}, []int64{0, 9, 0}, profile(7, at(0, 7))},
		{"on all Nodes", 5, three, []impl.Entry{runs(5, 2, part(0, 1), part(1, 9), part(2, 3))}, []int64{1, 9, 3}, profile(7, at(0, 3), at(2, 7))},
		{"two till the same", 5, three, []impl.Entry{runs(5, 2, part(0, 1)), runs(1, 6, part(0, 1), part(2, 1))}, []int64{2, 0, 1}, profile(7, at(0, 4), at(2, 7))},
		{"one behind the other", 5, three, []impl.Entry{runs(5, 9, part(0, 1)), runs(1, 6, part(0, 1), part(2, 1)), runs(2, 3, part(2, 1)), runs(5, 4, part(0, 2), part(1, 4))}, []int64{4, 4, 2}, profile(7, at(0, 2), at(2, 4), at(4, 6), at(9, 7))},
		{"all that is up", 5, three, []impl.Entry{runs(5, 10000, part(0, 4), part(2, 3))}, []int64{4, 0, 3}, profile(7, at(0, 0), at(10000, 7))},
		{"till just ahead of Never", last - 5, three, []impl.Entry{runs(last-7, 7, part(0, 2))}, []int64{2, 0, 0}, profile(7, at(0, 5), at(5, 7))},
		{"till Never", last - 5, three, []impl.Entry{runs(last-7, 8, part(0, 2))}, []int64{2, 0, 0}, profile(7, at(0, 5), at(6, 7))},
		{"just past Never", last - 5, three, []impl.Entry{runs(last-7, 9, part(0, 2))}, []int64{2, 0, 0}, profile(7, at(0, 5), at(7, 7))},
		{"till Never at the last", last, three, []impl.Entry{runs(last, 1, part(0, 2))}, []int64{2, 0, 0}, profile(7, at(0, 5), at(1, 7))},
		{"past Never", last, three, []impl.Entry{runs(last, 10000, part(0, 2)), runs(last-7, 8, part(2, 1)), runs(last-7, 7, part(2, 1))}, []int64{2, 0, 2}, profile(7, at(0, 4), at(1, 5), at(10000, 7))},
		{"eight Nodes", 0, slices.Repeat(up(100), 8), []impl.Entry{runs(0, 1, part(0, 100), part(7, 100)), runs(0, 2, part(3, 100), part(6, 99))}, []int64{100, 0, 0, 100, 0, 0, 99, 100}, profile(800, at(0, 401), at(1, 601), at(2, 800))},
	} {
		s := stateOf(c.now, c.nodes, 1+int64(len(c.entries)), 9)
		for i, e := range c.entries {
			e.Job.Id, e.Epoch = int64(i+1), int64(9-i)
			s.Entries = append(s.Entries, e)
		}
		looksState(t, s)
		if got, is := impl.Outlook(s); !is || !same(got, c.want) {
			t.Errorf("%s: Outlook %v, %v, not %v", c.what, got, is, c.want)
		}
		if got := impl.InUse(s); !slices.Equal(got, c.used) {
			t.Errorf("%s: InUse %v, not %v", c.what, got, c.used)
		}
	}
}

// numbersOf are all numbers of s, each by a name.
func numbersOf(s *impl.State) map[string]*int64 {
	out := map[string]*int64{"Now": &s.Now, "Next": &s.Next, "Epochs": &s.Epochs}
	name := func(what string, i int, field string) string { return what + string(rune('0'+i)) + field }
	for i := range s.Nodes {
		out[name("Node", i, "Cores")], out[name("Node", i, "State")] = &s.Nodes[i].Cores, &s.Nodes[i].State
	}
	for i := range s.Entries {
		e := &s.Entries[i]
		for _, f := range jobFields() {
			out[name("Entry", i, f.name)] = f.of(&e.Job)
		}
		out[name("Entry", i, "Phase")], out[name("Entry", i, "Start")], out[name("Entry", i, "Epoch")] = &e.Phase, &e.Start, &e.Epoch
		for k := range e.Parts {
			p := &e.Parts[k]
			out[name("Entry", i, name("Part", k, "Node"))], out[name("Entry", i, name("Part", k, "Cores"))] = &p.Node, &p.Cores
		}
	}
	return out
}

// looksAsItIs holds a State against what is counted, whether it is right or not.
func looksAsItIs(t *testing.T, what string, s impl.State) bool {
	t.Helper()
	is := countStateOk(s)
	switch {
	case untoldBelow0(s):
	case is:
		looksState(t, s)
	default:
		looksNoState(t, what, s)
	}
	return is
}

// Each number of a State set to its neighbours, to all small ones, and to the ends of int64.
func TestStatesWithOneNumberChanged(t *testing.T) {
	d := dice(379)
	right, wrong := 0, 0
	for _, s := range []impl.State{mixedState(), thrownState(&d, 6), thrownState(&d, 8), stateOf(3, up(1), 2, 0, entry(waiter(1, 1, 1, 0, 3), 4, 0, 0)), stateOf(0, up(2), 1, 0)} {
		for what := range numbersOf(&s) {
			own := ownState(s)
			at := numbersOf(&own)[what]
			was := *at
			near := []int64{was - 2, was - 1, was + 1, was + 2, -was, was + 1<<32, 99, 100, 101, 999, 1000, 1001, 9999, 10000, 10001, maxId - 1, maxId, maxId + 1, never - 1, never, never + 1, 1 << 30, 1<<30 + 1, math.MaxInt64, math.MaxInt64 - was, math.MinInt64, math.MinInt64 + was}
			for n := int64(-3); n < 30; n++ {
				near = append(near, n)
			}
			for _, *at = range near {
				if looksAsItIs(t, what, own) {
					right++
				} else {
					wrong++
				}
			}
		}
	}
	if right < 500 || wrong < 2000 {
		t.Fatalf("%d are right, %d are not", right, wrong)
	}
}

// spoiltStates are the mixed State with one thing of the chapter's paragraph broken.
func spoiltStates() map[string]impl.State {
	out := map[string]impl.State{}
	spoil := func(what string, how func(*impl.State)) {
		s := ownState(mixedState())
		how(&s)
		out[what] = s
	}
	all := func(what string, of []int, how func(*impl.Entry)) {
		for _, i := range of {
			spoil(what+" of number "+string(rune('0'+i)), func(s *impl.State) { how(&s.Entries[i]) })
		}
	}
	// by their numbers: 1 and 4 run, 2 and 6 wait, 0 is done, 3 and 7 are gone, 5 is out
	every, run, queue, over := []int{0, 1, 2, 3, 4, 5, 6, 7}, []int{1, 4}, []int{2, 6}, []int{0, 3, 5, 7}
	spoil("Now below 0", func(s *impl.State) { s.Now = -1 })
	spoil("Now Never", func(s *impl.State) { s.Now = never })
	spoil("Now below an At", func(s *impl.State) { s.Now = 19 })
	spoil("no Nodes", func(s *impl.State) { s.Nodes = nil })
	spoil("nine Nodes", func(s *impl.State) { s.Nodes = append(s.Nodes, up(1, 1, 1, 1, 1)...) })
	for _, n := range wrongNodes() {
		spoil("a Node that is not right", func(s *impl.State) { s.Nodes[2] = n })
	}
	all("At above Now", every, func(e *impl.Entry) { e.Job.At = 21 })
	all("Weight", every, func(e *impl.Entry) { e.Job.Weight = 1 })
	all("Due below Never", every, func(e *impl.Entry) { e.Job.Due = never - 1 })
	all("no Cores", every, func(e *impl.Entry) { e.Job.Cores = 0 })
	all("too long", every, func(e *impl.Entry) { e.Job.Long = 10001 })
	all("Rank below 0", every, func(e *impl.Entry) { e.Job.Rank = -1 })
	all("Id is Next", every, func(e *impl.Entry) { e.Job.Id = 12 })
	all("Id of 0", every, func(e *impl.Entry) { e.Job.Id = 0 })
	all("Epoch above Epochs", every, func(e *impl.Entry) { e.Epoch = 9 })
	all("no Phase", every, func(e *impl.Entry) { e.Phase = 0 })
	all("past the last Phase", every, func(e *impl.Entry) { e.Phase = 6 })
	all("a Start that waits", queue, func(e *impl.Entry) { e.Start = 1 })
	all("an Epoch that waits", queue, func(e *impl.Entry) { e.Epoch = 7 })
	all("Parts that wait", queue, func(e *impl.Entry) { e.Parts = held(0, 1) })
	all("Parts that are over", over, func(e *impl.Entry) { e.Parts = held(0, 1) })
	all("a Start above Now that is over", over, func(e *impl.Entry) { e.Start = 21 })
	all("a Start above Now", run, func(e *impl.Entry) { e.Start = 21 })
	all("no Epoch", run, func(e *impl.Entry) { e.Epoch = 0 })
	all("an Epoch below 0", run, func(e *impl.Entry) { e.Epoch = -1 })
	all("no Parts", run, func(e *impl.Entry) { e.Parts = nil })
	all("less Cores than the Job's", run, func(e *impl.Entry) { e.Job.Cores++ })
	all("more Cores than the Job's", run, func(e *impl.Entry) { e.Job.Cores-- })
	all("Parts that fall", run, func(e *impl.Entry) { slices.Reverse(e.Parts) })
	all("two Parts of one Node", run, func(e *impl.Entry) { e.Parts[1].Node = 0 })
	all("a Part on a Node that is down", run, func(e *impl.Entry) { e.Parts[1].Node = 2 })
	all("a Part of a Node past the last", run, func(e *impl.Entry) { e.Parts[len(e.Parts)-1].Node = 4 })
	all("a Part of a Node below 0", run, func(e *impl.Entry) { e.Parts[0].Node = -1 })
	all("a Part without Cores", run, func(e *impl.Entry) {
		e.Parts, e.Job.Cores = append(held(0, 0), e.Parts[1:]...), e.Job.Cores-e.Parts[0].Cores
	})
	all("a Part below 0", run, func(e *impl.Entry) { e.Parts[0].Cores, e.Parts[1].Cores = -1, e.Parts[0].Cores+e.Parts[1].Cores+1 })
	all("Parts that wrap round", run, func(e *impl.Entry) {
		e.Parts[0].Cores, e.Parts[1].Cores = math.MaxInt64, e.Parts[0].Cores+e.Parts[1].Cores-math.MaxInt64
	})
	spoil("three Parts that wrap round", func(s *impl.State) {
		s.Entries[4].Parts, s.Entries[4].Job.Cores = held(0, math.MaxInt64, 1, math.MaxInt64, 3, 8), 6
	})
	spoil("two with one Epoch", func(s *impl.State) { s.Entries[4].Epoch = 2 })
	spoil("more than a Node's Cores by both", func(s *impl.State) { s.Entries[1].Parts, s.Entries[1].Job.Cores = held(0, 4), 4 })
	spoil("more than a Node's Cores by one", func(s *impl.State) { s.Entries[4].Parts, s.Entries[4].Job.Cores = held(3, 4), 4 })
	spoil("more than a Node's Cores that drains", func(s *impl.State) { s.Entries[1].Parts, s.Entries[1].Job.Cores = held(1, 2), 2 })
	spoil("a Node is down", func(s *impl.State) { s.Nodes[1].State = 3 })
	spoil("two Ids alike", func(s *impl.State) { s.Entries[3].Job.Id = 4 })
	spoil("Ids that fall", func(s *impl.State) { s.Entries[2], s.Entries[3] = s.Entries[3], s.Entries[2] })
	spoil("Ids that fall at the end", func(s *impl.State) { s.Entries[6], s.Entries[7] = s.Entries[7], s.Entries[6] })
	spoil("Next is an Id", func(s *impl.State) { s.Next = 11 })
	spoil("Next of 0", func(s *impl.State) { s.Next, s.Entries = 0, nil })
	spoil("Next above MaxId", func(s *impl.State) { s.Next = maxId + 1 })
	spoil("Epochs below an Epoch", func(s *impl.State) { s.Epochs = 7 })
	spoil("Epochs below 0", func(s *impl.State) { s.Epochs, s.Entries = -1, nil })
	spoil("Epochs above MaxId", func(s *impl.State) { s.Epochs = maxId + 1 })
	spoil("41 Entries", func(s *impl.State) {
		s.Next = 42
		s.Entries = nil
		for id := range int64(41) {
			s.Entries = append(s.Entries, entry(waiter(id+1, 1, 1, 0, 0), 4, 0, 0))
		}
	})
	spoil("all", func(s *impl.State) { *s = impl.State{} })
	return out
}

func TestStatesThatAreNotRight(t *testing.T) {
	looksState(t, mixedState())
	for what, s := range spoiltStates() {
		if countStateOk(s) {
			t.Errorf("%s: %v is counted as right", what, s)
		}
		looksNoState(t, what, s)
	}
}

// What is like something that is spoilt, but right.
func TestStatesThatAreJustRight(t *testing.T) {
	for what, how := range map[string]func(*impl.State){
		"no Entries":                  func(s *impl.State) { s.Entries = []impl.Entry{} },
		"Parts that are empty":        func(s *impl.State) { s.Entries[2].Parts = []impl.Part{} },
		"an Epoch of one who is over": func(s *impl.State) { s.Entries[0].Epoch = 2 },
		"two are over with one Epoch": func(s *impl.State) { s.Entries[0].Epoch, s.Entries[5].Epoch = 3, 3 },
		"done without an Epoch":       func(s *impl.State) { s.Entries[0].Epoch, s.Entries[5].Epoch = 0, 0 },
		"Starts of now":               func(s *impl.State) { s.Entries[0].Start, s.Entries[1].Start, s.Entries[5].Start = 20, 20, 20 },
		"a Start ahead of its At":     func(s *impl.State) { s.Entries[1].Start, s.Entries[1].Job.At = 3, 20 },
		"all Cores of a Node":         func(s *impl.State) { s.Entries[1].Parts, s.Entries[1].Job.Cores = held(0, 3, 1, 1), 4 },
		"Next at MaxId":               func(s *impl.State) { s.Next = maxId },
		"Epochs at MaxId":             func(s *impl.State) { s.Epochs = maxId },
		"Epochs is an Epoch":          func(s *impl.State) { s.Entries[1].Epoch = 8 },
		"Now is the last":             func(s *impl.State) { s.Now = never - 1 },
		"an empty Node is down": func(s *impl.State) {
			s.Entries[4].Parts, s.Entries[4].Job.Cores, s.Nodes[3].State = held(0, 1, 1, 3), 4, 3
		},
		"all Nodes drain": func(s *impl.State) { s.Nodes[0].State, s.Nodes[2].State, s.Nodes[3].State = 2, 2, 2 },
	} {
		s := ownState(mixedState())
		how(&s)
		if !countStateOk(s) {
			t.Errorf("%s: %v is counted as not right", what, s)
		}
		looksState(t, s)
		for _, c := range append(oneOfEach(), command(3, 21, 0, 0), command(2, 2, 0, 0), command(6, 1, 0, 0), command(7, 6, 5, 0)) {
			looksApplied(t, s, c)
		}
	}
}

func TestAppliedRefusesWhatIsNoCommand(t *testing.T) {
	for _, s := range []impl.State{mixedState(), stateOf(0, up(4), 1, 0), stateOf(0, up(4), 2, 0, entry(waiter(1, 1, 1, 0, 0), 1, 0, 0))} {
		for _, c := range wrongCommands() {
			if _, n := looksApplied(t, s, c); n != -1 {
				t.Errorf("%v is answered %d", c, n)
			}
		}
	}
}

// roomyState is s with spare room behind each of its lists, where something stands already.
func roomyState(s impl.State) impl.State {
	s.Nodes, _ = roomFor(s.Nodes, node(7, 7), node(0, 0), node(5, 1))
	s.Entries, _ = roomFor(s.Entries, entry(waiter(-7, 1, 1, 1, 1), 2, 7, 7, part(0, 7)), impl.Entry{Phase: 1})
	for i := range s.Entries {
		s.Entries[i].Parts, _ = roomFor(s.Entries[i].Parts, part(7, 7), part(-5, 0), part(0, 1))
	}
	return s
}

// wholeState is s with what stands in the spare room behind its lists, in memory of its own.
func wholeState(s impl.State) impl.State {
	s.Nodes = s.Nodes[:cap(s.Nodes)]
	s.Entries = slices.Clone(s.Entries[:cap(s.Entries)])
	for i, e := range s.Entries {
		s.Entries[i].Parts = e.Parts[:cap(e.Parts)]
	}
	return ownState(s)
}

func spoilAll[T any](list []T, junk T) {
	list = list[:cap(list)]
	for i := range list {
		list[i] = junk
	}
}

func spoilState(s impl.State) {
	spoilAll(s.Nodes, node(-77, -77))
	for _, e := range s.Entries[:cap(s.Entries)] {
		spoilAll(e.Parts, part(-77, -77))
	}
	spoilAll(s.Entries, entry(waiter(-77, -77, -77, -77, -77), -77, -77, -77))
}

// looksApart spoils one list of a State after the other, each with the room behind it: no other list of it may be spoilt by that.
func looksApart(t *testing.T, s impl.State) {
	t.Helper()
	was := ownState(s)
	spoilAll(s.Nodes, node(-77, -77))
	copy(s.Nodes, was.Nodes)
	for i, e := range s.Entries {
		spoilAll(e.Parts, part(-77, -77))
		copy(e.Parts, was.Entries[i].Parts)
		if !sameState(s, was) {
			t.Fatalf("two lists of %v share memory: it became %v", was, s)
		}
	}
	own := slices.Clone(s.Entries)
	spoilAll(s.Entries, entry(waiter(-77, -77, -77, -77, -77), -77, -77, -77))
	copy(s.Entries, own)
	if !sameState(s, was) {
		t.Fatalf("two lists of %v share memory: it became %v", was, s)
	}
}

// Promise 21 for chapter 13: nothing is written into a State, nor behind its lists, and what is answered is no part of it nor of another answer.
func TestStatesShareNoMemory(t *testing.T) {
	states := append(rightStates(), slices.Collect(maps.Values(spoiltStates()))...)
	for _, right := range states {
		s := roomyState(right)
		all := wholeState(s)
		looks := func(what string) {
			t.Helper()
			if now := wholeState(s); !reflect.DeepEqual(now, all) {
				t.Fatalf("%s: %v became %v", what, all, now)
			}
		}
		impl.StateOk(s)
		impl.PhaseOf(s, 2)
		looks("StateOk or PhaseOf")
		looksUnshared(t, "InUse", -77, func() []int64 { return impl.InUse(s) })
		looksUnshared(t, "Waits", waiter(-77, -77, -77, -77, -77), func() []impl.Job { return impl.Waits(s) })
		looksUnshared(t, "Outlook", at(-77, -77), func() []impl.Level {
			p, _ := impl.Outlook(s)
			return p.Levels
		})
		looks("InUse, Waits or Outlook")
		answers := []func() impl.State{func() impl.State {
			begun, _ := impl.NewState(s.Nodes)
			return begun
		}}
		for _, c := range []impl.Command{{}, command(1, 2, 5, 3), command(2, 2, 0, 0), command(2, 9, 0, 0), command(3, min(max(s.Now, 0)+9, never-1), 0, 0), command(4, 0, 0, 0), command(5, 2, 0, 0), command(6, 0, 0, 0), command(6, 1, 0, 0), command(7, 6, 5, 0)} {
			answers = append(answers, func() impl.State {
				next, _ := impl.Applied(s, c)
				return next
			})
		}
		for _, answer := range answers {
			one, two := answer(), answer()
			looksApart(t, answer())
			was := ownState(two)
			spoilState(one)
			looks("a change of an answer")
			if !sameState(two, was) || !sameState(answer(), was) {
				t.Fatalf("two answers share memory: %v became %v", was, two)
			}
		}
	}
}

// A State is kept as it was, whatever is done with those that came of it.
func TestWhatCameOfAStateLeavesItAsItWas(t *testing.T) {
	d, wrong := dice(383), wrongCommands()
	for range 20 {
		s := begunAt(t, thrownUp(&d, 4, 9), 0)
		states, were := []impl.State{s}, []impl.State{ownState(s)}
		for range 80 {
			s = states[d.below(int64(len(states)))]
			next, _ := impl.Applied(s, thrownCommand(&d, s, wrong))
			states, were = append(states, next), append(were, ownState(next))
		}
		for i, s := range states {
			if !sameState(s, were[i]) {
				t.Fatalf("%v became %v", were[i], s)
			}
		}
	}
}

// spoiltAt is s with some numbers thrown to the ends, and some lists cut, doubled, or as long as can be.
func spoiltAt(d *dice, s impl.State) impl.State {
	ends := []int64{math.MinInt64, math.MinInt64 + 1, -never, -1, 0, 1, 2, 3, 5, 6, 8, 9, 20, 100, 101, maxId, maxId + 1, never - 1, never, 1 << 30, math.MaxInt64 - never, math.MaxInt64 - 1, math.MaxInt64}
	s = ownState(s)
	numbers := numbersOf(&s)
	names := slices.Sorted(maps.Keys(numbers))
	for range d.below(4) {
		*numbers[names[d.below(int64(len(names)))]] = ends[d.below(int64(len(ends)))]
	}
	switch d.below(12) {
	case 0:
		s.Nodes = s.Nodes[d.below(int64(len(s.Nodes))+1):]
	case 1:
		s.Nodes = slices.Repeat(s.Nodes, int(d.below(9)))
	case 2:
		s.Entries = slices.Repeat(s.Entries, int(d.below(50)))
	case 3:
		mix(d, s.Entries)
	case 4, 5:
		if n := int64(len(s.Entries)); n > 0 {
			e := &s.Entries[d.below(n)]
			e.Parts = slices.Repeat(append(e.Parts, part(d.below(10)-1, d.below(5)-1)), int(d.below(20)))
		}
	case 6:
		s.Entries = s.Entries[d.below(int64(len(s.Entries))+1):]
	}
	return s
}

func TestStatesAnswerAtEveryArgument(t *testing.T) {
	d, right := dice(389), 0
	commands := append(oneOfEach(), wrongCommands()...)
	for round := range int64(12000) {
		s := spoiltAt(&d, thrownState(&d, round%13))
		if looksAsItIs(t, "thrown", s) {
			right++
			looksApplied(t, s, commands[d.below(int64(len(commands)))])
			continue
		}
		// also where it is not said whether the State is right
		for _, c := range commands[:19] {
			next, n := impl.Applied(s, c)
			if is := impl.StateOk(s); impl.StateOk(next) != is || n < -1 || !is && n != -1 {
				t.Fatalf("%v applied to %v: %v, %d", c, s, next, n)
			}
		}
		impl.NewState(s.Nodes)
	}
	if right < 2000 || right > 10000 {
		t.Fatalf("%d are right", right)
	}
}

func TestLongListsAreNoState(t *testing.T) {
	long := mixedState()
	long.Entries = slices.Repeat(long.Entries, 20000)
	looksNoState(t, "many Entries", long)
	wide := mixedState()
	wide.Nodes = slices.Repeat(wide.Nodes, 50000)
	looksNoState(t, "many Nodes", wide)
	deep := mixedState()
	for _, parts := range [][]impl.Part{held(0, 1), held(0, 0), held(0, 2, 1, 1), held(0, math.MaxInt64)} {
		deep.Entries[1].Parts = slices.Repeat(parts, 100000)
		looksNoState(t, "many Parts", deep)
	}
	rising := mixedState()
	rising.Entries[1].Parts, rising.Entries[1].Job.Cores = nil, 1000
	for k := range int64(1000) {
		rising.Entries[1].Parts = append(rising.Entries[1].Parts, part(k, 1))
	}
	looksNoState(t, "Parts of many Nodes", rising)
}
