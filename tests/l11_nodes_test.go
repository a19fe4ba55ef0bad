package tests

import (
	"math"
	"slices"
	"testing"

	"loop.example/g00255/impl"
)

// mostCores is the greatest number of used and of Cores that is reckoned with.
const mostCores = 1073741824

func node(cores, state int64) impl.Node {
	return impl.Node{Cores: cores, State: state}
}

func part(of, cores int64) impl.Part {
	return impl.Part{Node: of, Cores: cores}
}

// held are Parts, each told by its Node and its Cores.
func held(numbers ...int64) []impl.Part {
	list := []impl.Part{}
	for i := 0; i < len(numbers); i += 2 {
		list = append(list, part(numbers[i], numbers[i+1]))
	}
	return list
}

// up are Nodes that are up, with so many Cores each.
func up(cores ...int64) []impl.Node {
	list := []impl.Node{}
	for _, n := range cores {
		list = append(list, node(n, 1))
	}
	return list
}

func nodeFields() []fieldOf[impl.Node] {
	return []fieldOf[impl.Node]{
		{"Cores", 1, 100, func(n *impl.Node) *int64 { return &n.Cores }},
		{"State", 1, 3, func(n *impl.Node) *int64 { return &n.State }},
	}
}

// partFields are a Part's fields, of so many Nodes.
func partFields(nodes int) []fieldOf[impl.Part] {
	return []fieldOf[impl.Part]{
		{"Node", 0, int64(nodes) - 1, func(p *impl.Part) *int64 { return &p.Node }},
		{"Cores", 0, mostCores, func(p *impl.Part) *int64 { return &p.Cores }},
	}
}

func wrongNodes() []impl.Node {
	ends := []impl.Node{{}, node(100, 0), node(1, 4), node(0, 1), node(101, 1), node(0, 2), node(101, 3), node(-1, -1), node(math.MinInt64, math.MinInt64), node(math.MaxInt64, math.MaxInt64)}
	return append(ends, spoilt(node(7, 1), nodeFields())...)
}

// noNodes are lists that are not Nodes: none, too many, and one that is wrong in each place.
func noNodes() [][]impl.Node {
	out := [][]impl.Node{nil, {}, slices.Repeat(up(4), 9), slices.Repeat(up(4), 10), slices.Repeat(up(1), 400), slices.Repeat([]impl.Node{node(100, 3)}, 9)}
	for _, wrong := range wrongNodes() {
		for _, n := range []int{1, 2, 8} {
			for i := range n {
				list := slices.Repeat(up(4), n)
				list[i] = wrong
				out = append(out, list)
			}
		}
	}
	return out
}

// noUsed are numbers that can't be used of list: one too few or too many, or one that is wrong in each place.
func noUsed(list []impl.Node) [][]int64 {
	none := make([]int64, len(list))
	out := [][]int64{append(none, 0), append(none, 0, 0, 0), slices.Repeat([]int64{-1}, len(list)+1)}
	if len(list) > 0 {
		out = append(out, none[1:], nil)
	}
	for i, n := range list {
		for _, wrong := range []int64{-1, n.Cores + 1, 101, -n.Cores, mostCores, math.MinInt64, math.MinInt64 + 1, math.MaxInt64 - 1, math.MaxInt64} {
			own := slices.Clone(none)
			own[i] = wrong
			out = append(out, own)
		}
	}
	return out
}

// thrownNodes are n, with what is used of them: of one in four all, of one in four nothing.
func thrownNodes(d *dice, n, cores int64) (list []impl.Node, used []int64) {
	for range n {
		one := node(1+d.below(cores), []int64{1, 1, 1, 2, 3}[d.below(5)])
		list = append(list, one)
		used = append(used, []int64{0, one.Cores, d.below(one.Cores + 1), d.below(one.Cores + 1)}[d.below(4)])
	}
	return list, used
}

// thrownParts are of each Node in three at most twice, in any order.
func thrownParts(d *dice, nodes, cores int64) []impl.Part {
	out := []impl.Part{}
	for k := range nodes {
		for range max(0, d.below(5)-2) {
			out = append(out, part(k, d.below(cores)))
		}
	}
	mix(d, out)
	return out
}

// rightUses are Nodes with what is used of them.
func rightUses() (lists [][]impl.Node, uses [][]int64) {
	d := dice(293)
	for _, n := range []int64{1, 2, 3, 7, 8} {
		for _, cores := range []int64{1, 2, 9, 100} {
			for range 12 {
				list, used := thrownNodes(&d, n, cores)
				lists, uses = append(lists, list), append(uses, used)
			}
		}
	}
	return lists, uses
}

// countPicked goes from core to core, over those that are free of Nodes that are up.
func countPicked(list []impl.Node, used []int64, cores int64) ([]impl.Part, bool) {
	got := map[int64]int64{}
	for k, n := range list {
		for core := int64(0); core < n.Cores; core++ {
			if n.State == 1 && core >= used[k] && cores > 0 {
				got[int64(k)]++
				cores--
			}
		}
	}
	if cores > 0 {
		return nil, false
	}
	out := []impl.Part{}
	for k := range int64(len(list)) {
		if got[k] > 0 {
			out = append(out, part(k, got[k]))
		}
	}
	return out, true
}

// countReady counts the cores that are free, one by one.
func countReady(list []impl.Node, used []int64) int64 {
	free := int64(0)
	for k, n := range list {
		for core := range n.Cores {
			if n.State == 1 && core >= used[k] {
				free++
			}
		}
	}
	return free
}

// countUsed is used with so many times what the Parts have of each Node.
func countUsed(used []int64, parts []impl.Part, times int64) []int64 {
	out := []int64{}
	for k, n := range used {
		for _, p := range parts {
			if p.Node == int64(k) {
				n += times * p.Cores
			}
		}
		out = append(out, n)
	}
	return out
}

// looksMoved holds Taken and Given against what is counted, where all numbers are right.
func looksMoved(t *testing.T, used []int64, parts []impl.Part) {
	t.Helper()
	taken := impl.Taken(used, parts)
	if want := countUsed(used, parts, 1); !slices.Equal(taken, want) {
		t.Fatalf("Taken of %v with %v: %v, not %v", used, parts, taken, want)
	}
	want := countUsed(used, parts, -1)
	if slices.ContainsFunc(want, func(n int64) bool { return n < 0 }) {
		want = nil
	}
	if got := impl.Given(used, parts); !slices.Equal(got, want) {
		t.Fatalf("Given of %v with %v: %v, not %v", used, parts, got, want)
	}
	if slices.ContainsFunc(taken, func(n int64) bool { return n > mostCores }) {
		return
	}
	if got := impl.Given(taken, parts); !slices.Equal(got, used) {
		t.Fatalf("Given of Taken of %v with %v: %v", used, parts, got)
	}
}

// looksNotMoved looks for what is answered where used or a Part is not as told.
func looksNotMoved(t *testing.T, used []int64, parts []impl.Part) {
	t.Helper()
	if got := impl.Taken(used, parts); len(got) != 0 {
		t.Fatalf("Taken of %v with %v: %v", used, parts, got)
	}
	if got := impl.Given(used, parts); len(got) != 0 {
		t.Fatalf("Given of %v with %v: %v", used, parts, got)
	}
}

// looksPicked is promise 11 for Parts that are Picked.
func looksPicked(t *testing.T, list []impl.Node, used []int64, cores int64, parts []impl.Part) {
	t.Helper()
	sum, last := int64(0), int64(-1)
	for _, p := range parts {
		if p.Node <= last || p.Node >= int64(len(list)) {
			t.Fatalf("of %v with %v used, %d Picked: %v do not rise, or are of no Node", list, used, cores, parts)
		}
		if n := list[p.Node]; n.State != 1 || p.Cores < 1 || p.Cores > n.Cores-used[p.Node] {
			t.Fatalf("of %v with %v used, %d Picked: %v is not there", list, used, cores, p)
		}
		sum, last = sum+p.Cores, p.Node
	}
	if sum != cores {
		t.Fatalf("of %v with %v used, %d Picked: %v are %d", list, used, cores, parts, sum)
	}
	taken := impl.Taken(used, parts)
	if !impl.UsedOk(list, taken) {
		t.Fatalf("of %v with %v used: with %v Taken, %v is not right", list, used, parts, taken)
	}
	if was, now := impl.Ready(list, used), impl.Ready(list, taken); now != was-cores {
		t.Fatalf("of %v with %v used: Ready is %d, with %v Taken %d", list, used, was, parts, now)
	}
	looksMoved(t, used, parts)
}

// looksNodes holds all that is told of right Nodes against what is counted.
func looksNodes(t *testing.T, list []impl.Node, used []int64) {
	t.Helper()
	if !impl.NodesOk(list) || !impl.UsedOk(list, used) {
		t.Fatalf("%v with %v used are not right", list, used)
	}
	ready := countReady(list, used)
	if got := impl.Ready(list, used); got != ready {
		t.Fatalf("Ready of %v with %v used: %d, not %d", list, used, got, ready)
	}
	wanted := []int64{math.MinInt64, -1, 0, 1, 2, ready / 2, ready - 1, ready, ready + 1, 2 * ready, 800, 801, mostCores, math.MaxInt64}
	for cores := range min(ready+2, 12) {
		wanted = append(wanted, cores)
	}
	for _, cores := range wanted {
		parts, is := impl.Picked(list, used, cores)
		want, can := countPicked(list, used, min(cores, 2000))
		if cores < 1 {
			want, can = nil, false
		}
		if is != can || !slices.Equal(parts, want) || is != (cores >= 1 && cores <= ready) {
			t.Fatalf("%d Picked of %v with %v used: %v, %v, not %v, %v", cores, list, used, parts, is, want, can)
		}
		if is {
			looksPicked(t, list, used, cores, parts)
		}
	}
}

// looksNoNodes looks for what is answered where list or used is not as told.
func looksNoNodes(t *testing.T, list []impl.Node, used []int64) {
	t.Helper()
	if impl.UsedOk(list, used) {
		t.Fatalf("%v with %v used are right", list, used)
	}
	if got := impl.Ready(list, used); got != -1 {
		t.Fatalf("Ready of %v with %v used: %d", list, used, got)
	}
	for _, cores := range []int64{math.MinInt64, -1, 0, 1, 2, 100, mostCores, math.MaxInt64} {
		if parts, is := impl.Picked(list, used, cores); is || len(parts) != 0 {
			t.Fatalf("%d Picked of %v with %v used: %v, %v", cores, list, used, parts, is)
		}
	}
}

func TestStatesAreTheDocumentsNumbers(t *testing.T) {
	if impl.NdUp != 1 || impl.NdDrain != 2 || impl.NdDown != 3 {
		t.Fatal(impl.NdUp, impl.NdDrain, impl.NdDown)
	}
}

func TestNodesOk(t *testing.T) {
	for _, c := range []struct {
		list []impl.Node
		want bool
	}{
		{nil, false}, {[]impl.Node{}, false}, {up(1), true}, {up(100), true}, {up(0), false}, {up(101), false}, {up(-1), false},
		{[]impl.Node{node(4, 0)}, false}, {[]impl.Node{node(4, 1)}, true}, {[]impl.Node{node(4, 2)}, true}, {[]impl.Node{node(4, 3)}, true}, {[]impl.Node{node(4, 4)}, false}, {[]impl.Node{node(4, -1)}, false},
		{up(1, 2, 3, 4, 5, 6, 7), true}, {up(1, 2, 3, 4, 5, 6, 7, 100), true}, {up(1, 2, 3, 4, 5, 6, 7, 100, 9), false}, {up(5, 5), true},
		{[]impl.Node{node(1, 3), node(100, 2), node(1, 3)}, true}, {[]impl.Node{node(1, 3), node(100, 2), node(1, 0)}, false},
	} {
		if got := impl.NodesOk(c.list); got != c.want {
			t.Errorf("%v: %v", c.list, got)
		}
	}
	for _, f := range nodeFields() {
		for _, n := range []int64{f.least, f.least + 1, f.most} {
			if list := []impl.Node{with(node(7, 1), f, n)}; !impl.NodesOk(list) {
				t.Errorf("%s %d: %v are not right", f.name, n, list)
			}
		}
	}
	for _, list := range noNodes() {
		if impl.NodesOk(list) {
			t.Errorf("%v are right", list)
		}
	}
}

func TestUsedOk(t *testing.T) {
	three := []impl.Node{node(4, 1), node(100, 2), node(1, 3)}
	for _, c := range []struct {
		list []impl.Node
		used []int64
		want bool
	}{
		{three, []int64{0, 0, 0}, true}, {three, []int64{4, 100, 1}, true}, {three, []int64{3, 7, 0}, true},
		{three, []int64{-1, 0, 0}, false}, {three, []int64{0, -1, 0}, false}, {three, []int64{0, 0, -1}, false},
		{three, []int64{5, 0, 0}, false}, {three, []int64{0, 101, 0}, false}, {three, []int64{0, 0, 2}, false},
		{three, []int64{0, 0}, false}, {three, []int64{0, 0, 0, 0}, false}, {three, nil, false},
		{nil, nil, false}, {nil, []int64{0}, false}, {up(0), []int64{0}, false}, {up(101), []int64{0}, false}, {up(1), []int64{1}, true}, {up(1), []int64{2}, false},
		{slices.Repeat(up(2), 8), make([]int64, 8), true}, {slices.Repeat(up(2), 8), make([]int64, 9), false}, {slices.Repeat(up(2), 9), make([]int64, 9), false}, {slices.Repeat(up(2), 9), make([]int64, 8), false},
	} {
		if got := impl.UsedOk(c.list, c.used); got != c.want {
			t.Errorf("%v with %v used: %v", c.list, c.used, got)
		}
	}
}

func TestPickedTable(t *testing.T) {
	mixed := []impl.Node{node(4, 1), node(4, 2), node(2, 1), node(9, 3), node(3, 1)}
	for _, c := range []struct {
		list  []impl.Node
		used  []int64
		ready int64
		cores int64
		want  []impl.Part
	}{
		{up(4), []int64{0}, 4, 1, held(0, 1)}, {up(4), []int64{0}, 4, 4, held(0, 4)}, {up(4), []int64{0}, 4, 5, nil},
		{up(4), []int64{3}, 1, 1, held(0, 1)}, {up(4), []int64{3}, 1, 2, nil}, {up(4), []int64{4}, 0, 1, nil}, {up(4), []int64{0}, 4, 0, nil}, {up(4), []int64{0}, 4, -1, nil},
		{up(1), []int64{0}, 1, 1, held(0, 1)}, {up(100), []int64{0}, 100, 100, held(0, 100)}, {up(100), []int64{0}, 100, 101, nil},
		{mixed, []int64{1, 0, 0, 0, 1}, 7, 1, held(0, 1)}, {mixed, []int64{1, 0, 0, 0, 1}, 7, 3, held(0, 3)}, {mixed, []int64{1, 0, 0, 0, 1}, 7, 4, held(0, 3, 2, 1)},
		{mixed, []int64{1, 0, 0, 0, 1}, 7, 5, held(0, 3, 2, 2)}, {mixed, []int64{1, 0, 0, 0, 1}, 7, 6, held(0, 3, 2, 2, 4, 1)},
		{mixed, []int64{1, 0, 0, 0, 1}, 7, 7, held(0, 3, 2, 2, 4, 2)}, {mixed, []int64{1, 0, 0, 0, 1}, 7, 8, nil},
		{mixed, []int64{4, 4, 2, 9, 0}, 3, 2, held(4, 2)}, {mixed, []int64{4, 4, 0, 9, 0}, 5, 3, held(2, 2, 4, 1)}, {mixed, []int64{4, 0, 2, 0, 3}, 0, 1, nil},
		{[]impl.Node{node(5, 2)}, []int64{0}, 0, 1, nil}, {[]impl.Node{node(5, 3)}, []int64{0}, 0, 1, nil}, {[]impl.Node{node(5, 2), node(5, 3)}, []int64{5, 5}, 0, 1, nil}, {[]impl.Node{node(5, 3), node(5, 1)}, []int64{0, 0}, 5, 5, held(1, 5)},
		{slices.Repeat(up(100), 8), make([]int64, 8), 800, 800, held(0, 100, 1, 100, 2, 100, 3, 100, 4, 100, 5, 100, 6, 100, 7, 100)},
		{slices.Repeat(up(100), 8), make([]int64, 8), 800, 701, held(0, 100, 1, 100, 2, 100, 3, 100, 4, 100, 5, 100, 6, 100, 7, 1)},
		{slices.Repeat(up(100), 8), make([]int64, 8), 800, 700, held(0, 100, 1, 100, 2, 100, 3, 100, 4, 100, 5, 100, 6, 100)},
		{slices.Repeat(up(100), 8), make([]int64, 8), 800, 801, nil}, {slices.Repeat(up(100), 8), make([]int64, 8), 800, math.MaxInt64, nil},
		{slices.Repeat(up(1), 8), []int64{1, 1, 1, 1, 1, 1, 1, 0}, 1, 1, held(7, 1)},
		{slices.Repeat(up(100), 9), make([]int64, 9), -1, 1, nil}, {nil, nil, -1, 1, nil}, {up(4), []int64{5}, -1, 1, nil}, {up(4, 4), []int64{5, 0}, -1, 1, nil}, {up(4, 4), []int64{0, -1}, -1, 1, nil},
		{[]impl.Node{node(4, 1), node(4, 3)}, []int64{0, 5}, -1, 1, nil}, {[]impl.Node{node(4, 1), node(4, 2)}, []int64{0, -1}, -1, 1, nil}, {[]impl.Node{node(4, 1), node(4, 4)}, []int64{0, 0}, -1, 1, nil}, {[]impl.Node{node(4, 1), node(4, 0)}, []int64{0, 0}, -1, 1, nil},
	} {
		if got := impl.Ready(c.list, c.used); got != c.ready {
			t.Errorf("Ready of %v with %v used: %d, not %d", c.list, c.used, got, c.ready)
		}
		if got, is := impl.Picked(c.list, c.used, c.cores); is != (c.want != nil) || !slices.Equal(got, c.want) {
			t.Errorf("%d Picked of %v with %v used: %v, %v, not %v", c.cores, c.list, c.used, got, is, c.want)
		}
		if c.ready >= 0 {
			looksNodes(t, c.list, c.used)
		} else {
			looksNoNodes(t, c.list, c.used)
		}
	}
}

// smallNode is one of 27, with what is used of it: 1 to 3 Cores, in each State, of none to all used.
func smallNode(kind int64) (impl.Node, int64) {
	for cores := int64(1); ; cores++ {
		if ways := 3 * (cores + 1); kind >= ways {
			kind -= ways
			continue
		}
		return node(cores, 1+kind%3), kind / 3
	}
}

// All lists of up to three small Nodes, with all that can be used of them.
func TestPickedOfEveryFew(t *testing.T) {
	for n := 1; n < 4; n++ {
		everyGift(n, 27, func(kinds []int64) {
			list, used := make([]impl.Node, n), make([]int64, n)
			for i, k := range kinds {
				list[i], used[i] = smallNode(k)
			}
			looksNodes(t, list, used)
		})
	}
}

func TestPickedOfMany(t *testing.T) {
	lists, uses := rightUses()
	for i, list := range lists {
		looksNodes(t, list, uses[i])
		looksNodes(t, list, make([]int64, len(list)))
		for _, used := range noUsed(list) {
			looksNoNodes(t, list, used)
		}
	}
}

// Whatever is wanted of eight thrown Nodes, each number of cores up to Ready and one more.
func TestPickedOfEveryNumberOfCores(t *testing.T) {
	d := dice(307)
	for range 20 {
		list, used := thrownNodes(&d, 8, 100)
		ready := countReady(list, used)
		for cores := int64(1); cores <= ready+1; cores++ {
			parts, is := impl.Picked(list, used, cores)
			if want, can := countPicked(list, used, cores); is != can || is != (cores <= ready) || !slices.Equal(parts, want) {
				t.Fatalf("%d Picked of %v with %v used: %v, %v, not %v, %v", cores, list, used, parts, is, want, can)
			}
			if is {
				looksPicked(t, list, used, cores, parts)
			}
		}
	}
}

// One after the other Picked and Taken till nothing is Ready, then Given in any order: it is as it was.
func TestWhatIsPickedInTurnsIsGivenInAnyOrder(t *testing.T) {
	d := dice(311)
	for range 300 {
		list, used := thrownNodes(&d, 1+d.below(8), 1+d.below(100))
		now, turns := slices.Clone(used), [][]impl.Part{}
		for ready := impl.Ready(list, now); ready > 0; ready = impl.Ready(list, now) {
			parts, is := impl.Picked(list, now, 1+d.below(ready))
			if !is {
				t.Fatalf("of %v with %v used nothing is Picked", list, now)
			}
			now, turns = impl.Taken(now, parts), append(turns, parts)
		}
		for i, n := range list {
			if n.State == 1 && now[i] != n.Cores || n.State != 1 && now[i] != used[i] {
				t.Fatalf("of %v with %v used, all that was Ready is Taken: %v", list, used, now)
			}
		}
		mix(&d, turns)
		for _, parts := range turns {
			now = impl.Given(now, parts)
			if !impl.UsedOk(list, now) {
				t.Fatalf("of %v: %v is used", list, now)
			}
		}
		if !slices.Equal(now, used) {
			t.Fatalf("of %v with %v used: all Given, %v", list, used, now)
		}
	}
}

// Nothing is Picked of a Node that is drained or down, and what is used there changes nothing.
func TestNodesThatAreNotUpGiveNothing(t *testing.T) {
	d := dice(313)
	for range 300 {
		list, used := thrownNodes(&d, 1+d.below(8), 9)
		k := d.below(int64(len(list)))
		for _, state := range []int64{2, 3} {
			list[k].State = state
			ready := impl.Ready(list, used)
			cores := max(1, d.below(ready+2))
			parts, is := impl.Picked(list, used, cores)
			if slices.ContainsFunc(parts, func(p impl.Part) bool { return p.Node == k }) || is != (cores <= ready) {
				t.Fatalf("%d Picked of %v with %v used: %v, %v", cores, list, used, parts, is)
			}
			for n := range list[k].Cores + 1 {
				own := slices.Clone(used)
				own[k] = n
				got, can := impl.Picked(list, own, cores)
				if impl.Ready(list, own) != ready || can != is || !slices.Equal(got, parts) {
					t.Fatalf("%d Picked of %v with %v used: %v, with %v used %v", cores, list, used, parts, own, got)
				}
			}
		}
	}
}

func TestTakenAndGivenTable(t *testing.T) {
	const most = mostCores
	nine := []int64{1, 2, 3, 4, 5, 6, 7, 8, 9}
	for _, c := range []struct {
		what         string
		used         []int64
		parts        []impl.Part
		taken, given []int64
	}{
		{"no Parts", []int64{3, 0, 7}, nil, []int64{3, 0, 7}, []int64{3, 0, 7}}, {"no used, no Parts", nil, nil, nil, nil}, {"no used", nil, held(0, 1), nil, nil}, {"no used, no Cores", []int64{}, held(0, 0), nil, nil},
		{"one", []int64{5}, held(0, 2), []int64{7}, []int64{3}}, {"just all", []int64{5, 1}, held(0, 5), []int64{10, 1}, []int64{0, 1}}, {"one below", []int64{5, 1}, held(0, 6), []int64{11, 1}, nil},
		{"first and last", []int64{5, 1, 4}, held(0, 2, 2, 4), []int64{7, 1, 8}, []int64{3, 1, 0}}, {"one below at the last", []int64{5, 1, 4}, held(0, 2, 2, 5), []int64{7, 1, 9}, nil},
		{"of none used", []int64{0, 0}, held(1, 1), []int64{0, 1}, nil}, {"no Cores of none used", []int64{0, 0}, held(1, 0), []int64{0, 0}, []int64{0, 0}},
		{"a Node past the last", []int64{5, 5}, held(2, 1), nil, nil}, {"a Node below 0", []int64{5, 5}, held(-1, 1), nil, nil}, {"a Node past the last, behind a right one", []int64{5, 5}, held(0, 1, 2, 1), nil, nil}, {"a Node below 0 ahead of a right one", []int64{5, 5}, held(-1, 1, 0, 1), nil, nil},
		{"no Cores of a Node past the last", []int64{5, 5}, held(2, 0), nil, nil}, {"no Cores of a Node below 0", []int64{5, 5}, held(-1, 0), nil, nil},
		{"Cores below 0", []int64{5, 5}, held(1, -1), nil, nil}, {"Cores below 0 with others above", []int64{5, 5}, held(1, 3, 1, -1), nil, nil}, {"Cores below 0 with as many above", []int64{5, 5}, held(1, -3, 1, 3), nil, nil},
		{"Cores of 2^30", []int64{0, 5}, held(0, most), []int64{most, 5}, nil}, {"Cores of one more", []int64{0, 5}, held(0, most+1), nil, nil}, {"Cores of 2^30, all of them", []int64{most, 5}, held(0, most), []int64{2 * most, 5}, []int64{0, 5}}, {"one more of all", []int64{most - 1, 5}, held(0, most), []int64{2*most - 1, 5}, nil},
		{"2^30 used", []int64{most, 5}, held(1, 2), []int64{most, 7}, []int64{most, 3}}, {"one more used", []int64{most + 1, 5}, held(1, 2), nil, nil}, {"one more used, of it", []int64{most + 1}, held(0, 2), nil, nil}, {"one more used, no Parts", []int64{5, most + 1}, nil, nil, nil},
		{"used below 0", []int64{-1, 5}, held(1, 2), nil, nil}, {"used below 0, with as many", []int64{-1, 5}, held(0, 1), nil, nil}, {"used below 0, no Parts", []int64{5, -1}, nil, nil, nil}, {"used below 0, no Cores", []int64{5, -1}, held(1, 0), nil, nil},
		{"one Node in two Parts", []int64{5, 9}, held(1, 2, 1, 3), []int64{5, 14}, []int64{5, 4}}, {"in two Parts, just all", []int64{5, 9}, held(1, 2, 1, 7), []int64{5, 18}, []int64{5, 0}}, {"in two Parts, one below", []int64{5, 9}, held(1, 3, 1, 7), []int64{5, 19}, nil}, {"in two Parts with one between", []int64{5, 9}, held(1, 2, 0, 1, 1, 3), []int64{6, 14}, []int64{4, 4}},
		{"one Part twice", []int64{5, 9}, held(1, 4, 1, 4), []int64{5, 17}, []int64{5, 1}}, {"one Node thrice 2^30", []int64{most}, held(0, most, 0, most, 0, most), []int64{4 * most}, nil}, {"falling", []int64{5, 9}, held(1, 2, 0, 1), []int64{6, 11}, []int64{4, 7}},
		{"more used than there are Nodes", nine, held(8, 9), []int64{1, 2, 3, 4, 5, 6, 7, 8, 18}, []int64{1, 2, 3, 4, 5, 6, 7, 8, 0}}, {"and past them", nine, held(9, 1), nil, nil},
		{"ends of int64", []int64{5}, held(0, math.MaxInt64), nil, nil}, {"ends of int64, below", []int64{5}, held(0, math.MinInt64), nil, nil}, {"a Node at the end", []int64{5}, held(math.MaxInt64, 1), nil, nil}, {"a Node at the other end", []int64{5}, held(math.MinInt64, 1), nil, nil},
		{"a Node that is 0 in 32 bits", []int64{5}, held(1<<32, 1), nil, nil}, {"used at the end", []int64{math.MaxInt64}, held(0, 1), nil, nil}, {"used at the other end", []int64{math.MinInt64}, held(0, 1), nil, nil},
	} {
		if got := impl.Taken(c.used, c.parts); !slices.Equal(got, c.taken) {
			t.Errorf("%s: Taken of %v with %v: %v, not %v", c.what, c.used, c.parts, got, c.taken)
		}
		if got := impl.Given(c.used, c.parts); !slices.Equal(got, c.given) {
			t.Errorf("%s: Given of %v with %v: %v, not %v", c.what, c.used, c.parts, got, c.given)
		}
	}
}

// All Parts of a small field, up to three of them, of all that can be used of two Nodes.
func TestTakenAndGivenOfEveryFew(t *testing.T) {
	for _, used := range [][]int64{{0, 0}, {0, 2}, {1, 1}, {2, 3}, {4, 4}, {mostCores - 1, mostCores}} {
		for n := range 4 {
			everyGift(n, 20, func(kinds []int64) {
				parts, right := []impl.Part{}, true
				for _, k := range kinds {
					parts = append(parts, part(k%4-1, k/4-1))
					right = right && k%4 > 0 && k%4 < 3 && k/4 > 0
				}
				if right {
					looksMoved(t, used, parts)
				} else {
					looksNotMoved(t, used, parts)
				}
			})
		}
	}
}

func TestGivenOfTakenIsAsItWas(t *testing.T) {
	d := dice(317)
	for range 4000 {
		nodes := d.below(12)
		cores := []int64{2, 5, 101, mostCores / 4}[d.below(4)]
		used := []int64{}
		for range nodes {
			used = append(used, d.below(cores))
		}
		looksMoved(t, used, thrownParts(&d, nodes, cores))
	}
	long := make([]int64, 1000)
	parts := []impl.Part{}
	for i := range long {
		long[i] = int64(i)
		parts = append(parts, part(int64(i), int64(i)), part(999-int64(i), 1))
	}
	looksMoved(t, long, parts)
	looksMoved(t, long, parts[:1998:1998][:1000])
}

// Right Parts and right used, with one thing spoilt in each place.
func TestWrongPartsAreNotMoved(t *testing.T) {
	d := dice(331)
	for range 20 {
		nodes := 1 + d.below(8)
		used, parts := make([]int64, nodes), thrownParts(&d, nodes, 9)
		for k := range used {
			used[k] = 50 + d.below(50)
		}
		looksMoved(t, used, parts)
		for i, right := range parts {
			for _, wrong := range spoilt(right, partFields(len(used))) {
				own := slices.Clone(parts)
				own[i] = wrong
				looksNotMoved(t, used, own)
			}
		}
		for k := range used {
			for _, wrong := range []int64{-1, -mostCores, mostCores + 1, math.MinInt64, math.MaxInt64} {
				own := slices.Clone(used)
				own[k] = wrong
				looksNotMoved(t, own, parts)
				looksNotMoved(t, own, nil)
			}
		}
	}
}

func TestWrongNodesAreRefused(t *testing.T) {
	for _, list := range noNodes() {
		for _, n := range []int{len(list), len(list) + 1, 0, 1, 8, 9} {
			looksNoNodes(t, list, make([]int64, n))
		}
		own := []int64{}
		for _, n := range list {
			own = append(own, n.Cores)
		}
		looksNoNodes(t, list, own)
	}
}

// Promise 21 for chapter 11: nothing is written into what is handed in, nor behind it, and what is answered is no part of it.
func TestNodesShareNoMemory(t *testing.T) {
	lists, uses := rightUses()
	for _, wrong := range noNodes() {
		lists, uses = append(lists, wrong), append(uses, make([]int64, len(wrong)))
	}
	d := dice(337)
	for i, right := range lists {
		list, allNodes := roomFor(right, node(7, 7), node(0, 0), node(5, 1))
		used, allUsed := roomFor(uses[i], 7, 0, -5)
		looks := func(what string) {
			t.Helper()
			looksStill(t, what, list, allNodes)
			looksStill(t, what, used, allUsed)
		}
		impl.NodesOk(list)
		impl.UsedOk(list, used)
		some := [][]impl.Part{nil, thrownParts(&d, int64(len(used)), 9)}
		for _, cores := range []int64{1, impl.Ready(list, used), 5} {
			picked := func() []impl.Part {
				parts, _ := impl.Picked(list, used, cores)
				return parts
			}
			looksUnshared(t, "Picked", part(-77, -77), picked)
			looks("Picked")
			some = append(some, picked())
		}
		for _, own := range some {
			parts, allParts := roomFor(own, part(7, 7), part(-5, 0), part(8, 8))
			for _, move := range []func([]int64, []impl.Part) []int64{impl.Taken, impl.Given} {
				looksUnshared(t, "Taken or Given", -77, func() []int64 { return move(used, parts) })
				looks("Taken or Given")
				looksStill(t, "Taken or Given", parts, allParts)
			}
		}
	}
}

func TestNodesAnswerAtEveryArgument(t *testing.T) {
	d := dice(347)
	ends := []int64{math.MinInt64, math.MinInt64 + 1, -mostCores, -2, -1, 0, 1, 2, 3, 4, 7, 8, 9, 100, 101, mostCores, mostCores + 1, math.MaxInt64 - 1, math.MaxInt64}
	end := func() int64 { return ends[d.below(int64(len(ends)))] }
	small := func() int64 { return d.below(4) }
	for range 100000 {
		pick, list, used, parts := end, []impl.Node{}, []int64{}, []impl.Part{}
		if d.below(2) > 0 {
			pick = small
		}
		for range d.below(10) {
			list, used = append(list, node(1+pick(), 1+d.below(3))), append(used, pick())
		}
		if k := d.below(40); k < int64(len(list)) {
			list[k].State = end()
		}
		for range d.below(4) {
			parts = append(parts, part(pick(), pick()))
		}
		if d.below(4) == 0 {
			used = append(used, pick())[d.below(2):]
		}
		nodesOk := len(list) >= 1 && len(list) <= 8 && !slices.ContainsFunc(list, func(n impl.Node) bool { return n.Cores < 1 || n.Cores > 100 || n.State < 1 || n.State > 3 })
		if got := impl.NodesOk(list); got != nodesOk {
			t.Fatalf("%v: %v", list, got)
		}
		usedOk := nodesOk && len(used) == len(list)
		for i, n := range list {
			usedOk = usedOk && used[i] >= 0 && used[i] <= n.Cores
		}
		if usedOk {
			looksNodes(t, list, used)
		} else {
			looksNoNodes(t, list, used)
		}
		wrong := func(n int64) bool { return n < 0 || n > mostCores }
		wrongPart := func(p impl.Part) bool { return p.Node < 0 || p.Node >= int64(len(used)) || wrong(p.Cores) }
		if slices.ContainsFunc(used, wrong) || slices.ContainsFunc(parts, wrongPart) {
			looksNotMoved(t, used, parts)
		} else {
			looksMoved(t, used, parts)
		}
	}
}
