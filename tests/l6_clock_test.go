package tests

import (
	"slices"
	"testing"

	"loop.example/g00696/impl"
)

// waysByTrying tells for each two places whether a way of steps leads from the first to the second.
func waysByTrying(trace []impl.Event) [][]bool {
	leads := make([][]bool, len(trace))
	for i := range trace {
		leads[i] = make([]bool, len(trace))
		for j := i + 1; j < len(trace); j++ {
			leads[i][j] = stepByWords(trace[i], trace[j])
		}
	}
	for by := range trace {
		for i := range trace {
			for j := range trace {
				leads[i][j] = leads[i][j] || leads[i][by] && leads[by][j]
			}
		}
	}
	return leads
}

// clocksByTrying counts the events of each thread that are at a place, or have a way to it.
func clocksByTrying(trace []impl.Event, leads [][]bool) [][]int {
	clocks := make([][]int, len(trace))
	for j := range trace {
		clocks[j] = make([]int, impl.MaxThreads)
		for i, e := range trace {
			if i == j || leads[i][j] {
				clocks[j][e.Thread]++
			}
		}
	}
	return clocks
}

func stepsByTrying(trace []impl.Event) [][]int {
	var pairs [][]int
	for i := range trace {
		for j := i + 1; j < len(trace); j++ {
			if stepByWords(trace[i], trace[j]) {
				pairs = append(pairs, []int{i, j})
			}
		}
	}
	return pairs
}

func sidesByTrying(trace []impl.Event, leads [][]bool) [][]int {
	var pairs [][]int
	for i := range trace {
		for j := i + 1; j < len(trace); j++ {
			if !leads[i][j] && !leads[j][i] {
				pairs = append(pairs, []int{i, j})
			}
		}
	}
	return pairs
}

// layersByTrying takes off, again and again, those that none of what is left has a way to.
func layersByTrying(leads [][]bool) [][]int {
	var layers [][]int
	var left []int
	for i := range leads {
		left = append(left, i)
	}
	for len(left) > 0 {
		var layer, others []int
		for _, j := range left {
			if slices.ContainsFunc(left, func(i int) bool { return leads[i][j] }) {
				others = append(others, j)
			} else {
				layer = append(layer, j)
			}
		}
		layers = append(layers, layer)
		left = others
	}
	return layers
}

// holdsOfTrace asks for promise 6, and for all that the document says of a good trace. It tells how
// many pairs of places have a way, and how many have one but no step.
func holdsOfTrace(t *testing.T, trace []impl.Event) (int, int) {
	t.Helper()
	if !impl.GoodTrace(trace) {
		t.Fatalf("%v is not good", trace)
	}
	leads := waysByTrying(trace)
	next, ok := impl.NextAfter(trace)
	if !ok || !samePlaces(next, stepsByTrying(trace)) {
		t.Fatalf("NextAfter(%v) %v %v", trace, next, ok)
	}
	clocks, ok := impl.ClocksOf(trace)
	if !ok || !samePlaces(clocks, clocksByTrying(trace, leads)) {
		t.Fatalf("ClocksOf(%v) %v %v", trace, clocks, ok)
	}
	if sides, ok := impl.SideBySide(trace); !ok || !samePlaces(sides, sidesByTrying(trace, leads)) {
		t.Fatalf("SideBySide(%v) %v %v", trace, sides, ok)
	}
	if layers, ok := impl.LayersOf(trace); !ok || !samePlaces(layers, layersByTrying(leads)) {
		t.Fatalf("LayersOf(%v) %v %v", trace, layers, ok)
	}
	ways := 0
	for i := range trace {
		for j := range trace {
			ahead, ok := impl.AheadIn(trace, i, j)
			if !ok || ahead != leads[i][j] {
				t.Fatalf("AheadIn(%v, %d, %d) %v %v", trace, i, j, ahead, ok)
			}
			if less, ok := impl.ClockLess(clocks[i], clocks[j]); !ok || less != ahead {
				t.Fatalf("in %v %d is ahead of %d: %v, but its clock is less: %v %v", trace, i, j, ahead, less, ok)
			}
			if ahead {
				ways++
			}
		}
	}
	return ways, ways - len(next)
}

// madeUpEvent is a good one, with so few objects that many fit each other.
func madeUpEvent(d *draws) impl.Event {
	e := eventOf(d.below(impl.MaxThreads), impl.EvLocal+d.below(impl.EvFault), d.below(4)-1, d.below(4)-1, d.below(100))
	if e.Kind >= impl.EvLoad && e.Kind <= impl.EvSignal {
		e.Obj = max(e.Obj, 0)
	}
	if e.Kind == impl.EvWait || e.Kind == impl.EvWake {
		e.Lock = max(e.Lock, 0)
	}
	return e
}

func madeUpTrace(d *draws, many int) []impl.Event {
	var trace []impl.Event
	for range many {
		trace = append(trace, madeUpEvent(d))
	}
	return trace
}

func TestClocksOfTracesThatNoRunHas(t *testing.T) {
	d := draws(61)
	ways, long := 0, 0
	for range 1500 {
		more, longer := holdsOfTrace(t, madeUpTrace(&d, d.below(25)))
		ways, long = ways+more, long+longer
	}
	for range 3 {
		holdsOfTrace(t, madeUpTrace(&d, impl.MaxBudget))
	}
	if ways < 10000 || long < 3000 {
		t.Error("too few ways, or ways of more than one step", ways, long)
	}
}

// eachSmallTrace goes through all traces of at most so many of these events.
func eachSmallTrace(most int, events []impl.Event, see func(trace []impl.Event)) {
	var places []int
	for place := range events {
		places = append(places, place)
	}
	for many := range most + 1 {
		eachList(many, places, func(list []int) {
			var trace []impl.Event
			for _, place := range list {
				trace = append(trace, events[place])
			}
			see(trace)
		})
	}
}

// TestClocksOfAllSmallTraces goes through all traces of four events, of a kind for each end of a step.
func TestClocksOfAllSmallTraces(t *testing.T) {
	events := []impl.Event{
		local(0), local(1), eventOf(2, impl.EvSpawn, 1, -1, 0), eventOf(1, impl.EvEnd, -1, -1, 0), eventOf(0, impl.EvJoin, 1, -1, 0),
		eventOf(1, impl.EvUnlock, 2, -1, 0), eventOf(0, impl.EvLock, 2, -1, 0), eventOf(0, impl.EvWait, 0, 2, 0), eventOf(2, impl.EvWake, 0, 2, 0),
		eventOf(1, impl.EvSignal, 0, 2, 0),
	}
	eachSmallTrace(4, events, func(trace []impl.Event) { holdsOfTrace(t, trace) })
}

func TestClocksOfRuns(t *testing.T) {
	d := draws(62)
	kinds := map[int]int{}
	long, sides := 0, 0
	see := func(p impl.Prog, budget int) {
		r, ok := impl.RunPicks(p, madeUpPicks(&d), budget)
		if !ok {
			t.Fatal("no run", p, budget)
		}
		_, longer := holdsOfTrace(t, r.Trace)
		pairs, _ := impl.SideBySide(r.Trace)
		long, sides = long+longer, sides+len(pairs)
		for _, e := range r.Trace {
			kinds[e.Kind]++
		}
	}
	for range 500 {
		see(madeUpProg(&d), 30)
	}
	sleepers := "lock 0; wait 0 0; unlock 0; push 1p0; store 0"
	waker := "lock 0; signal 0; unlock 0; load 0; add"
	for range 300 {
		see(written(1, 1, 1, "spawn 1; spawn 1; spawn 2; push 1p0; join; spawn 2", sleepers, waker), 60)
		see(crossed(), 40)
	}
	for kind := impl.EvLocal; kind <= impl.EvFault; kind++ {
		if kinds[kind] < 20 {
			t.Error("too few events of the kind", kind, kinds)
		}
	}
	if long < 1000 || sides < 1000 {
		t.Error("too few ways of more than one step, or pairs side by side", long, sides)
	}
}

func TestClocksAsLongAsMayBe(t *testing.T) {
	r, ok := impl.RunPicks(loopers(impl.MaxThreads), slices.Repeat([]int{0, 1, 2, 3, 4, 3}, 33), impl.MaxBudget)
	if !ok || len(r.Trace) != impl.MaxBudget {
		t.Fatal("no run", r, ok)
	}
	holdsOfTrace(t, r.Trace)
	holdsOfTrace(t, slices.Repeat(handOver(), impl.MaxBudget/10))
	holdsOfTrace(t, slices.Repeat([]impl.Event{local(4)}, impl.MaxBudget))
}

func TestClocksWholly(t *testing.T) {
	clocks, ok := impl.ClocksOf(handOver())
	want := [][]int{
		{1, 0, 0, 0, 0}, {0, 0, 0, 0, 1}, {1, 1, 0, 0, 0}, {1, 1, 1, 0, 0}, {1, 1, 2, 0, 0},
		{1, 1, 2, 1, 0}, {1, 1, 2, 2, 0}, {1, 1, 2, 2, 2}, {1, 1, 2, 2, 3}, {2, 1, 2, 2, 3},
	}
	if !ok || !samePlaces(clocks, want) {
		t.Errorf("%v %v, not %v", clocks, ok, want)
	}
	// Threads 0, 1 and 3 have no events; the event itself counts for its own thread.
	trace := []impl.Event{local(4), local(2), local(2), local(4)}
	want = [][]int{{0, 0, 0, 0, 1}, {0, 0, 1, 0, 0}, {0, 0, 2, 0, 0}, {0, 0, 0, 0, 2}}
	if clocks, ok := impl.ClocksOf(trace); !ok || !samePlaces(clocks, want) {
		t.Errorf("%v %v, not %v", clocks, ok, want)
	}
	for thread := range impl.MaxThreads {
		want := make([]int, impl.MaxThreads)
		want[thread] = 1
		if clocks, ok := impl.ClocksOf([]impl.Event{local(thread)}); !ok || !samePlaces(clocks, [][]int{want}) {
			t.Errorf("%v %v, not %v", clocks, ok, want)
		}
	}
	// Of a thread that was spawned, but has not gone, nothing counts.
	alone, ok := impl.ClocksOf([]impl.Event{eventOf(0, impl.EvSpawn, 1, -1, 0), local(0)})
	if !ok || !samePlaces(alone, [][]int{{1, 0, 0, 0, 0}, {2, 0, 0, 0, 0}}) {
		t.Error(alone, ok)
	}
}

// isLess asks for the answer of two clocks, both ways round.
func isLess(t *testing.T, a []int, b []int, less bool, greater bool) {
	t.Helper()
	if is, ok := impl.ClockLess(a, b); is != less || !ok {
		t.Errorf("ClockLess(%v, %v) %v %v", a, b, is, ok)
	}
	if is, ok := impl.ClockLess(b, a); is != greater || !ok {
		t.Errorf("ClockLess(%v, %v) %v %v", b, a, is, ok)
	}
}

func TestClockLess(t *testing.T) {
	isLess(t, nil, nil, false, false)
	isLess(t, nil, []int{}, false, false)
	isLess(t, []int{0}, []int{0}, false, false)
	isLess(t, []int{0}, []int{1}, true, false)
	isLess(t, []int{1, 0}, []int{1, 1}, true, false)
	isLess(t, []int{0, 1}, []int{1, 1}, true, false)
	isLess(t, []int{0, 0}, []int{1, 1}, true, false)
	isLess(t, []int{1, 0}, []int{0, 1}, false, false)
	isLess(t, []int{5, 5, 5, 5, 5}, []int{5, 5, 5, 5, 5}, false, false)
	isLess(t, []int{5, 5, 5, 5, 4}, []int{5, 5, 5, 5, 5}, true, false)
	isLess(t, []int{4, 5, 5, 5, 5}, []int{5, 5, 5, 5, 5}, true, false)
	isLess(t, []int{0, 0, 9, 0, 0}, []int{9, 9, 8, 9, 9}, false, false)
	isLess(t, []int{0, 0, 0, 0, 9}, []int{9, 9, 9, 9, 8}, false, false)
	isLess(t, []int{9, 0, 0, 0, 0}, []int{8, 9, 9, 9, 9}, false, false)
	isLess(t, []int{-3, -2}, []int{-3, -1}, true, false)
	isLess(t, []int{-3}, []int{3}, true, false)
	isLess(t, []int{-1, 1}, []int{1, -1}, false, false)
	isLess(t, []int{leastInt, greatestInt}, []int{leastInt, greatestInt}, false, false)
	isLess(t, []int{leastInt}, []int{greatestInt}, true, false)
	isLess(t, []int{greatestInt, leastInt}, []int{leastInt, greatestInt}, false, false)
	isLess(t, make([]int, 999), append(make([]int, 998), 1), true, false)
	same := []int{3, 1, 4}
	isLess(t, same, same, false, false)
}

func TestClocksOfAllSmallNumbers(t *testing.T) {
	for many := range 4 {
		eachList(2*many, []int{-1, 0, 1}, func(nums []int) {
			a, b := nums[:many], nums[many:]
			atMost, unlike := true, false
			for i := range a {
				atMost = atMost && a[i] <= b[i]
				unlike = unlike || a[i] != b[i]
			}
			if is, ok := impl.ClockLess(a, b); is != (atMost && unlike) || !ok {
				t.Fatalf("ClockLess(%v, %v) %v %v", a, b, is, ok)
			}
		})
	}
}

func TestClocksOfUnlikeLength(t *testing.T) {
	for _, c := range [][2][]int{
		{nil, {0}}, {{}, {0}}, {{0}, {0, 0}}, {{0}, {1, 1}}, {{5}, {5, 5}}, {{1, 1}, {1}}, {{0, 0}, {1}},
		{make([]int, impl.MaxThreads), make([]int, impl.MaxThreads+1)}, {{-1, -1}, {0, 0, 0}},
	} {
		for _, pair := range [][2][]int{{c[0], c[1]}, {c[1], c[0]}} {
			if is, ok := impl.ClockLess(pair[0], pair[1]); is || ok {
				t.Errorf("ClockLess(%v, %v) %v %v", pair[0], pair[1], is, ok)
			}
		}
	}
}

// sidesAndLayers asks for both answers of a good trace.
func sidesAndLayers(t *testing.T, trace []impl.Event, sides [][]int, layers [][]int) {
	t.Helper()
	if l, ok := impl.SideBySide(trace); !ok || !samePlaces(l, sides) {
		t.Errorf("SideBySide(%v) %v %v, not %v", trace, l, ok, sides)
	}
	if l, ok := impl.LayersOf(trace); !ok || !samePlaces(l, layers) {
		t.Errorf("LayersOf(%v) %v %v, not %v", trace, l, ok, layers)
	}
}

func TestSideBySideAndLayers(t *testing.T) {
	sidesAndLayers(t, nil, nil, nil)
	sidesAndLayers(t, []impl.Event{local(3)}, nil, [][]int{{0}})
	sidesAndLayers(t, []impl.Event{local(3), local(3), local(3)}, nil, [][]int{{0}, {1}, {2}})
	sidesAndLayers(t, []impl.Event{local(2), local(0), local(4)}, [][]int{{0, 1}, {0, 2}, {1, 2}}, [][]int{{0, 1, 2}})
	sidesAndLayers(t, []impl.Event{local(2), local(0), local(0), local(2)}, [][]int{{0, 1}, {0, 2}, {1, 3}, {2, 3}}, [][]int{{0, 1}, {2, 3}})
	sidesAndLayers(t, []impl.Event{local(1), local(1), local(1), local(0)}, [][]int{{0, 3}, {1, 3}, {2, 3}}, [][]int{{0, 3}, {1}, {2}})
	sidesAndLayers(t, handOver(), [][]int{{0, 1}, {1, 2}, {1, 3}, {1, 4}, {1, 5}, {1, 6}}, [][]int{{0, 1}, {2}, {3}, {4}, {5}, {6}, {7}, {8}, {9}})
	// The longest way to a place counts, not the last step to it.
	trace := []impl.Event{local(0), eventOf(0, impl.EvUnlock, 1, -1, 0), eventOf(1, impl.EvUnlock, 1, -1, 0), eventOf(2, impl.EvLock, 1, -1, 0), local(1)}
	sidesAndLayers(t, trace, [][]int{{0, 2}, {0, 4}, {1, 2}, {1, 4}, {3, 4}}, [][]int{{0, 2}, {1, 4}, {3}})
	five := []impl.Event{local(4), local(3), local(2), local(1), local(0)}
	sidesAndLayers(t, five, sidesByTrying(five, waysByTrying(five)), [][]int{{0, 1, 2, 3, 4}})
}

func TestLayersOfOneThread(t *testing.T) {
	trace := slices.Repeat([]impl.Event{local(0)}, impl.MaxBudget)
	layers, ok := impl.LayersOf(trace)
	if !ok || len(layers) != impl.MaxBudget {
		t.Fatal(len(layers), ok)
	}
	for i, layer := range layers {
		if !slices.Equal(layer, []int{i}) {
			t.Error(i, layer)
		}
	}
	if sides, ok := impl.SideBySide(trace); !ok || len(sides) > 0 {
		t.Error(sides, ok)
	}
}

// TestPlacesOfSidesAndLayers asks by the program's own AheadIn, and once for each place.
func TestPlacesOfSidesAndLayers(t *testing.T) {
	d := draws(63)
	for range 300 {
		trace := madeUpTrace(&d, 20)
		sides, _ := impl.SideBySide(trace)
		for _, pair := range sides {
			one, _ := impl.AheadIn(trace, pair[0], pair[1])
			other, _ := impl.AheadIn(trace, pair[1], pair[0])
			if one || other || pair[0] >= pair[1] {
				t.Fatalf("%v are not side by side in %v", pair, trace)
			}
		}
		layers, _ := impl.LayersOf(trace)
		seen := map[int]int{}
		for _, layer := range layers {
			for _, place := range layer {
				seen[place]++
			}
			if !slices.IsSorted(layer) || len(layer) == 0 {
				t.Fatalf("%v is no layer", layer)
			}
		}
		for place := range trace {
			if seen[place] != 1 {
				t.Fatalf("%d is in %d of the layers %v", place, seen[place], layers)
			}
		}
	}
}
