package tests

import (
	"slices"
	"testing"

	"loop.example/g00696/impl"
)

const mostOrders = 200

// ordersByTrying changes two that stand side by side again and again, as the document says it.
func ordersByTrying(r impl.Run) [][]int {
	var orders [][]int
	for _, trace := range sameByTrying(r.Trace) {
		threads, _ := impl.ThreadsOf(impl.Run{Trace: trace})
		orders = append(orders, threads)
	}
	slices.SortFunc(orders, slices.Compare)
	return orders
}

func noOrders(t *testing.T, p impl.Prog, r impl.Run) {
	t.Helper()
	if orders, ok := impl.AllOrders(p, r); ok || len(orders) > 0 {
		t.Errorf("AllOrders(%v, %v) %v %v", p, r, orders, ok)
	}
}

// hasOrders asks for all of a run with few enough events, and tells how many there are.
func hasOrders(t *testing.T, p impl.Prog, r impl.Run) int {
	t.Helper()
	want := ordersByTrying(r)
	if len(want) > mostOrders {
		noOrders(t, p, r)
		return len(want)
	}
	orders, ok := impl.AllOrders(p, r)
	if !ok || !samePlaces(orders, want) {
		t.Fatalf("AllOrders(%v, %v) %v %v, not %v", p, r, orders, ok, want)
	}
	if own, _ := impl.ThreadsOf(r); !slices.ContainsFunc(orders, func(order []int) bool { return slices.Equal(order, own) }) {
		t.Fatalf("the run's own order %v is not in %v", own, orders)
	}
	form, _ := impl.FirstForm(r.Trace)
	if first, _ := impl.ThreadsOf(impl.Run{Trace: form}); !slices.Equal(first, orders[0]) {
		t.Fatalf("the first of %v is not the form's %v", orders, first)
	}
	for i, order := range orders {
		if i > 0 && slices.Compare(orders[i-1], order) >= 0 {
			t.Fatalf("%v is not rising", orders)
		}
		x, ok := impl.RunThreads(p, order)
		if !ok || !sameState(x.End, r.End) || x.Code != r.Code {
			t.Fatalf("%v of %v: %v %v", order, r, x, ok)
		}
		isSameBut(t, x.Trace, r.Trace, true)
	}
	return len(orders)
}

// allOf asks for the orders of the run in which these threads go.
func allOf(t *testing.T, p impl.Prog, threads []int, want ...[]int) {
	t.Helper()
	r, ok := impl.RunThreads(p, threads)
	if !ok {
		t.Fatal("no run", p, threads)
	}
	if orders, ok := impl.AllOrders(p, r); !ok || !samePlaces(orders, want) {
		t.Errorf("AllOrders(%v, %v) %v %v, not %v", p, threads, orders, ok, want)
	}
	hasOrders(t, p, r)
}

func TestOrdersOfFewEvents(t *testing.T) {
	for _, p := range []impl.Prog{joiner(), crossed(), loopers(1), sleeping()} {
		r, _ := impl.RunPicks(p, nil, 0)
		if orders, ok := impl.AllOrders(p, r); !ok || len(orders) != 1 || len(orders[0]) > 0 {
			t.Error("the one order of no events", orders, ok)
		}
		allOf(t, p, []int{0}, []int{0})
	}
	p := written(1, 0, 0, "spawn 1; load 0; push 1p0; store 0", "load 0; load 0; load 0")
	allOf(t, p, []int{0, 0}, []int{0, 0})
	allOf(t, p, []int{0, 0, 1}, []int{0, 0, 1}, []int{0, 1, 0})
	// From whichever of them they are asked for.
	four := [][]int{{0, 0, 0, 1, 1}, {0, 0, 1, 0, 1}, {0, 0, 1, 1, 0}, {0, 1, 0, 0, 1}, {0, 1, 0, 1, 0}, {0, 1, 1, 0, 0}}
	for _, order := range four {
		allOf(t, p, order, four...)
	}
	// Behind the store of the one, and ahead of it.
	allOf(t, p, []int{0, 0, 0, 0, 1}, []int{0, 0, 0, 0, 1})
	allOf(t, p, []int{0, 0, 0, 1, 0}, []int{0, 0, 0, 1, 0}, []int{0, 0, 1, 0, 0}, []int{0, 1, 0, 0, 0})
	// The store holds all behind it, though those themselves may stand in any order.
	allOf(t, p, []int{0, 0, 1, 0, 0, 1, 0}, []int{0, 0, 0, 1, 0, 0, 1}, []int{0, 0, 0, 1, 0, 1, 0}, []int{0, 0, 1, 0, 0, 0, 1},
		[]int{0, 0, 1, 0, 0, 1, 0}, []int{0, 1, 0, 0, 0, 0, 1}, []int{0, 1, 0, 0, 0, 1, 0})
	// One thread alone, and one that waits for the other.
	allOf(t, loopers(1), slices.Repeat([]int{0}, 12), slices.Repeat([]int{0}, 12))
	allOf(t, joiner(), []int{0, 1, 1, 1, 0, 0}, []int{0, 1, 1, 1, 0, 0})
}

// TestManyOrders meets the 200 lists, and goes beyond them by one.
func TestManyOrders(t *testing.T) {
	for _, c := range []struct {
		want    int
		threads []int
		first   string
		second  string
	}{
		{199, []int{0, 0, 1, 1, 0, 1, 2, 1, 2, 1, 1}, "load 0; push 1p0; store 0; load 1; push 1p0; store 1", "load 0; load 1; push 1p0; store 0; push 1p0; store 0; push 1p0"},
		{199, []int{0, 0, 0, 1, 2, 1, 2, 1, 2, 2, 1, 1}, "load 1; load 0; load 1; load 1; push 1p0; store 1", "push 1p0; store 1; push 1p0; store 1; load 0"},
		{200, []int{0, 0, 1, 2, 0, 1, 2, 2, 1, 2, 2}, "push 1p0; store 1; load 1; push 1p0; store 1", "push 1p0; store 1; push 1p0; load 0"},
		{200, []int{0, 0, 2, 2, 2, 1, 2, 2, 0, 2, 1, 1}, "load 1; load 0; load 1", "push 1p0; push 1p0; store 1; push 1p0; push 1p0"},
		{201, []int{0, 0, 1, 0, 2, 1, 2, 2, 2, 2, 2, 1}, "load 1; push 1p0; store 0; push 1p0; store 1", "push 1p0; store 1; push 1p0; push 1p0; push 1p0; store 0; load 1"},
		{201, []int{0, 0, 0, 1, 2, 2, 2, 1, 2, 2, 2, 1}, "load 1; push 1p0; store 1", "push 1p0; store 1; push 1p0; store 0; push 1p0; store 1; load 0"},
	} {
		p := written(2, 0, 0, "spawn 1; spawn 2", c.first, c.second)
		r, ok := impl.RunThreads(p, c.threads)
		if !ok || len(ordersByTrying(r)) != c.want {
			t.Fatal("not so many orders", c.want, len(ordersByTrying(r)), ok)
		}
		orders, ok := impl.AllOrders(p, r)
		if ok != (c.want <= 200) || ok && len(orders) != c.want || !ok && len(orders) > 0 {
			t.Errorf("%d orders, but AllOrders tells %d %v", c.want, len(orders), ok)
		}
		hasOrders(t, p, r)
	}
}

// TestFarTooManyOrders has as many as twelve events can have, and ends all the same.
func TestFarTooManyOrders(t *testing.T) {
	p := loopers(impl.MaxThreads)
	for _, threads := range [][]int{{0, 0, 0, 0, 1, 2, 3, 4, 1, 2, 3, 4}, {0, 0, 0, 0, 4, 4, 3, 3, 2, 2, 1, 1}, {0, 0, 0, 0, 1, 1, 1, 2, 2, 2, 3, 3}} {
		r, ok := impl.RunThreads(p, threads)
		if !ok {
			t.Fatal("no run", threads)
		}
		noOrders(t, p, r)
	}
}

func TestEventsOfOrders(t *testing.T) {
	for many := range 20 {
		p := loopers(1)
		r, _ := impl.RunPicks(p, nil, many)
		if orders, ok := impl.AllOrders(p, r); ok != (many <= 12) || ok && (len(orders) != 1 || len(orders[0]) != many) || !ok && len(orders) > 0 {
			t.Error(many, orders, ok)
		}
	}
	r, _ := impl.RunPicks(loopers(1), nil, impl.MaxBudget)
	noOrders(t, loopers(1), r)
	// A run that ends by itself, and one of one event more.
	for _, c := range []struct {
		more string
		many int
	}{{"", 12}, {"; push 1p0", 13}} {
		p := written(1, 0, 0, "spawn 1; join"+c.more, "load 0; load 0; load 0; load 0; push 1p0; push 1p0; store 0; load 0")
		r, _ := impl.RunPicks(p, nil, impl.MaxBudget)
		if len(r.Trace) != c.many || r.Code != impl.RnDone {
			t.Fatal("not so many events", len(r.Trace), r.Code)
		}
		if c.many > 12 {
			noOrders(t, p, r)
		} else if many := hasOrders(t, p, r); many != 1 {
			t.Error("a join leaves one order", many)
		}
	}
}

func TestOrdersOfRuns(t *testing.T) {
	d := draws(94)
	several, tooMany := 0, 0
	for range 400 {
		for _, p := range []impl.Prog{madeUpProg(&d), madeUpProg(&d), sleeping(), crossed()} {
			r, _ := impl.RunPicks(p, madeUpPicks(&d), d.below(11))
			many := hasOrders(t, p, r)
			if many > mostOrders {
				tooMany++
			} else if many > 1 {
				several++
			}
		}
	}
	if several < 300 {
		t.Error("too few runs with several orders", several, tooMany)
	}
}

// TestOrdersOfRunsWithAllTheirEvents takes few of them, since they are found by trying.
func TestOrdersOfRunsWithAllTheirEvents(t *testing.T) {
	d := draws(95)
	for range 60 {
		p := written(1, 1, 1, "spawn 1; lock 0; wait 0 0; unlock 0", "load 0; lock 0; signal 0; unlock 0; push 1p0; store 0")
		r, _ := impl.RunPicks(p, madeUpPicks(&d), 12)
		hasOrders(t, p, r)
		r, _ = impl.RunPicks(p, madeUpPicks(&d), 40)
		if len(r.Trace) <= 12 {
			hasOrders(t, p, r)
		} else {
			noOrders(t, p, r)
		}
	}
}

func TestOrdersOfWrongRuns(t *testing.T) {
	changingRuns(func(name string, p impl.Prog, r impl.Run, k int) {
		r, _ = impl.RunPicks(p, r.Picks, 12)
		hasOrders(t, p, r)
		for i, change := range []func(x *impl.Run){
			func(x *impl.Run) { x.Code = x.Code%4 + 1 },
			func(x *impl.Run) { x.Trace = x.Trace[:len(x.Trace)-1] },
			func(x *impl.Run) { x.Trace = swapped(x.Trace, k) },
			func(x *impl.Run) { x.Trace[0].Pc++ },
			func(x *impl.Run) { x.Trace[3] = impl.Event{} },
			func(x *impl.Run) { x.Trace = nil },
			func(x *impl.Run) { x.Trace = slices.Repeat(x.Trace, 20) },
			func(x *impl.Run) { x.Picks = x.Picks[1:] },
			func(x *impl.Run) { x.Picks[0] = -1 },
			func(x *impl.Run) { x.Picks = make([]int, impl.MaxBudget+1) },
			func(x *impl.Run) { x.End.Cells[0] = 7 },
			func(x *impl.Run) { *x = impl.Run{} },
		} {
			x := copyOfRun(r)
			change(&x)
			if is, _ := impl.IsRun(p, x); is {
				t.Fatal("it is a run still", name, i)
			}
			noOrders(t, p, x)
		}
		for _, wrong := range wrongProgs() {
			noOrders(t, wrong, r)
			noOrders(t, wrong, impl.Run{})
		}
		noOrders(t, joiner(), r)
	})
}
