package tests

import (
	"slices"
	"testing"

	"loop.example/g00696/impl"
)

// hangByWords says of two good events what the document does: each sentence of it holds both ways round.
func hangByWords(a impl.Event, b impl.Event) bool {
	return hangOneWay(a, b) || hangOneWay(b, a)
}

func hangOneWay(a impl.Event, b impl.Event) bool {
	touch := []int{impl.EvLoad, impl.EvStore}
	sleep := []int{impl.EvWait, impl.EvWake, impl.EvSignal}
	lockOf := map[int]int{impl.EvLock: a.Obj, impl.EvUnlock: a.Obj, impl.EvWait: a.Lock, impl.EvWake: a.Lock}
	otherLockOf := map[int]int{impl.EvLock: b.Obj, impl.EvUnlock: b.Obj, impl.EvWait: b.Lock, impl.EvWake: b.Lock}
	lock, hasLock := lockOf[a.Kind]
	other, otherHas := otherLockOf[b.Kind]
	switch {
	case a.Thread == b.Thread, a.Kind == impl.EvFault:
		return true
	case a.Kind == impl.EvStore && slices.Contains(touch, b.Kind) && a.Obj == b.Obj:
		return true
	case hasLock && otherHas && lock == other:
		return true
	case (a.Kind == impl.EvSignal || a.Kind == impl.EvWait) && slices.Contains(sleep, b.Kind) && a.Obj == b.Obj:
		return true
	case a.Kind == impl.EvSpawn && (b.Kind == impl.EvSpawn || b.Thread == a.Obj):
		return true
	case a.Kind == impl.EvJoin && b.Kind == impl.EvEnd && b.Thread == a.Obj:
		return true
	}
	return a.Kind == impl.EvSignal && b.Thread == a.Lock
}

// hangs asks for it both ways round.
func hangs(t *testing.T, a impl.Event, b impl.Event, want bool) {
	t.Helper()
	for _, pair := range [][2]impl.Event{{a, b}, {b, a}} {
		if is, ok := impl.Hang(pair[0], pair[1]); is != want || !ok {
			t.Errorf("Hang(%v) %v %v", pair, is, ok)
		}
	}
}

// eachKind has one event of each kind, with numbers that fit nothing else.
func eachKind(thread int) []impl.Event {
	var events []impl.Event
	for kind := impl.EvLocal; kind <= impl.EvFault; kind++ {
		events = append(events, eventOf(thread, kind, 20+kind, 40+kind, kind))
	}
	return events
}

func TestHangOfOneThread(t *testing.T) {
	for thread := range impl.MaxThreads {
		for _, a := range eachKind(thread) {
			for _, b := range eachKind(thread) {
				hangs(t, a, b, true)
			}
		}
	}
}

// TestHangOfNothingInCommon has just two spawns, and a fault with any.
func TestHangOfNothingInCommon(t *testing.T) {
	for _, a := range eachKind(1) {
		for _, b := range eachKind(2) {
			b.Obj, b.Lock = b.Obj+40, b.Lock+40
			spawns := a.Kind == impl.EvSpawn && b.Kind == impl.EvSpawn
			hangs(t, a, b, spawns || a.Kind == impl.EvFault || b.Kind == impl.EvFault)
		}
	}
	hangs(t, local(1), local(2), false)
	hangs(t, eventOf(1, impl.EvEnd, -1, -1, 0), eventOf(2, impl.EvEnd, -1, -1, 0), false)
	hangs(t, eventOf(0, impl.EvFault, 1, -1, 0), local(4), true)
	hangs(t, eventOf(0, impl.EvFault, 1, -1, 0), eventOf(4, impl.EvFault, 2, -1, 0), true)
	// Numbers of kinds that name no such thing are none of it.
	for _, n := range []int{-1, 0, 1, 2, 99} {
		hangs(t, eventOf(1, impl.EvLocal, n, n, 5), eventOf(2, impl.EvLocal, n, n, 5), false)
		hangs(t, eventOf(1, impl.EvEnd, n, n, 5), eventOf(2, impl.EvEnd, n, n, 5), false)
		hangs(t, eventOf(1, impl.EvLocal, n, n, 5), eventOf(2, impl.EvEnd, n, n, 5), false)
	}
}

func TestHangByACell(t *testing.T) {
	for _, cell := range []int{0, 1, 7, 99} {
		hangs(t, stores(1, cell), stores(2, cell), true)
		hangs(t, stores(1, cell), loads(2, cell), true)
		hangs(t, loads(1, cell), stores(2, cell), true)
		hangs(t, loads(1, cell), loads(2, cell), false)
		for _, other := range []int{cell ^ 1, (cell + 50) % 100} {
			hangs(t, stores(1, cell), stores(2, other), false)
			hangs(t, stores(1, cell), loads(2, other), false)
			hangs(t, loads(1, cell), loads(2, other), false)
		}
		// The same number of a lock, or of a place to sleep, or a Lock of both, is no cell.
		for _, other := range []impl.Event{takes(2, cell), gives(2, cell), waits(2, cell, cell), wakes(2, cell, cell), eventOf(2, impl.EvSignal, cell, -1, 0)} {
			hangs(t, stores(1, cell), other, false)
			hangs(t, loads(1, cell), other, false)
		}
		hangs(t, eventOf(1, impl.EvStore, cell, 5, 0), eventOf(2, impl.EvStore, cell^1, 5, 0), false)
		hangs(t, eventOf(1, impl.EvStore, cell, 5, 0), eventOf(2, impl.EvLoad, cell, 6, 0), true)
	}
}

// TestHangByALock has each two kinds: the lock is the Obj of these, and the Lock of those.
func TestHangByALock(t *testing.T) {
	makers := []func(thread int, lock int, cond int) impl.Event{
		func(thread int, lock int, cond int) impl.Event { return eventOf(thread, impl.EvLock, lock, cond, 0) },
		func(thread int, lock int, cond int) impl.Event { return eventOf(thread, impl.EvUnlock, lock, cond, 0) },
		func(thread int, lock int, cond int) impl.Event { return eventOf(thread, impl.EvWait, cond, lock, 0) },
		func(thread int, lock int, cond int) impl.Event { return eventOf(thread, impl.EvWake, cond, lock, 0) },
	}
	for _, one := range makers {
		for _, other := range makers {
			for _, lock := range []int{0, 1, 7, 99} {
				hangs(t, one(1, lock, 20), other(2, lock, 30), true)
				hangs(t, one(1, lock, 20), other(2, lock^1, 30), false)
				hangs(t, one(1, lock, 20), other(2, (lock+50)%100, 30), false)
				hangs(t, one(1, lock, lock^1), other(2, lock^1, 30), false)
				hangs(t, one(1, lock, 20), other(2, 30, lock), false)
			}
		}
	}
	hangs(t, takes(1, 3), eventOf(2, impl.EvSignal, 3, 3, 0), false)
	hangs(t, eventOf(1, impl.EvLock, 3, -1, 0), eventOf(2, impl.EvUnlock, 4, -1, 0), false)
}

// TestHangByAPlaceToSleep has unlike locks throughout, but for where two that wake have one in common.
func TestHangByAPlaceToSleep(t *testing.T) {
	wait := func(thread int, cond int) impl.Event { return waits(thread, cond, 20+thread) }
	wake := func(thread int, cond int) impl.Event { return wakes(thread, cond, 20+thread) }
	signal := func(thread int, cond int) impl.Event { return eventOf(thread, impl.EvSignal, cond, -1, 0) }
	for _, cond := range []int{0, 1, 7, 99} {
		hangs(t, wait(1, cond), wait(2, cond), true)
		hangs(t, wait(1, cond), wake(2, cond), true)
		hangs(t, wait(1, cond), signal(2, cond), true)
		hangs(t, signal(1, cond), signal(2, cond), true)
		hangs(t, signal(1, cond), wake(2, cond), true)
		hangs(t, wake(1, cond), wake(2, cond), false)
		hangs(t, wakes(1, cond, 5), wakes(2, cond, 5), true)
		hangs(t, wakes(1, cond, 5), wakes(2, cond^1, 5), true)
		for _, one := range []impl.Event{wait(1, cond), wake(1, cond), signal(1, cond)} {
			for _, other := range []impl.Event{wait(2, cond^1), wake(2, cond^1), signal(2, cond^1), wake(2, (cond+50)%100)} {
				hangs(t, one, other, false)
			}
			for _, other := range []impl.Event{takes(2, cond), gives(2, cond), stores(2, cond), loads(2, cond)} {
				hangs(t, one, other, false)
			}
		}
	}
}

func TestHangByASpawn(t *testing.T) {
	for thread := range impl.MaxThreads {
		other := (thread + 1) % impl.MaxThreads
		for _, obj := range []int{0, 1, 2, 3, 4, 5, 98, 99} {
			spawn := eventOf(other, impl.EvSpawn, obj, thread, 0)
			for kind := impl.EvLocal; kind <= impl.EvFault; kind++ {
				always := kind == impl.EvSpawn || kind == impl.EvFault
				hangs(t, spawn, eventOf(thread, kind, 50, 60, 0), always || obj == thread)
				if kind != impl.EvSpawn && kind != impl.EvFault && kind != impl.EvSignal {
					// Another kind spawns none.
					hangs(t, eventOf(other, kind, thread, 60, 0), local(thread), false)
				}
			}
		}
	}
	hangs(t, eventOf(0, impl.EvSpawn, 3, -1, 0), eventOf(1, impl.EvSpawn, 4, -1, 0), true)
	// Only the thread that is spawned counts: not one that has its number, nor the one that spawned.
	hangs(t, eventOf(0, impl.EvSpawn, 3, -1, 0), eventOf(1, impl.EvLoad, 0, -1, 0), false)
	hangs(t, eventOf(0, impl.EvSpawn, 3, -1, 0), eventOf(1, impl.EvLoad, 3, 3, 0), false)
	hangs(t, eventOf(0, impl.EvSpawn, 3, -1, 0), eventOf(1, impl.EvJoin, 3, -1, 0), false)
}

func TestHangByAJoin(t *testing.T) {
	for thread := range impl.MaxThreads {
		other := (thread + 1) % impl.MaxThreads
		for _, obj := range []int{0, 1, 2, 3, 4, 5, 98, 99} {
			join := eventOf(other, impl.EvJoin, obj, thread, 0)
			hangs(t, join, eventOf(thread, impl.EvEnd, -1, -1, 0), obj == thread)
			hangs(t, join, eventOf(thread, impl.EvEnd, other, other, 0), obj == thread)
			hangs(t, join, local(thread), false)
			hangs(t, join, loads(thread, obj), false)
			hangs(t, join, takes(thread, obj), false)
			hangs(t, join, eventOf(thread, impl.EvJoin, obj, -1, 0), false)
			// An end says nothing by its own numbers.
			hangs(t, eventOf(other, impl.EvEnd, thread, thread, 0), eventOf(thread, impl.EvJoin, 50, 60, 0), false)
		}
	}
}

func TestHangByASignal(t *testing.T) {
	for thread := range impl.MaxThreads {
		other := (thread + 1) % impl.MaxThreads
		for _, woken := range []int{-1, 0, 1, 2, 3, 4, 5, 98, 99} {
			signal := eventOf(other, impl.EvSignal, 9, woken, 0)
			for kind := impl.EvLocal; kind < impl.EvFault; kind++ {
				if kind != impl.EvSpawn {
					hangs(t, signal, eventOf(thread, kind, 50, 60, 0), woken == thread)
				}
				if kind != impl.EvSignal && kind != impl.EvSpawn {
					// Another kind with that Lock wakes none.
					hangs(t, eventOf(other, kind, 50, thread, 0), local(thread), false)
				}
			}
		}
		// The one that is woken is told by Lock, not by Obj.
		hangs(t, eventOf(other, impl.EvSignal, thread, -1, 0), local(thread), false)
		hangs(t, eventOf(other, impl.EvSignal, thread, 99, 0), takes(thread, thread), false)
	}
}

// TestHangOfAllKinds holds it against the document's words.
func TestHangOfAllKinds(t *testing.T) {
	var events []impl.Event
	for kind := impl.EvLocal; kind <= impl.EvFault; kind++ {
		for thread := range 3 {
			eachList(2, []int{-1, 0, 1, 2}, func(nums []int) {
				if e := eventOf(thread, kind, nums[0], nums[1], 0); goodByWords(e) {
					events = append(events, e)
				}
			})
		}
	}
	many := 0
	for _, a := range events {
		for _, b := range events {
			want := hangByWords(a, b)
			if is, ok := impl.Hang(a, b); !ok || is != want {
				t.Fatalf("Hang(%v, %v) %v %v", a, b, is, ok)
			}
			if want {
				many++
			}
		}
	}
	if many < 20000 || many > len(events)*len(events)-20000 {
		t.Error("too few that hang together, or that do not", many)
	}
}

func TestHangOfEventsAtTheirLimits(t *testing.T) {
	for _, n := range []int{0, 99} {
		a := impl.Event{Thread: 0, Kind: impl.EvStore, Obj: n, Lock: 99, Pc: 99}
		b := impl.Event{Thread: impl.MaxThreads - 1, Kind: impl.EvStore, Obj: n, Lock: -1, Pc: 0}
		hangs(t, a, b, true)
		b.Obj = 99 - n
		hangs(t, a, b, false)
	}
}

func TestHangOfEventsThatAreNotGood(t *testing.T) {
	for _, wrong := range wrongEvents() {
		for _, other := range append(wrongEvents(), append(eachKind(0), eachKind(1)...)...) {
			for _, pair := range [][2]impl.Event{{wrong, other}, {other, wrong}} {
				if is, ok := impl.Hang(pair[0], pair[1]); is || ok {
					t.Errorf("Hang(%v) %v %v", pair, is, ok)
				}
			}
		}
	}
	if is, ok := impl.Hang(impl.Event{}, impl.Event{}); is || ok {
		t.Error("two that are no events hang together", is, ok)
	}
}
