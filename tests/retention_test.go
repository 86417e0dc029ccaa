package tests

import (
	"fmt"
	"slices"
	"testing"
	"time"

	"loop.example/g00228/impl"
)

const (
	day  = 86400
	week = 7 * day
	// The first Monday of all times, at which the week 1 begins.
	monday = 4 * day
)

func policy(last int64, daily int64, weekly int64) impl.Policy {
	return impl.Policy{Last: last, Daily: daily, Weekly: weekly}
}

func dayByRule(at int64) string {
	return time.Unix(at, 0).UTC().Format("2006-01-02")
}

// weekByRule tells the Monday that is not behind the time: weeks of the document begin where those of the calendar do.
func weekByRule(at int64) string {
	t := time.Unix(at, 0).UTC()
	for t.Weekday() != time.Monday {
		t = t.AddDate(0, 0, -1)
	}
	return t.Format("2006-01-02")
}

// ruleKeeps tells whether a place is the last one of its group, and how many groups are behind it at most.
func ruleKeeps(times []int64, place int, most int64, group func(at int64) string) bool {
	own := group(times[place])
	behind := map[string]bool{}
	for _, at := range times[place+1:] {
		if group(at) == own {
			return false
		}
		behind[group(at)] = true
	}
	return int64(len(behind)) < most
}

func keptByRule(times []int64, p impl.Policy) []int64 {
	var places []int64
	for i := range times {
		if int64(len(times)-i) <= p.Last || ruleKeeps(times, i, p.Daily, dayByRule) || ruleKeeps(times, i, p.Weekly, weekByRule) {
			places = append(places, int64(i))
		}
	}
	return places
}

func checkKept(t *testing.T, times []int64, p impl.Policy, want ...int64) {
	t.Helper()
	if places, ok := impl.Keep(times, p); !ok || !slices.Equal(places, want) {
		t.Errorf("Keep of %v by %v: %v, %v, not %v", times, p, places, ok, want)
	}
}

func checkNotKept(t *testing.T, what string, times []int64, p impl.Policy) {
	t.Helper()
	if places, ok := impl.Keep(times, p); ok || len(places) != 0 {
		t.Errorf("%s: Keep of %d times by %v: %v, %v", what, len(times), p, places, ok)
	}
}

func somePolicies() []impl.Policy {
	list := []impl.Policy{policy(50, 50, 50), policy(50, 0, 0), policy(0, 50, 0), policy(0, 0, 50), policy(20, 0, 0), policy(19, 0, 0)}
	for last := range int64(4) {
		for daily := range int64(4) {
			for weekly := range int64(4) {
				list = append(list, policy(last, daily, weekly))
			}
		}
	}
	return list
}

func wrongPolicies() []impl.Policy {
	var list []impl.Policy
	for _, n := range []int64{-1, 51, 52, 256, 1 << 32, greatest, lowest} {
		list = append(list, policy(n, 0, 0), policy(0, n, 0), policy(0, 0, n), policy(n, 50, 50), policy(50, n, 50), policy(50, 50, n), policy(n, n, n))
	}
	return list
}

// alike has just so many times, all the same.
func alike(count int, at int64) []int64 {
	return slices.Repeat([]int64{at}, count)
}

// stepped has just so many times, each a step behind the one ahead.
func stepped(count int, from int64, step int64) []int64 {
	var times []int64
	for i := range int64(count) {
		times = append(times, from+i*step)
	}
	return times
}

func someTimes() [][]int64 {
	list := [][]int64{
		nil, {0}, {impl.MaxTime}, {0, impl.MaxTime}, {5, 5}, {0, 1}, {0, day - 1}, {0, day}, {day - 1, day}, {day - 1, day - 1, day, day},
		{monday - 1, monday}, {monday - day, monday - 1, monday, monday + day - 1, monday + day}, {monday, monday + week - 1, monday + week},
		{0, day, monday - 1, monday, monday + week - 1, monday + week, monday + 2*week, monday + 5*week},
		{0, 100, 86400, 86500, 700000}, {impl.MaxTime - 1, impl.MaxTime}, {impl.MaxTime - week, impl.MaxTime - day, impl.MaxTime},
		alike(100, 0), alike(100, monday), alike(100, impl.MaxTime), append(alike(50, monday-1), alike(50, monday)...),
		stepped(100, 0, day), stepped(100, monday-1, day), stepped(100, 0, week), stepped(100, monday-1, week), stepped(100, 3, 3600),
		stepped(100, 1, day/2), stepped(100, 1, day/3+7), stepped(60, monday, 3*day), stepped(99, impl.MaxTime-98*day, day), stepped(100, 0, impl.MaxTime/99),
	}
	for seed := range uint64(40) {
		drawn := someBytes(seed, 40)
		at, unit := int64(seed)*100000, []int64{500, 9000, 40000, day, 3 * day}[seed%5]
		var times []int64
		for i := range int(seed) + 1 {
			times = append(times, at)
			at += int64(drawn[i]%5) * unit * int64(drawn[i]%3)
		}
		list = append(list, times)
	}
	return list
}

func TestPromise13PoliciesThatAreRight(t *testing.T) {
	for _, p := range append(somePolicies(), policy(0, 0, 0), policy(50, 50, 50), policy(1, 50, 0), policy(49, 0, 50)) {
		if !impl.PolicyOk(p) {
			t.Errorf("%v is not right", p)
		}
	}
	for _, p := range wrongPolicies() {
		if impl.PolicyOk(p) {
			t.Errorf("%v is right", p)
		}
		checkNotKept(t, "a policy that is not right", nil, p)
		checkNotKept(t, "a policy that is not right", []int64{1, 2, 3}, p)
	}
}

func TestPromise13Weeks(t *testing.T) {
	for at, want := range map[int64]int64{
		0: 0, 1: 0, day: 0, monday - 1: 0, monday: 1, monday + 1: 1, monday + week - 1: 1, monday + week: 2, monday + 2*week - 1: 2, monday + 2*week: 3,
		700000: 1, 86500: 0, impl.MaxTime - 1: 165344, impl.MaxTime: 165344,
		-1: -1, -day: -1, -week: -1, lowest: -1, impl.MaxTime + 1: -1, impl.MaxTime + week: -1, impl.MaxNumber: -1, greatest: -1,
	} {
		if got := impl.WeekOf(at); got != want {
			t.Errorf("WeekOf(%d): %d, not %d", at, got, want)
		}
	}
	for _, times := range someTimes() {
		for i, at := range times {
			if i > 0 && (impl.WeekOf(at) == impl.WeekOf(times[i-1])) != (weekByRule(at) == weekByRule(times[i-1])) {
				t.Errorf("the weeks of %d and %d: %d, %d", times[i-1], at, impl.WeekOf(times[i-1]), impl.WeekOf(at))
			}
		}
	}
	for n := range int64(3000) {
		begins := monday + n*week
		if impl.WeekOf(begins) != n+1 || impl.WeekOf(begins-1) != n || impl.WeekOf(begins+week-1) != n+1 {
			t.Errorf("about %d: %d, %d, %d", begins, impl.WeekOf(begins-1), impl.WeekOf(begins), impl.WeekOf(begins+week-1))
		}
	}
}

func TestPromise13TheNewestAreKept(t *testing.T) {
	times := []int64{0, 0, 100, day, 9 * day}
	checkKept(t, times, policy(0, 0, 0))
	checkKept(t, times, policy(1, 0, 0), 4)
	checkKept(t, times, policy(2, 0, 0), 3, 4)
	checkKept(t, times, policy(4, 0, 0), 1, 2, 3, 4)
	checkKept(t, times, policy(5, 0, 0), 0, 1, 2, 3, 4)
	checkKept(t, times, policy(6, 0, 0), 0, 1, 2, 3, 4)
	checkKept(t, times, policy(50, 0, 0), 0, 1, 2, 3, 4)
	checkKept(t, nil, policy(50, 50, 50))
	checkKept(t, []int64{7}, policy(1, 0, 0), 0)
	checkKept(t, alike(100, 7), policy(2, 0, 0), 98, 99)
	checkKept(t, alike(100, 7), policy(50, 0, 0), stepped(50, 50, 1)...)
	checkKept(t, stepped(100, 0, 1), policy(49, 0, 0), stepped(49, 51, 1)...)
}

func TestPromise13TheLastOfEachDay(t *testing.T) {
	times := []int64{0, day - 1, day, day + 1, 3 * day, 9*day - 1, 9 * day}
	checkKept(t, times, policy(0, 1, 0), 6)
	checkKept(t, times, policy(0, 2, 0), 5, 6)
	checkKept(t, times, policy(0, 3, 0), 4, 5, 6)
	checkKept(t, times, policy(0, 4, 0), 3, 4, 5, 6)
	checkKept(t, times, policy(0, 5, 0), 1, 3, 4, 5, 6)
	checkKept(t, times, policy(0, 50, 0), 1, 3, 4, 5, 6)
	// The last second of a day, and the first one of the next: within a week, and where the week changes, too.
	checkKept(t, []int64{day - 1, day}, policy(0, 1, 0), 1)
	checkKept(t, []int64{day - 1, day}, policy(0, 2, 0), 0, 1)
	checkKept(t, []int64{day - 2, day - 1}, policy(0, 2, 0), 1)
	checkKept(t, []int64{day, day + 1}, policy(0, 2, 0), 1)
	checkKept(t, []int64{monday - 1, monday}, policy(0, 2, 0), 0, 1)
	checkKept(t, []int64{monday, monday + day - 1, monday + day}, policy(0, 2, 0), 1, 2)
	checkKept(t, alike(100, 5), policy(0, 50, 0), 99)
	checkKept(t, []int64{0}, policy(0, 1, 0), 0)
	checkKept(t, []int64{0}, policy(0, 50, 0), 0)
	checkKept(t, stepped(100, 0, day), policy(0, 50, 0), stepped(50, 50, 1)...)
	checkKept(t, stepped(100, 0, day/2), policy(0, 3, 0), 95, 97, 99)
}

func TestPromise13TheLastOfEachWeek(t *testing.T) {
	times := []int64{0, monday - 1, monday, monday + day, monday + week - 1, monday + week, monday + 9*week, monday + 9*week + day}
	checkKept(t, times, policy(0, 0, 1), 7)
	checkKept(t, times, policy(0, 0, 2), 5, 7)
	checkKept(t, times, policy(0, 0, 3), 4, 5, 7)
	checkKept(t, times, policy(0, 0, 4), 1, 4, 5, 7)
	checkKept(t, times, policy(0, 0, 5), 1, 4, 5, 7)
	checkKept(t, times, policy(0, 0, 50), 1, 4, 5, 7)
	// Days at which the week changes, and days at which it doesn't.
	checkKept(t, []int64{monday - 1, monday}, policy(0, 0, 2), 0, 1)
	checkKept(t, []int64{monday - 1, monday}, policy(0, 0, 1), 1)
	checkKept(t, []int64{day - 1, day}, policy(0, 0, 2), 1)
	checkKept(t, []int64{monday + day - 1, monday + day}, policy(0, 0, 2), 1)
	checkKept(t, []int64{monday - 3*day, monday + 3*day}, policy(0, 0, 2), 0, 1)
	checkKept(t, []int64{monday, monday + 6*day}, policy(0, 0, 2), 1)
	checkKept(t, alike(100, monday), policy(0, 0, 50), 99)
	checkKept(t, []int64{0}, policy(0, 0, 1), 0)
	checkKept(t, stepped(100, monday, week), policy(0, 0, 50), stepped(50, 50, 1)...)
}

func TestPromise13RulesThatKeepTheSamePlace(t *testing.T) {
	times := []int64{0, 100, day, day + 100, 700000}
	checkKept(t, times, policy(1, 1, 1), 4)
	checkKept(t, times, policy(2, 2, 2), 3, 4)
	checkKept(t, times, policy(3, 1, 1), 2, 3, 4)
	checkKept(t, times, policy(1, 3, 1), 1, 3, 4)
	checkKept(t, times, policy(1, 0, 2), 3, 4)
	checkKept(t, times, policy(0, 1, 2), 3, 4)
	checkKept(t, times, policy(0, 3, 2), 1, 3, 4)
	checkKept(t, times, policy(3, 3, 0), 1, 2, 3, 4)
	checkKept(t, times, policy(50, 50, 50), 0, 1, 2, 3, 4)
	// Days and weeks that change together.
	times = []int64{monday - day, monday - 1, monday, monday + 1, monday + day, monday + week}
	checkKept(t, times, policy(0, 2, 2), 4, 5)
	checkKept(t, times, policy(0, 3, 3), 1, 3, 4, 5)
	checkKept(t, times, policy(1, 1, 3), 1, 4, 5)
}

func TestPromise13KeptAsTheDocumentSays(t *testing.T) {
	for _, times := range someTimes() {
		for _, p := range somePolicies() {
			checkKept(t, times, p, keptByRule(times, p)...)
		}
	}
	// Times of all edges about two days at which the week changes, in all ways.
	edges := []int64{monday - day, monday - 1, monday, monday + day - 1, monday + day, monday + week - 1, monday + week}
	for taken := range 1 << (2 * len(edges)) {
		var times []int64
		for i, at := range edges {
			times = append(times, alike(taken>>(2*i)&3%3, at)...)
		}
		for _, p := range []impl.Policy{policy(0, 1, 1), policy(0, 3, 0), policy(1, 0, 2), policy(2, 2, 3)} {
			checkKept(t, times, p, keptByRule(times, p)...)
		}
	}
}

func TestPromise13WithAGreaterPolicyNoFewer(t *testing.T) {
	for _, times := range someTimes() {
		for _, p := range somePolicies() {
			places, _ := impl.Keep(times, p)
			for _, q := range []impl.Policy{policy(p.Last+1, p.Daily, p.Weekly), policy(p.Last, p.Daily+1, p.Weekly), policy(p.Last, p.Daily, p.Weekly+1), policy(p.Last+2, p.Daily+2, p.Weekly+2)} {
				more, ok := impl.Keep(times, q)
				if ok != (max(q.Last, q.Daily, q.Weekly) <= impl.MaxKeep) {
					t.Errorf("Keep by %v: %v", q, ok)
				}
				for _, place := range places {
					if ok && !slices.Contains(more, place) {
						t.Errorf("of %v the place %d is kept by %v, but not by %v", times, place, p, q)
					}
				}
			}
		}
	}
}

func TestPromise13TimesThatMayNotBe(t *testing.T) {
	all := policy(50, 50, 50)
	checkKept(t, stepped(100, 0, 0), policy(0, 0, 0))
	checkKept(t, stepped(99, 0, 1), policy(1, 0, 0), 98)
	checkKept(t, stepped(100, 0, 1), policy(1, 0, 0), 99)
	for _, p := range []impl.Policy{all, policy(0, 0, 0), policy(1, 0, 0), policy(0, 1, 0), policy(0, 0, 1)} {
		for _, count := range []int{101, 102, 1000, 100000} {
			checkNotKept(t, "more than MaxTimes", alike(count, 5), p)
			checkNotKept(t, "more than MaxTimes", stepped(count, 0, 1), p)
		}
		for _, at := range []int64{-1, -day, lowest} {
			checkNotKept(t, "a time below 0", []int64{at}, p)
			checkNotKept(t, "a time below 0", []int64{at, 0, 1}, p)
			checkNotKept(t, "times below 0", []int64{at, at}, p)
		}
		for _, at := range []int64{impl.MaxTime + 1, impl.MaxNumber, greatest} {
			checkNotKept(t, "a time above MaxTime", []int64{at}, p)
			checkNotKept(t, "a time above MaxTime", []int64{0, 1, at}, p)
		}
		for _, times := range [][]int64{{1, 0}, {2, 1}, {impl.MaxTime, 0}, {0, 5, 4}, {5, 4, 6}, {0, 2, 2, 1, 3}, {day, day - 1}, append(alike(99, 9), 8)} {
			checkNotKept(t, "times that fall", times, p)
		}
		checkNotKept(t, "times that fall to one below 0", []int64{0, -1}, p)
		checkNotKept(t, "times that fall from one above MaxTime", []int64{impl.MaxTime + 1, 0}, p)
	}
	checkKept(t, []int64{0, impl.MaxTime}, all, 0, 1)
}

// takenAt is a catalog with a snapshot at each of these times; each has a chunk of its own, and one that the next one has, too.
func takenAt(t *testing.T, times []int64) impl.Catalog {
	t.Helper()
	c, _ := impl.CatalogNew(impl.Shape{Least: 4, Bits: 12, Most: 4})
	for i, at := range times {
		code := int64(0)
		tree := nodes(fileNode("f", fmt.Sprintf("n%03dn%03d", i, i+1)), fileNode("own", fmt.Sprintf("o%03d", i)))
		if c, _, code = impl.Capture(c, tree, at); code != impl.CtFine {
			t.Fatalf("time %d is not taken: %d", at, code)
		}
	}
	return c
}

// checkPruned holds what is left against Drop of one after the other.
func checkPruned(t *testing.T, c impl.Catalog, p impl.Policy) (impl.Catalog, []int64) {
	t.Helper()
	var times, gone []int64
	for _, s := range c.Snaps {
		times = append(times, s.Time)
	}
	kept, want := keptByRule(times, p), c
	for place, s := range c.Snaps {
		if !slices.Contains(kept, int64(place)) {
			want = droppedByRule(want, s.Id)
			gone = append(gone, s.Id)
		}
	}
	left, ids, ok := impl.Prune(c, p)
	if !ok || !slices.Equal(ids, gone) || !sameCatalog(left, want) {
		t.Errorf("Prune of %s by %v: %s, %v, %v, not %s, %v", shownCatalog(c), p, shownCatalog(left), ids, ok, shownCatalog(want), gone)
	}
	checkCatalog(t, "pruned", left, true)
	return left, ids
}

func toPrune(t *testing.T) []impl.Catalog {
	list := rightCatalogs(t)
	for _, times := range someTimes() {
		list = append(list, takenAt(t, times[max(0, len(times)-20):]))
	}
	return list
}

func TestPromise13BehindPruningJustTheseAreThere(t *testing.T) {
	for _, c := range toPrune(t) {
		for _, p := range somePolicies() {
			left, gone := checkPruned(t, c, p)
			if len(left.Snaps)+len(gone) != len(c.Snaps) {
				t.Errorf("of %d snapshots %d are left, %d gone", len(c.Snaps), len(left.Snaps), len(gone))
			}
		}
		for _, p := range []impl.Policy{policy(2, 0, 0), policy(0, 2, 1)} {
			left, gone := checkPruned(t, c, p)
			for _, s := range left.Snaps {
				tree, _ := treeByParts(c, s)
				checkRestored(t, left, s.Id, tree)
			}
			for _, id := range gone {
				checkNoSnap(t, "pruned", left, id, left)
			}
		}
	}
}

func TestPromise13PrunedAgainNothingGoes(t *testing.T) {
	for _, c := range toPrune(t) {
		for _, p := range somePolicies() {
			left, _, _ := impl.Prune(c, p)
			if again, gone, ok := impl.Prune(left, p); !ok || len(gone) != 0 || !sameCatalog(again, left) {
				t.Errorf("pruned again by %v: %s, %v, %v, not %s", p, shownCatalog(again), gone, ok, shownCatalog(left))
			}
		}
	}
}

func TestPromise13NothingGoesAndAllGoes(t *testing.T) {
	for _, c := range toPrune(t) {
		if same, gone, ok := impl.Prune(c, policy(20, 0, 0)); !ok || len(gone) != 0 || !sameCatalog(same, c) {
			t.Errorf("nothing goes: %s, %v, %v, not %s", shownCatalog(same), gone, ok, shownCatalog(c))
		}
		none, gone, ok := impl.Prune(c, policy(0, 0, 0))
		if !ok || len(gone) != len(c.Snaps) || !sameCatalog(none, impl.Catalog{Shape: c.Shape, Next: c.Next}) {
			t.Errorf("all goes: %s, %v, %v of %s", shownCatalog(none), gone, ok, shownCatalog(c))
		}
	}
}

func TestPromise13TheIdsOfWhatGoesAreTold(t *testing.T) {
	for _, c := range []struct {
		p    impl.Policy
		want []int64
	}{
		{policy(0, 0, 0), []int64{1, 7, 12}}, {policy(1, 0, 0), []int64{1, 7}}, {policy(2, 0, 0), []int64{1}}, {policy(3, 0, 0), nil},
		{policy(0, 3, 0), []int64{1, 7}}, {policy(0, 0, 3), []int64{1, 7}}, {policy(2, 1, 1), []int64{1}},
	} {
		if _, gone := checkPruned(t, sharing(), c.p); !slices.Equal(gone, c.want) {
			t.Errorf("by %v %v are gone, not %v", c.p, gone, c.want)
		}
	}
	c := takenAt(t, []int64{0, monday - 1, monday, monday + 1, monday + day})
	if _, gone := checkPruned(t, c, policy(0, 2, 2)); !slices.Equal(gone, []int64{c.Snaps[0].Id, c.Snaps[2].Id}) {
		t.Errorf("%v are gone of %s", gone, shownCatalog(c))
	}
}

func TestPromise13WhatIsNotPruned(t *testing.T) {
	check := func(what string, c impl.Catalog, p impl.Policy) {
		t.Helper()
		if left, gone, ok := impl.Prune(c, p); ok || len(gone) != 0 || !sameCatalog(left, impl.Catalog{}) {
			t.Errorf("%s: Prune of %s by %v: %s, %v, %v", what, shownCatalog(c), p, shownCatalog(left), gone, ok)
		}
	}
	for _, wrong := range wrongCatalogs() {
		check(wrong.what, wrong.c, policy(1, 1, 1))
		check(wrong.what, wrong.c, policy(0, 0, 0))
		check(wrong.what, wrong.c, policy(50, 50, 50))
		check(wrong.what, wrong.c, policy(51, 0, 0))
	}
	for _, p := range wrongPolicies() {
		check("a policy that is not right", sharing(), p)
		check("a policy that is not right", catalogOf(1, nil), p)
	}
}

func TestPromise18KeptAreNewMemory(t *testing.T) {
	room := []int64{1, 2, 2, 3, 4, 7777, 7778}
	times := room[:5]
	first, _ := impl.Keep(times, policy(2, 1, 1))
	second, _ := impl.Keep(times, policy(2, 1, 1))
	want := slices.Clone(first)
	clear(first[:cap(first)])
	if !slices.Equal(second, want) || !slices.Equal(room, []int64{1, 2, 2, 3, 4, 7777, 7778}) {
		t.Error("what is kept lies elsewhere, too")
	}
	c, same := roomy(sharing())
	left, gone, _ := impl.Prune(c, policy(1, 0, 0))
	again, goneAgain, _ := impl.Prune(c, policy(1, 0, 0))
	clear(gone[:cap(gone)])
	if !filled(left) || !same() || !sameCatalog(c, sharing()) {
		t.Error("something was written into an argument, or behind it")
	}
	if !slices.Equal(goneAgain, []int64{1, 7}) || !sameCatalog(again, droppedByRule(droppedByRule(sharing(), 1), 7)) {
		t.Errorf("pruned: %s, %v", shownCatalog(again), goneAgain)
	}
}
