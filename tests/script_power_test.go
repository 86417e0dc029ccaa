package tests

import (
	"fmt"
	"slices"
	"strings"
	"testing"

	"loop.example/g00228/impl"
)

// diskBehind is the disk of a script, by rule.
func diskBehind(t *testing.T, lines ...string) impl.Disk {
	t.Helper()
	s := &scene{t: t}
	for _, line := range lines {
		s.line(line)
	}
	return s.disk
}

// seenBehind is what lines that ask for all snapshots say at the end of a script.
func seenBehind(lines ...string) string {
	asks := []string{"list"}
	for id := range 12 {
		asks = append(asks, fmt.Sprint("show ", id))
	}
	said := strings.Split(impl.RunScript(script(append(slices.Clone(lines), asks...)...)), "\n")
	return strings.Join(said[len(said)-1-len(asks):], "\n")
}

// scriptsToCut end where a snapshot may be cut; each has another disk.
func scriptsToCut() map[string][]string {
	return map[string][]string{
		"bare":                  {"new"},
		"one snapshot":          {"new", "snap 5 b=two"},
		"two, one dropped":      {"new", "snap 5 b=two", "snap 5 b=two c=more", "snap 6 d=three", "drop 3"},
		"a box that is cut":     {"new", "snap 5 b=two", "cut 1 6 b=three"},
		"a file catalog.new":    {"new", "snap 5 b=two", "cut 3 6 b=three"},
		"a catalog not synced":  {"new", "snap 5 b=two", "cut 4 6 b=three"},
		"behind a crash":        {"new", "snap 5 b=two", "cut 4 6 b=three", "crash 1 40"},
		"boxes that were swept": {"new", "snap 1 a=one", "snap 1 b=two", "snap 1 c=three", "drop 1", "drop 3", "drop 5"},
	}
}

func TestPromise17EachCut(t *testing.T) {
	steps := map[string]int{}
	for what, ahead := range scriptsToCut() {
		for _, tree := range []string{"", " b=two", " b=three c/ c/x=more", " z=newest"} {
			snapped := append(slices.Clone(ahead), "snap 9"+tree)
			older, newer := seenBehind(ahead...), seenBehind(snapped...)
			if older == newer {
				t.Fatalf("%s: nothing is taken", what)
			}
			for n := 0; ; n++ {
				cut := append(slices.Clone(ahead), fmt.Sprint("cut ", n, " 9", tree))
				checkByRule(t, script(append(slices.Clone(cut), "files", "list", "open", "files", "show 1")...))
				seen := seenBehind(cut...)
				if lastSaid(cut...) == "ok" {
					steps[what+tree] = n
					checkAsWhole(t, ahead, cut, snapped, newer)
					break
				}
				if lastSaid(cut...) != "no 8" || seen != older && seen != newer {
					t.Errorf("%q: %q, seen %q", cut, lastSaid(cut...), seen)
				}
			}
		}
	}
	for what, want := range map[string]int{"bare": 3, "bare z=newest": 5, "one snapshot": 3, "one snapshot b=two": 3, "one snapshot z=newest": 5, "a box that is cut": 4, "a box that is cut z=newest": 7, "a file catalog.new": 6, "a file catalog.new z=newest": 9, "a catalog not synced": 3, "a catalog not synced z=newest": 5} {
		if steps[what] != want {
			t.Errorf("%s: %d steps, not %d", what, steps[what], want)
		}
	}
}

// checkAsWhole is for a cut that has just enough power, or more.
func checkAsWhole(t *testing.T, ahead []string, cut []string, snapped []string, newer string) {
	t.Helper()
	var n, at int
	fmt.Sscanf(cut[len(cut)-1], "cut %d %d", &n, &at)
	rest := strings.TrimPrefix(cut[len(cut)-1], fmt.Sprintf("cut %d %d", n, at))
	for _, power := range []int{n, n + 1, 100, 999999} {
		whole := append(slices.Clone(ahead), fmt.Sprint("cut ", power, " ", at, rest))
		if seen := seenBehind(whole...); seen != newer {
			t.Errorf("%q: seen %q", whole, seen)
		}
		asks := []string{"files", "crash 0 0", "files", "list"}
		checkSaid(t, script(append(whole, asks...)...), impl.RunScript(script(append(slices.Clone(snapped), asks...)...)))
	}
}

// tornAt tells each number of bytes up to one more than the op at keep - 1 has, or few of them.
func tornAt(d impl.Disk, keep int, each bool) []int {
	long := 0
	if keep > 0 && keep <= len(d.Ops) {
		long = len(d.Ops[keep-1].Data)
	}
	list := []int{0, 1, long / 2, max(0, long-1), long, long + 1}
	if each {
		list = nil
		for torn := range long + 2 {
			list = append(list, torn)
		}
	}
	return slices.Compact(slices.Sorted(slices.Values(list)))
}

func TestPromise17EachCrashBehindEachCut(t *testing.T) {
	kept := map[string]int{}
	for what, ahead := range scriptsToCut() {
		tree := " b=three z=newest"
		older, newer := seenBehind(ahead...), seenBehind(append(slices.Clone(ahead), "snap 9"+tree)...)
		safe := seenBehind(append(slices.Clone(ahead), "crash 0 0")...)
		for n := range 11 {
			cut := append(slices.Clone(ahead), fmt.Sprint("cut ", n, " 9", tree))
			d := diskBehind(t, cut...)
			for keep := range len(d.Ops) + 2 {
				for _, torn := range tornAt(d, keep, what == "one snapshot") {
					crashed := append(slices.Clone(cut), fmt.Sprint("crash ", keep, " ", torn))
					checkByRule(t, script(append(slices.Clone(crashed), "files", "list", "show 1", "crash 0 0", "list", "files")...))
					seen := seenBehind(crashed...)
					if seen == newer {
						kept[what]++
					}
					// A crash also takes what an earlier cut has left unsynced.
					if seen != newer && (seen != older && seen != safe || lastSaid(cut...) == "ok") {
						t.Errorf("%q: seen %q", crashed, seen)
					}
				}
				// All of it, as there are no more ops.
				if keep >= len(d.Ops) {
					if seen := seenBehind(append(slices.Clone(cut), fmt.Sprint("crash ", keep, " 999999"))...); seen != seenBehind(cut...) {
						t.Errorf("%q: behind a crash that keeps all %q", cut, seen)
					}
				}
			}
		}
		if kept[what] < 3 {
			t.Errorf("%s: only %d times the snapshot is there", what, kept[what])
		}
	}
}

func TestPromise17CrashesBehindOtherActs(t *testing.T) {
	for what, ahead := range scriptsToCut() {
		for _, line := range []string{"open", "drop 1", "drop 3", "snap 9", "snap 9 q=q", "crash 0 0", "list", "cut 0 9 a=x"} {
			done := append(slices.Clone(ahead), line)
			d := diskBehind(t, done...)
			safe := seenBehind(append(slices.Clone(done), "crash 0 0")...)
			for keep := range len(d.Ops) + 2 {
				for _, torn := range tornAt(d, keep, false) {
					crashed := append(slices.Clone(done), fmt.Sprint("crash ", keep, " ", torn))
					checkByRule(t, script(append(slices.Clone(crashed), "files", "list", "snap 9 a=again", "list", "files")...))
					if seen := seenBehind(crashed...); seen != safe && seen != seenBehind(done...) {
						t.Errorf("%s, %q: seen %q", what, crashed, seen)
					}
				}
			}
		}
	}
}

// manyScripts have lines of all kinds; some are just as long as they may be.
func manyScripts() [][]string {
	list := [][]string{nil, {""}, {"list"}, linesOfTheTable(), fullScript(21), {"", "  ", "new", "", "fly", "snap 1 a=x", " ", "list "}}
	for _, ahead := range scriptsToCut() {
		list = append(list, append(ahead, "list", "files"))
	}
	for seed := range uint64(12) {
		lines := drawnLines(seed+500, 20+int(seed)%2*20, true)
		for i := range lines {
			if someBytes(seed, 50)[i] < 30 {
				lines[i] = []string{"", "  ", "what", "show", "snap 1 a"}[i%5]
			}
		}
		list = append(list, lines)
	}
	slices.SortFunc(list, func(a []string, b []string) int { return strings.Compare(script(a...), script(b...)) })
	return list
}

func TestPromise17WhatWasSaidStaysSaid(t *testing.T) {
	for _, lines := range manyScripts() {
		said := impl.RunScript(script(lines...))
		for count := range len(lines) + 1 {
			first := impl.RunScript(script(lines[:count]...))
			if !strings.HasPrefix(said, first) || strings.Count(first, "\n") != countWithWords(lines[:count]) {
				t.Errorf("the first %d lines of %s say %s, all %s", count, shownScript(script(lines...)), shownScript(first), shownScript(said))
			}
		}
		for _, more := range [][]string{{"files"}, {"fly"}, {"drop 1", "snap 999999 a=x", "crash 0 0", "open"}, {"", " "}, {strings.Repeat("x", 2000)}, repeated("new", 10)} {
			text := script(append(slices.Clone(lines), more...)...)
			if longer := impl.RunScript(text); len(lines)+len(more) <= 40 && len(text) <= 4000 && !strings.HasPrefix(longer, said) {
				t.Errorf("%s says %s, not what it said ahead", shownScript(text), shownScript(longer))
			} else if (len(lines)+len(more) > 40 || len(text) > 4000) && longer != "too long\n" {
				t.Errorf("%s says %s", shownScript(text), shownScript(longer))
			}
		}
	}
}

// withLine puts a line ahead of the line at a place.
func withLine(lines []string, place int, line string) []string {
	return slices.Insert(slices.Clone(lines), place, line)
}

func countWithWords(lines []string) int {
	count := 0
	for _, line := range lines {
		if strings.Trim(line, " ") != "" {
			count++
		}
	}
	return count
}

// saidWithout is what a script says, but for the line of words at a place.
func saidWithout(lines []string, place int) string {
	said := strings.SplitAfter(impl.RunScript(script(lines...)), "\n")
	at := countWithWords(lines[:place])
	return strings.Join(slices.Delete(said, at, at+1), "")
}

func TestPromise17LinesThatAskChangeNothing(t *testing.T) {
	for _, lines := range manyScripts() {
		if len(lines) >= 40 {
			continue
		}
		said := impl.RunScript(script(lines...))
		for place := range len(lines) + 1 {
			asks := []string{"list", "show 1", "files", "list", "show 3", "snap 1 a=x b", "show 0", "files", "show", "show 999999", "list 1", "crash 0", "new x", "drop x", "fly"}
			for k := range 3 {
				line := asks[(place*3+k)%len(asks)]
				more := withLine(lines, place, line)
				if without := saidWithout(more, place); without != said {
					t.Errorf("%q with %q at %d says %s, not %s", lines, line, place, shownScript(without), shownScript(said))
				}
			}
			for _, blank := range []string{"", " ", "       "} {
				checkSaid(t, script(withLine(lines, place, blank)...), said)
			}
		}
	}
}

func TestPromise17AsksBehindEachLine(t *testing.T) {
	for seed := range uint64(40) {
		var lines, said []string
		s := &scene{t: t}
		for _, line := range drawnLines(seed+900, 8, true) {
			for _, each := range []string{line, "list", "show 1", "show 3", "files"} {
				lines, said = append(lines, each), append(said, s.line(each))
			}
		}
		checkSaid(t, script(lines...), script(said...))
		checkSaid(t, script(append(lines, "")...), "too long\n")
	}
}

// withBytes makes a script just so long by blanks behind its last line.
func withBytes(lines []string, long int) string {
	text := script(lines...)
	return text[:len(text)-1] + strings.Repeat(" ", long-len(text)) + "\n"
}

func TestPromise17AtTheLimitsOfLinesAndBytes(t *testing.T) {
	for seed := range uint64(20) {
		lines := drawnLines(seed+700, 40, true)
		said := impl.RunScript(script(lines...))
		checkSaid(t, withBytes(lines, 3999), said)
		checkSaid(t, withBytes(lines, 4000), said)
		checkSaid(t, withBytes(lines, 4001), "too long\n")
		for _, line := range []string{"", " ", "list", "new"} {
			for _, place := range []int{0, 1, 20, 39, 40} {
				checkSaid(t, script(withLine(lines, place, line)...), "too long\n")
			}
		}
		if first := impl.RunScript(withBytes(lines[:39], 3990)); !strings.HasPrefix(said, first) {
			t.Errorf("39 lines of %s say %s", shownScript(script(lines...)), shownScript(first))
		}
		few := withBytes(lines[:20], 3994)
		checkSaid(t, few+"files\n", saidByRule(t, script(append(slices.Clone(lines[:20]), "files")...)))
		checkSaid(t, few+"files \n", "too long\n")
		checkSaid(t, few+strings.Repeat("\n", 6), impl.RunScript(script(lines[:20]...)))
		checkSaid(t, few+strings.Repeat("\n", 7), "too long\n")
	}
}

func TestPromise18ScriptsSayTheSameEachTimeInNewMemory(t *testing.T) {
	for _, lines := range manyScripts() {
		for _, text := range []string{script(lines...), script(lines...) + "x", strings.Join(lines, "\n")} {
			own := strings.Clone(text)
			first := impl.RunScript(own)
			for range 3 {
				checkSaid(t, own, first)
			}
			if own != text || sharesMemory(own, first) {
				t.Errorf("%s: the argument is not as it was, or the answer lies in it", shownScript(text))
			}
		}
	}
	// Of what one script did another one knows nothing.
	checkSaid(t, "new\nsnap 1 a=x\n", "ok\nok\n")
	checkSaid(t, "files\nlist\n", "files\nno 3\n")
}
