package tests

import (
	"fmt"
	"slices"
	"strings"
	"testing"

	"loop.example/g00228/impl"
)

// ruleAct goes on step by step: behind has the disk as it was, and as it is behind each step.
type ruleAct struct {
	t       *testing.T
	behind  []impl.Disk
	refused bool
}

func (r *ruleAct) disk() impl.Disk {
	return r.behind[len(r.behind)-1]
}

func (r *ruleAct) do(op impl.DOp) {
	if r.refused {
		return
	}
	d, code := doByRule(r.disk(), op)
	if code != impl.DkOk {
		r.refused = true
		return
	}
	r.behind = append(r.behind, d)
}

func (r *ruleAct) sync() {
	if !r.refused {
		r.behind = append(r.behind, impl.Disk{Live: r.disk().Live, Safe: r.disk().Live})
	}
}

func (r *ruleAct) gone(name string) {
	if _, there := heldByRule(r.disk().Live)[name]; there {
		r.do(removeOp(name))
		r.sync()
	}
}

func (r *ruleAct) sweepBut(stay ...string) {
	for _, f := range r.disk().Live {
		if !slices.Contains(stay, f.Name) {
			r.do(removeOp(f.Name))
		}
	}
}

func keptBy(h impl.Head) []string {
	stay := []string{"catalog"}
	for _, n := range h.Boxes {
		stay = append(stay, fmt.Sprint("box-", n))
	}
	return stay
}

func (r *ruleAct) switchTo(h impl.Head) {
	r.gone("catalog.new")
	r.do(appendOp("catalog.new", impl.PutNum(uint64(h.Gen))+standardSeal(r.t, masterKey(), 2*h.Gen, saidHead(h))))
	r.do(renameOp("catalog.new", "catalog"))
	r.sync()
	r.sweepBut(keptBy(h)...)
}

// headHeld is the head that lies on the disk of a right repository.
func headHeld(t *testing.T, d impl.Disk) impl.Head {
	t.Helper()
	gen, rest, _ := impl.TakeNum(heldByRule(d.Live)["catalog"])
	text, _ := impl.Open(masterKey(), 2*int64(gen), rest)
	h, ok := impl.ReadHead(text)
	if !ok {
		t.Fatal("no head")
	}
	return h
}

// turn makes the steps that lay c down in the place of what is there.
func (r *ruleAct) turn(c impl.Catalog) {
	was := headHeld(r.t, r.disk())
	h := headOf(was.Gen+1, was.NextBox, copyOf(c))
	var fresh []impl.Member
	for i, k := range c.Chunks {
		h.Catalog.Chunks[i].Data = ""
		at := slices.IndexFunc(was.Catalog.Chunks, func(old impl.Chunk) bool { return old.Num == k.Num })
		if at >= 0 {
			h.Boxes = append(h.Boxes, was.Boxes[at])
			continue
		}
		h.Boxes = append(h.Boxes, was.NextBox)
		fresh = append(fresh, member(fmt.Sprint(k.Num), k.Data))
	}
	if len(fresh) > 0 {
		h.NextBox++
		name := fmt.Sprint("box-", was.NextBox)
		r.gone(name)
		r.do(appendOp(name, standardSeal(r.t, masterKey(), 2*was.NextBox+1, saidBlock(fresh...))))
		r.sync()
	}
	r.switchTo(h)
}

// steps makes those of an act that is not refused ahead of its first one.
func (r *ruleAct) steps(a impl.Act) {
	switch a.Kind {
	case impl.RaNew:
		r.sweepBut()
		r.sync()
		r.switchTo(headOf(0, 1, impl.Catalog{Shape: a.Shape, Next: 1}))
	case impl.RaSnap:
		c, _ := impl.RepoView(r.disk(), masterKey())
		r.turn(capturedByRule(c, a.Tree, a.Time))
	case impl.RaDrop:
		c, _ := impl.RepoView(r.disk(), masterKey())
		r.turn(droppedByRule(c, a.Id))
	case impl.RaOpen:
		r.sweepBut(keptBy(headHeld(r.t, r.disk()))...)
	case impl.RaCrash:
		left, ok := crashedByRule(r.disk(), a.Keep, a.Torn)
		if !ok {
			r.t.Fatal("no crash")
		}
		r.behind = []impl.Disk{left}
		r.sweepBut(keptBy(headHeld(r.t, left))...)
	}
}

func actByRule(t *testing.T, d impl.Disk, a impl.Act) *ruleAct {
	r := &ruleAct{t: t, behind: []impl.Disk{d}}
	r.steps(a)
	return r
}

func powered(a impl.Act, power int64) impl.Act {
	a.Power = power
	return a
}

func newAct(p impl.Shape) impl.Act {
	return impl.Act{Kind: impl.RaNew, Shape: p, Power: -1}
}

func snapAct(at int64, tree ...impl.Node) impl.Act {
	return impl.Act{Kind: impl.RaSnap, Tree: tree, Time: at, Power: -1}
}

func dropAct(id int64) impl.Act {
	return impl.Act{Kind: impl.RaDrop, Id: id, Power: -1}
}

func openAct() impl.Act {
	return impl.Act{Kind: impl.RaOpen, Power: -1}
}

func crashAct(torn int64, keep ...int64) impl.Act {
	return impl.Act{Kind: impl.RaCrash, Keep: keep, Torn: torn, Power: -1}
}

func shownAct(a impl.Act) string {
	return fmt.Sprintf("{%d %v %d nodes at %d, Id %d, Power %d, Keep %v, Torn %d}", a.Kind, a.Shape, len(a.Tree), a.Time, a.Id, a.Power, a.Keep, a.Torn)
}

func checkAct(t *testing.T, what string, d impl.Disk, a impl.Act, want impl.Disk, code int64) {
	t.Helper()
	done, told := impl.RepoDo(d, masterKey(), a)
	if told != code || !sameDisk(done, want) {
		t.Errorf("%s: RepoDo %s: %d %s, not %d %s", what, shownAct(a), told, shownDisk(done), code, shownDisk(want))
	}
	if !impl.DiskOk(done) {
		t.Errorf("%s: RepoDo %s leaves no right disk", what, shownAct(a))
	}
}

func acted(t *testing.T, d impl.Disk, a impl.Act) impl.Disk {
	t.Helper()
	done, code := impl.RepoDo(d, masterKey(), a)
	if code != impl.RpOk {
		t.Fatalf("RepoDo %s: %d", shownAct(a), code)
	}
	return done
}

// pairs is a file of so many pairs of bytes, none twice.
func pairs(path string, from int, count int) impl.Node {
	var data []byte
	for i := range count {
		data = append(data, byte(from+i), byte((from+i)>>8))
	}
	return fileNode(path, string(data))
}

// lived is a repository behind some acts, of which the last one has left ops.
func lived(t *testing.T) impl.Disk {
	t.Helper()
	d := acted(t, impl.Disk{}, newAct(byPairs))
	d = acted(t, d, snapAct(5, fileNode("a", "aabbcc")))
	d = acted(t, d, snapAct(9, fileNode("a", "aabbdd"), dirNode("b")))
	d = acted(t, d, snapAct(9, fileNode("a", "eeff")))
	return acted(t, d, dropAct(7))
}

type tried struct {
	what string
	disk impl.Disk
	act  impl.Act
	code int64
}

func littered(d impl.Disk) impl.Disk {
	held := heldByRule(d.Live)
	for i, name := range []string{"box-2", "box-3", "box-4", "box-44", "box-x", "catalog.new", "catalog.old", "A", "zzz"} {
		if _, there := held[name]; !there {
			held[name] = strings.Repeat("x", i)
		}
	}
	return diskOf(listByRule(held))
}

func actsThatAreDone(t *testing.T) []tried {
	bare := acted(t, impl.Disk{}, newAct(byPairs))
	old := lived(t)
	others := diskOf(files(file("box-1", "x"), file("catalog.new", "y"), file("notes", "z")), appendOp("a", "b"), removeOp("notes"))
	unsynced := acted(t, impl.Disk{}, newAct(byPairs))
	unsynced, _ = impl.Do(unsynced, appendOp("box-1", "torn"))
	unsynced, _ = impl.Do(unsynced, appendOp("catalog.new", "torn"))
	var list []tried
	for _, at := range []tried{{what: "bare", disk: bare}, {what: "with ops", disk: old}, {what: "with files beside", disk: littered(old)}, {what: "bare with files beside", disk: littered(bare)}, {what: "with ops on files beside", disk: unsynced}} {
		add := func(what string, a impl.Act) {
			list = append(list, tried{at.what + ", " + what, at.disk, a, impl.RpOk})
		}
		add("no nodes", snapAct(20))
		add("no new chunk", snapAct(20, dirNode("a"), fileNode("b", "")))
		add("new chunks", snapAct(20, fileNode("a", "aaxx"), fileNode("b", "xxyy")))
		add("new chunks at the greatest time", snapAct(impl.MaxTime, fileNode("a", "aabb!")))
		add("open", openAct())
		add("crash that keeps none", crashAct(0))
		c, _ := impl.RepoView(at.disk, masterKey())
		for _, s := range c.Snaps {
			add(fmt.Sprint("drop ", s.Id), dropAct(s.Id))
			tree, _ := impl.Restore(c, s.Id)
			add(fmt.Sprint("again ", s.Id), snapAct(9, tree...))
		}
		for keep := range at.disk.Ops {
			add("crash that keeps one", crashAct(2, int64(keep)))
			add("crash that keeps some", crashAct(100, allPlaces(at.disk)[:keep+1]...))
		}
	}
	for _, at := range []tried{{what: "no files", disk: impl.Disk{}}, {what: "other files", disk: others}, {what: "a catalog that is gone", disk: diskOf(old.Live, removeOp("catalog"))}} {
		for _, p := range append(someShapes(), byPairs) {
			list = append(list, tried{at.what + ", new", at.disk, newAct(p), impl.RpOk})
		}
	}
	return list
}

func TestPromise16EachActWithEachPower(t *testing.T) {
	least := map[int64]int{}
	for _, try := range actsThatAreDone(t) {
		r := actByRule(t, try.disk, try.act)
		if r.refused {
			t.Fatalf("%s: refused by rule", try.what)
		}
		last := len(r.behind) - 1
		least[try.act.Kind] = max(least[try.act.Kind], last)
		for power, d := range r.behind[:last] {
			checkAct(t, try.what, try.disk, powered(try.act, int64(power)), d, impl.RpPower)
		}
		for _, power := range []int64{int64(last), int64(last) + 1, greatest, -1, -2, lowest} {
			checkAct(t, try.what, try.disk, powered(try.act, power), r.disk(), impl.RpOk)
		}
	}
	if least[impl.RaNew] < 7 || least[impl.RaSnap] < 15 || least[impl.RaDrop] < 13 || least[impl.RaOpen] < 9 || least[impl.RaCrash] < 9 {
		t.Errorf("few steps: %v", least)
	}
}

func TestPromise16TheOrderOfTheSteps(t *testing.T) {
	kinds := func(d impl.Disk) string {
		s := ""
		for _, op := range d.Ops {
			s += fmt.Sprintf("%c%s ", " +>-"[op.Kind], op.Name)
		}
		return s
	}
	for _, c := range []struct {
		what string
		disk impl.Disk
		act  impl.Act
		ops  []string
	}{
		{"new on an empty disk", impl.Disk{}, newAct(byPairs), []string{"", "", "+catalog.new ", "+catalog.new >catalog.new ", ""}},
		{"new beside others", diskOf(files(file("a", ""), file("b", ""), file("catalog.new", ""))), newAct(byPairs),
			[]string{"", "-a ", "-a -b ", "-a -b -catalog.new ", "", "+catalog.new ", "+catalog.new >catalog.new ", ""}},
		{"a snapshot with new chunks", lived(t), snapAct(20, fileNode("a", "xx")),
			[]string{"-box-3 ", "-box-3 +box-4 ", "", "+catalog.new ", "+catalog.new >catalog.new ", ""}},
		{"a snapshot without", lived(t), snapAct(20, fileNode("a", "dd")), []string{"-box-3 ", "-box-3 +catalog.new ", "-box-3 +catalog.new >catalog.new ", ""}},
		{"a snapshot, files beside", diskOf(sorted(append(lived(t).Live, file("box-4", "x"), file("catalog.new", "x"), file("a", ""), file("z", ""))...)), snapAct(20, fileNode("a", "xx")),
			[]string{"", "-box-4 ", "", "+box-4 ", "", "-catalog.new ", "", "+catalog.new ", "+catalog.new >catalog.new ", "", "-a ", "-a -z "}},
		{"a snapshot dropped, ops ahead", lived(t), dropAct(5), []string{"-box-3 ", "-box-3 +catalog.new ", "-box-3 +catalog.new >catalog.new ", "", "-box-2 "}},
		{"both dropped", acted(t, lived(t), dropAct(5)), dropAct(1), []string{"-box-2 ", "-box-2 +catalog.new ", "-box-2 +catalog.new >catalog.new ", "", "-box-1 "}},
		{"a snapshot dropped", acted(t, acted(t, impl.Disk{}, newAct(byPairs)), snapAct(0, fileNode("a", "xx"))), dropAct(1),
			[]string{"", "+catalog.new ", "+catalog.new >catalog.new ", "", "-box-1 "}},
		{"opened", littered(acted(t, impl.Disk{}, newAct(byPairs))), openAct(),
			[]string{"", "-A ", "-A -box-2 ", "-A -box-2 -box-3 ", "-A -box-2 -box-3 -box-4 ", "-A -box-2 -box-3 -box-4 -box-44 ", "-A -box-2 -box-3 -box-4 -box-44 -box-x ",
				"-A -box-2 -box-3 -box-4 -box-44 -box-x -catalog.new ", "-A -box-2 -box-3 -box-4 -box-44 -box-x -catalog.new -catalog.old ",
				"-A -box-2 -box-3 -box-4 -box-44 -box-x -catalog.new -catalog.old -zzz "}},
		{"opened, nothing to sweep", acted(t, impl.Disk{}, newAct(byPairs)), openAct(), []string{""}},
	} {
		for power, ops := range c.ops {
			d, code := impl.RepoDo(c.disk, masterKey(), powered(c.act, int64(power)))
			if kinds(d) != ops || (code == impl.RpOk) != (power == len(c.ops)-1) {
				t.Errorf("%s, Power %d: %d, ops %q, not %q", c.what, power, code, kinds(d), ops)
			}
		}
	}
}

// checkRefused is for acts that are refused, be it behind some steps.
func checkRefused(t *testing.T, what string, d impl.Disk, a impl.Act, code int64) {
	t.Helper()
	for _, power := range []int64{-1, lowest, greatest, 1000} {
		checkAct(t, what, d, powered(a, power), d, code)
	}
}

// checkRefusedAtOnce is for acts that are refused ahead of any step.
func checkRefusedAtOnce(t *testing.T, what string, d impl.Disk, a impl.Act, code int64) {
	t.Helper()
	checkRefused(t, what, d, a, code)
	for _, power := range []int64{0, 1, 2} {
		checkAct(t, what, d, powered(a, power), d, code)
	}
}

func eachKind() []impl.Act {
	return []impl.Act{newAct(byPairs), snapAct(20, fileNode("a", "aaxx")), dropAct(1), openAct(), crashAct(0)}
}

func TestPromise16ActsOnWrongDisksAndWithoutAKey(t *testing.T) {
	acts := append(eachKind(), impl.Act{}, impl.Act{Kind: 6}, newAct(impl.Shape{}), crashAct(-1), snapAct(-1))
	for _, a := range acts {
		for _, w := range wrongDisks() {
			checkAct(t, w.what, w.disk, a, impl.Disk{}, impl.RpDisk)
			if d, code := impl.RepoDo(w.disk, "", a); code != impl.RpDisk || !sameDisk(d, impl.Disk{}) {
				t.Errorf("%s and no key: %d %s", w.what, code, shownDisk(d))
			}
		}
		for _, d := range []impl.Disk{{}, fewOps(), lived(t), diskOf(files(file("catalog", "x")))} {
			for _, master := range []string{"", masterKey()[1:], masterKey() + "x", strings.Repeat("k", 64)} {
				if done, code := impl.RepoDo(d, master, a); code != impl.RpKey || !sameDisk(done, d) {
					t.Errorf("a master of %d bytes, %s: %d %s", len(master), shownAct(a), code, shownDisk(done))
				}
			}
		}
	}
}

func TestPromise16ActsOfNoKindAndOnNoRepository(t *testing.T) {
	bad := diskOf(lived(t).Live, removeOp("box-1"))
	for _, d := range []impl.Disk{{}, fewOps(), lived(t), bad} {
		for _, kind := range []int64{0, -1, 6, 7, 1<<32 + 1, greatest, lowest} {
			a := snapAct(20)
			a.Kind = kind
			checkRefusedAtOnce(t, "no such kind", d, a, impl.RpForm)
		}
		for _, p := range wrongShapes() {
			checkRefusedAtOnce(t, "no shape", d, newAct(p), impl.RpForm)
		}
	}
	for _, d := range []impl.Disk{lived(t), bad, diskOf(files(file("catalog", ""))), diskOf(nil, appendOp("x", ""), renameOp("x", "catalog"))} {
		checkRefusedAtOnce(t, "a catalog", d, newAct(byPairs), impl.RpThere)
	}
	for _, a := range eachKind()[1:4] {
		for _, d := range []impl.Disk{{}, fewOps(), diskOf(lived(t).Live, renameOp("catalog", "catalog.new"))} {
			checkRefusedAtOnce(t, "no catalog", d, a, impl.RpNone)
		}
		checkRefusedAtOnce(t, "broken", bad, a, impl.RpBad)
		checkRefusedAtOnce(t, "an empty catalog", diskOf(files(file("catalog", ""))), a, impl.RpBad)
	}
	for _, wrong := range []impl.Act{snapAct(-1), snapAct(20, impl.Node{}), dropAct(77)} {
		checkRefusedAtOnce(t, "no catalog and no act", impl.Disk{}, wrong, impl.RpNone)
		checkRefusedAtOnce(t, "broken and no act", bad, wrong, impl.RpBad)
	}
}

func TestPromise16SnapshotsThatAreRefused(t *testing.T) {
	d := lived(t)
	for _, tree := range wrongTrees() {
		checkRefusedAtOnce(t, "no tree", d, snapAct(20, tree...), impl.RpForm)
		checkRefusedAtOnce(t, "no tree and no time", d, snapAct(-1, tree...), impl.RpForm)
	}
	for _, at := range []int64{8, 0, -1, impl.MaxTime + 1, greatest, lowest} {
		checkRefusedAtOnce(t, "no time", d, snapAct(at, fileNode("a", "xx")), impl.RpForm)
	}
	for _, id := range []int64{0, -1, 2, 3, 4, 6, 7, 8, 9, 10, greatest, lowest} {
		checkRefusedAtOnce(t, "no such snapshot", d, dropAct(id), impl.RpSnap)
	}
	room := acted(t, d, snapAct(20, pairs("p", 300, 60)))
	room = acted(t, room, snapAct(20, pairs("p", 400, 60)))
	room = acted(t, room, snapAct(20, pairs("p", 500, 60)))
	// There are 184 chunks now.
	checkRefusedAtOnce(t, "too many chunks", room, snapAct(20, pairs("p", 600, 17)), impl.RpFull)
	acted(t, room, snapAct(20, pairs("p", 600, 16)))
	checkRefusedAtOnce(t, "too many chunks at no time", room, snapAct(-1, pairs("p", 600, 17)), impl.RpForm)
	for range 15 {
		room = acted(t, room, snapAct(20))
	}
	checkRefusedAtOnce(t, "too many snapshots", room, snapAct(20), impl.RpFull)
	checkRefusedAtOnce(t, "too many snapshots, no tree", room, snapAct(20, impl.Node{}), impl.RpForm)
	room = acted(t, room, dropAct(1))
	acted(t, room, snapAct(20))
}

func TestPromise16SolidsAndHeadsThatAreTooMuch(t *testing.T) {
	d := lived(t)
	checkRefused(t, "61 new chunks", d, snapAct(20, pairs("p", 300, 61)), impl.RpFull)
	checkRefused(t, "61 new chunks in two files", d, snapAct(20, pairs("p", 300, 31), pairs("q", 400, 30)), impl.RpFull)
	acted(t, d, snapAct(20, pairs("p", 300, 60)))
	large := acted(t, impl.Disk{}, newAct(impl.Shape{Least: 1000, Bits: 12, Most: 2000}))
	checkRefused(t, "4001 bytes of new chunks", large, snapAct(20, fileNode("a", someBytes(1, 4000)), fileNode("b", "x")), impl.RpFull)
	whole := acted(t, large, snapAct(20, fileNode("a", someBytes(1, 4000))))
	empty, _ := impl.RepoView(large, masterKey())
	checkView(t, "4000 bytes", whole, capturedByRule(empty, nodes(fileNode("a", someBytes(1, 4000))), 20))
	ones := acted(t, acted(t, impl.Disk{}, newAct(impl.Shape{Least: 1, Bits: 1, Most: 1})), snapAct(0, fileNode("a", "x")))
	// Each byte is a Part of one byte, so the head's text is as long as is asked for.
	long := func(over int) []impl.Node {
		var list []impl.Node
		left := impl.MaxSealed + over
		for i := range 15 {
			list = append(list, fileNode(fmt.Sprintf("n%02d", i), strings.Repeat("x", 3900)))
		}
		c, _ := impl.RepoView(ones, masterKey())
		h := bareOf(capturedByRule(c, append(list, fileNode("z", strings.Repeat("x", 1000))), 0), 2, 1)
		return append(list, fileNode("z", strings.Repeat("x", 1000+left-len(saidHead(h)))))
	}
	done := acted(t, ones, snapAct(0, long(0)...))
	if text := saidHead(headHeld(t, done)); len(text) != impl.MaxSealed {
		t.Errorf("a text of %d bytes", len(text))
	}
	checkRefused(t, "a head of 60001 bytes", ones, snapAct(0, long(1)...), impl.RpFull)
	checkRefused(t, "a head of 60002 bytes", littered(ones), snapAct(0, long(2)...), impl.RpFull)
}

func TestPromise16HeadsAtTheirEnds(t *testing.T) {
	c, h := sharing(), shared()
	h.Gen = halfOfMost
	last := repoOf(t, h, c)
	checkRefusedAtOnce(t, "no Gen is left", last, snapAct(300), impl.RpFull)
	checkRefusedAtOnce(t, "no Gen is left for chunks", last, snapAct(300, fileNode("a", "new")), impl.RpFull)
	checkRefusedAtOnce(t, "no Gen is left to drop", last, dropAct(1), impl.RpFull)
	checkRefusedAtOnce(t, "no Gen, no snapshot", last, dropAct(2), impl.RpSnap)
	checkRefusedAtOnce(t, "no Gen, no time", last, snapAct(0), impl.RpForm)
	checkAct(t, "the last Gen", last, openAct(), last, impl.RpOk)
	h.Gen--
	next := acted(t, repoOf(t, h, c), dropAct(7))
	checkView(t, "the last Gen", next, droppedByRule(c, 7))
	checkRefusedAtOnce(t, "behind the last Gen", next, dropAct(1), impl.RpFull)
	h = shared()
	h.NextBox = halfOfMost
	most := repoOf(t, h, c)
	checkRefusedAtOnce(t, "no box is left", most, snapAct(300, fileNode("a", "new")), impl.RpFull)
	checkView(t, "without a new box", acted(t, most, snapAct(300, fileNode("a", "aaaabbbb"))), capturedByRule(c, nodes(fileNode("a", "aaaabbbb")), 300))
	h.NextBox--
	boxed := acted(t, repoOf(t, h, c), snapAct(300, fileNode("a", "new")))
	checkView(t, "the last box", boxed, capturedByRule(c, nodes(fileNode("a", "new")), 300))
	if _, there := heldByRule(boxed.Live)[fmt.Sprint("box-", int64(halfOfMost-1))]; !there || headHeld(t, boxed).NextBox != halfOfMost {
		t.Error("another box")
	}
	checkRefusedAtOnce(t, "behind the last box", boxed, snapAct(300, fileNode("a", "newer")), impl.RpFull)
	c.Next = impl.MaxNumber
	numbered := repoOf(t, shared(), c)
	numbered = changedFile(numbered, "catalog", catalogFile(t, headOf(77, 13, bareOf(c, 0, 1).Catalog, shared().Boxes...)).Data)
	checkView(t, "no number is left", numbered, c)
	checkRefusedAtOnce(t, "no number is left", numbered, snapAct(300), impl.RpFull)
}

// checkRefusedStep holds an act of which a step is refused against the steps ahead of it: with less Power these are made.
func checkRefusedStep(t *testing.T, what string, d impl.Disk, a impl.Act) {
	t.Helper()
	r := actByRule(t, d, a)
	if !r.refused {
		t.Fatalf("%s: not refused by rule", what)
	}
	for power, left := range r.behind {
		checkAct(t, what, d, powered(a, int64(power)), left, impl.RpPower)
	}
	for _, power := range []int64{int64(len(r.behind)), greatest, -1, lowest} {
		checkAct(t, what, d, powered(a, power), r.behind[0], impl.RpFull)
	}
}

func withOps(d impl.Disk, count int) impl.Disk {
	return diskOf(d.Live, slices.Repeat([]impl.DOp{appendOp("catalog", "")}, count)...)
}

func TestPromise16StepsThatAreRefused(t *testing.T) {
	d := lived(t)
	swept := acted(t, d, openAct())
	snapped := snapAct(20, fileNode("a", "xx"))
	for _, a := range []impl.Act{snapped, snapAct(20), dropAct(1)} {
		checkRefusedStep(t, "no op is left", withOps(d, 200), a)
		checkRefusedStep(t, "no op is left, files beside", withOps(littered(d), 200), a)
	}
	checkRefusedStep(t, "no op is left to sweep", withOps(littered(d), 200), openAct())
	checkRefusedStep(t, "too few ops are left to sweep", withOps(littered(d), 193), openAct())
	acted(t, withOps(littered(d), 192), openAct())
	checkAct(t, "nothing to sweep", withOps(swept, 200), openAct(), withOps(swept, 200), impl.RpOk)
	checkRefusedStep(t, "one op is left, two are wanted", withOps(d, 199), snapAct(20))
	checkRefusedStep(t, "one op is left, two are wanted", withOps(d, 199), dropAct(5))
	acted(t, withOps(d, 198), dropAct(5))
	acted(t, withOps(d, 199), snapped)
	checkRefusedStep(t, "no op is left to make it new", diskOf(files(file("x", "")), slices.Repeat([]impl.DOp{appendOp("x", "")}, 200)...), newAct(byPairs))
	var others []impl.File
	for i := range 57 {
		others = append(others, file(fmt.Sprintf("other-%02d", i), ""))
	}
	beside := func(count int) impl.Disk {
		return diskOf(sorted(append(slices.Clone(d.Live), others[:count]...)...))
	}
	// Three files are there: of 60 none is left for a box, of 59 none behind it for catalog.new.
	checkRefusedStep(t, "no file is left", beside(57), snapped)
	checkRefusedStep(t, "no file is left", beside(57), snapAct(20))
	checkRefusedStep(t, "no file is left", beside(57), dropAct(1))
	checkRefusedStep(t, "one file is left", beside(56), snapped)
	acted(t, beside(56), snapAct(20))
	acted(t, beside(55), snapped)
	acted(t, beside(57), openAct())
	for _, room := range []int{0, 1, 30, 50, 60, 70, 90, 110} {
		size := 0
		for _, f := range d.Live {
			size += len(f.Data)
		}
		heavy := diskOf(sorted(append(slices.Clone(d.Live), file("other", strings.Repeat("x", impl.MaxBytes-size-room)))...))
		checkRefusedStep(t, "no bytes are left", heavy, snapped)
	}
	many := diskOf(append([]impl.File{file("f", strings.Repeat("x", impl.MaxBytes))}, manyFiles(59, "")...))
	acted(t, many, newAct(byPairs))
}

func TestPromise16CrashesThatAreRefused(t *testing.T) {
	d := lived(t)
	d, _ = impl.Do(d, appendOp("x", "data"))
	d, _ = impl.Do(d, removeOp("box-1"))
	for _, keep := range [][]int64{{-1}, {3}, {0, 0}, {1, 0}, {0, 1, 2, 3}, {lowest}, {greatest}} {
		checkRefusedAtOnce(t, "no places", d, crashAct(0, keep...), impl.RpForm)
	}
	for _, torn := range []int64{-1, lowest} {
		checkRefusedAtOnce(t, "torn below 0", d, crashAct(torn), impl.RpForm)
		checkRefusedAtOnce(t, "torn below 0", impl.Disk{}, crashAct(torn), impl.RpForm)
	}
	heavy := diskOf(files(file("a", strings.Repeat("x", impl.MaxBytes))), removeOp("a"), appendOp("b", "12"))
	checkRefusedAtOnce(t, "too much behind it", heavy, crashAct(1, 1), impl.RpForm)
	for _, c := range []struct {
		what string
		disk impl.Disk
		keep []int64
		code int64
	}{
		{"no files", impl.Disk{}, nil, impl.RpNone},
		{"too much, but not kept", heavy, []int64{0, 1}, impl.RpNone},
		{"a box gone", d, []int64{2}, impl.RpBad},
		{"a box gone, and more", d, []int64{1, 2}, impl.RpBad},
		{"a catalog gone", diskOf(d.Live, appendOp("x", "y"), removeOp("catalog")), []int64{1}, impl.RpNone},
		{"a catalog that is another file", diskOf(d.Live, appendOp("x", "y"), renameOp("x", "catalog")), []int64{1}, impl.RpBad},
	} {
		left, ok := crashedByRule(c.disk, c.keep, 1)
		if !ok {
			t.Fatal(c.what)
		}
		for _, power := range []int64{-1, 0, 5} {
			checkAct(t, c.what, c.disk, powered(crashAct(1, c.keep...), power), left, c.code)
		}
	}
}

// eachPower tells what an act leaves with each Power up to the one that is enough.
func eachPower(t *testing.T, d impl.Disk, a impl.Act, yield func(left impl.Disk, whole bool)) {
	for power := int64(0); ; power++ {
		left, code := impl.RepoDo(d, masterKey(), powered(a, power))
		if code != impl.RpOk && code != impl.RpPower || power > 50 {
			t.Fatalf("%s: %d", shownAct(powered(a, power)), code)
		}
		yield(left, code == impl.RpOk)
		if code == impl.RpOk {
			return
		}
	}
}

// eachCrash tells each choice of what is kept, its last op torn or whole.
func eachCrash(t *testing.T, d impl.Disk, yield func(left impl.Disk)) {
	if len(d.Ops) > 9 {
		t.Fatalf("%d ops", len(d.Ops))
	}
	eachChoice(len(d.Ops), func(keep []int64) {
		torn := []int64{0}
		if len(keep) > 0 {
			if long := int64(len(d.Ops[keep[len(keep)-1]].Data)); long > 0 {
				torn = []int64{0, 1, long / 2, long - 1, long}
			}
		}
		for _, bytes := range torn {
			left, ok := impl.Crash(d, keep, bytes)
			if !ok {
				t.Fatal("no crash")
			}
			yield(left)
		}
	})
}

type seen struct {
	catalog impl.Catalog
	code    int64
}

func view(d impl.Disk) seen {
	c, code := impl.RepoView(d, masterKey())
	return seen{c, code}
}

func (s seen) is(other seen) bool {
	return s.code == other.code && sameCatalog(s.catalog, other.catalog)
}

// checkLeft holds what is left behind a loss of power in an act against what was ahead of it, and what was to come.
func checkLeft(t *testing.T, left impl.Disk, a impl.Act, ahead seen, behind seen, whole bool) {
	t.Helper()
	is := view(left)
	if !is.is(behind) && (whole || !is.is(ahead)) {
		t.Errorf("%s, whole %t: left is %d %s on %s", shownAct(a), whole, is.code, shownCatalog(is.catalog), shownDisk(left))
	}
}

func actsOfALife() []impl.Act {
	return []impl.Act{
		newAct(byPairs),
		snapAct(5, fileNode("a", "aabbcc")),
		snapAct(9, fileNode("a", "aabbdd"), dirNode("b"), fileNode("b/c", "ee")),
		snapAct(9, fileNode("a", "aabbdd")),
		dropAct(1),
		openAct(),
		snapAct(20, fileNode("a", "aacc")),
		dropAct(5),
		snapAct(30, pairs("p", 1000, 30)),
		dropAct(8),
		dropAct(9),
		dropAct(11),
		snapAct(30, fileNode("a", "ffgg")),
	}
}

func TestPromise16WhateverPowerTakes(t *testing.T) {
	d := impl.Disk{}
	for _, a := range actsOfALife() {
		ahead := view(d)
		done := acted(t, d, a)
		behind := view(done)
		if behind.code != impl.RpOk {
			t.Fatalf("%s: %d", shownAct(a), behind.code)
		}
		eachPower(t, d, a, func(cut impl.Disk, whole bool) {
			if whole && !sameDisk(cut, done) {
				t.Errorf("%s: with just enough Power %s", shownAct(a), shownDisk(cut))
			}
			eachCrash(t, cut, func(left impl.Disk) { checkLeft(t, left, a, ahead, behind, whole) })
			checkLeft(t, cut, a, ahead, behind, whole)
		})
		d = done
	}
	if len(d.Live) != 2 || view(d).catalog.Next != 45 {
		t.Errorf("at last %s", shownDisk(d))
	}
}

func TestPromise16PowerTakenTwice(t *testing.T) {
	first, second := snapAct(9, fileNode("a", "aabbdd")), snapAct(10, fileNode("a", "xxyyzz"))
	d := acted(t, acted(t, impl.Disk{}, newAct(byPairs)), snapAct(5, fileNode("a", "aabbcc")))
	boxes := 0
	eachPower(t, d, first, func(cut impl.Disk, whole bool) {
		eachCrash(t, cut, func(left impl.Disk) {
			// What lay in box-2 is that of another act, perhaps torn, and its number is used again.
			if _, there := heldByRule(left.Live)["box-2"]; there {
				boxes++
			}
			for _, opened := range []bool{false, true} {
				again := left
				if opened {
					again = acted(t, left, openAct())
				}
				ahead := view(again)
				for _, a := range []impl.Act{second, dropAct(1), first} {
					behind := view(acted(t, again, a))
					eachPower(t, again, a, func(cut impl.Disk, whole bool) {
						for _, keep := range [][]int64{nil, allPlaces(cut)} {
							if left, ok := impl.Crash(cut, keep, 3); ok {
								checkLeft(t, left, a, ahead, behind, whole)
							}
						}
					})
				}
			}
		})
	})
	if boxes < 10 {
		t.Errorf("only %d times there was a box", boxes)
	}
}

func TestPromise16WhatWasDoneItKeeps(t *testing.T) {
	d := impl.Disk{}
	var trees [][]impl.Node
	for i, a := range actsOfALife()[:4] {
		d = acted(t, d, a)
		if i > 0 {
			trees = append(trees, a.Tree)
		}
		eachCrash(t, d, func(left impl.Disk) {
			c, code := impl.RepoView(left, masterKey())
			if code != impl.RpOk || len(c.Snaps) != len(trees) {
				t.Fatalf("behind %d acts: %d %s", i+1, code, shownCatalog(c))
			}
			for k, s := range c.Snaps {
				if tree, ok := impl.Restore(c, s.Id); !ok || !slices.Equal(tree, trees[k]) {
					t.Errorf("snapshot %d: %v %s", s.Id, ok, shownNodes(tree))
				}
			}
			crashed := acted(t, left, openAct())
			if names := len(crashed.Live); names != len(keptOnce(headHeld(t, left))) {
				t.Errorf("%d files are left: %s", names, shownDisk(crashed))
			}
		})
	}
}

func keptOnce(h impl.Head) []string {
	return slices.Compact(slices.Sorted(slices.Values(keptBy(h))))
}

func checkPlayed(t *testing.T, what string, d impl.Disk, list []impl.Act, want impl.Disk, codes []int64) {
	t.Helper()
	done, told := impl.RepoPlay(d, masterKey(), list)
	if !slices.Equal(told, codes) || !sameDisk(done, want) {
		t.Errorf("%s: RepoPlay of %d acts: %v %s, not %v %s", what, len(list), told, shownDisk(done), codes, shownDisk(want))
	}
}

// mixedActs are done, refused, and cut short by the loss of power.
func mixedActs() []impl.Act {
	var list []impl.Act
	for i, a := range actsOfALife() {
		list = append(list, a)
		switch i % 4 {
		case 0:
			list = append(list, powered(snapAct(30, fileNode("z", "zz")), int64(i%3)), crashAct(1, 0))
		case 1:
			list = append(list, impl.Act{}, newAct(byPairs), dropAct(777))
		case 2:
			list = append(list, powered(snapAct(9, fileNode("q", "qqrr")), 1), crashAct(1), snapAct(-1))
		}
	}
	return list
}

func TestPromise16ActsInTwoPieces(t *testing.T) {
	list := mixedActs()
	d := impl.Disk{}
	disks, codes := []impl.Disk{d}, []int64(nil)
	told := map[int64]int{}
	for _, a := range list {
		var code int64
		d, code = impl.RepoDo(d, masterKey(), a)
		disks, codes = append(disks, d), append(codes, code)
		told[code]++
	}
	if told[impl.RpOk] < 10 || told[impl.RpPower] < 2 || told[impl.RpForm] < 3 || told[impl.RpThere] < 2 || told[impl.RpSnap] < 2 {
		t.Errorf("codes %v", codes)
	}
	for cut := range len(list) + 1 {
		checkPlayed(t, "the first acts", disks[0], list[:cut], disks[cut], codes[:cut])
		checkPlayed(t, "the other acts", disks[cut], list[cut:], d, codes[cut:])
	}
	for _, right := range rightDisks() {
		checkPlayed(t, "no acts", right, nil, right, nil)
		checkPlayed(t, "acts that are refused", right, []impl.Act{openAct(), {}}, right, []int64{impl.RpNone, impl.RpForm})
		if done, codes := impl.RepoPlay(right, "", list); !sameDisk(done, right) || len(codes) != len(list) || slices.Contains(codes, impl.RpOk) || slices.Max(codes) != impl.RpKey {
			t.Errorf("without a key: %v %s", codes, shownDisk(done))
		}
	}
	for _, w := range wrongDisks() {
		checkPlayed(t, w.what, w.disk, list, impl.Disk{}, nil)
		checkPlayed(t, w.what, w.disk, nil, impl.Disk{}, nil)
		if done, codes := impl.RepoPlay(w.disk, "", list); len(codes) != 0 || !sameDisk(done, impl.Disk{}) {
			t.Errorf("%s, without a key: %v %s", w.what, codes, shownDisk(done))
		}
	}
}

func repoAnswers(d impl.Disk, acts []impl.Act) map[string]impl.Disk {
	answers := map[string]impl.Disk{}
	for i, a := range acts {
		answers[fmt.Sprint("act ", i)], _ = impl.RepoDo(d, masterKey(), a)
		answers[fmt.Sprint("no key for act ", i)], _ = impl.RepoDo(d, "", a)
		answers[fmt.Sprint("short of power in act ", i)], _ = impl.RepoDo(d, masterKey(), powered(a, 1))
	}
	answers["played"], _ = impl.RepoPlay(d, masterKey(), acts)
	answers["not played"], _ = impl.RepoPlay(d, masterKey(), nil)
	return answers
}

func toAnswer(t *testing.T) (impl.Disk, []impl.Act) {
	d, _ := impl.Do(lived(t), appendOp("notes", "and more"))
	tree := ownNodes(nodes(fileNode("a", "xxyyzz"), fileNode("b", "aabb!")))
	return ownDisk(d), []impl.Act{snapAct(20, tree...), dropAct(1), openAct(), crashAct(3, 0, 1), newAct(byPairs), {}, crashAct(-1), dropAct(77)}
}

func TestPromise18RepositoriesAreNewMemory(t *testing.T) {
	d, acts := toAnswer(t)
	given := diskStrings(d)
	for _, n := range acts[0].Tree {
		given = append(given, n.Path, n.Data)
	}
	for what, answer := range repoAnswers(d, acts) {
		checkOwnStrings(t, what, diskStrings(answer), given)
	}
	c, _ := impl.RepoView(d, masterKey())
	checkOwnStrings(t, "view", stringsOf(c), given)
	if !filled(c) {
		t.Error("two lists of a view share memory")
	}
}

func TestPromise18RepositoriesWriteIntoNoArgument(t *testing.T) {
	d, acts := toAnswer(t)
	live := append(d.Live, file("spare", "room"), file("spare", "room"))
	safe := append(d.Safe, file("spare", "room"), file("spare", "room"))
	ops := append(d.Ops, appendOp("spare", "room"), removeOp("spare"))
	tree := append(acts[0].Tree, fileNode("spare", "room"), fileNode("spare", "room"))
	keep := append(acts[3].Keep, 77, 78)
	was, treeWas, keepWas := ownDisk(impl.Disk{Live: live, Safe: safe, Ops: ops}), slices.Clone(tree), slices.Clone(keep)
	d = impl.Disk{Live: live[:len(d.Live)], Safe: safe[:len(d.Safe)], Ops: ops[:len(d.Ops)]}
	acts[0].Tree, acts[3].Keep = tree[:len(tree)-2], keep[:len(keep)-2]
	first := map[string]impl.Disk{}
	for what, answer := range repoAnswers(d, acts) {
		first[what] = ownDisk(answer)
		for i := range answer.Live[:cap(answer.Live)] {
			answer.Live[:cap(answer.Live)][i] = file("x", "y")
		}
		if !slices.Equal(answer.Safe, first[what].Safe) {
			t.Errorf("%s: two lists of the answer share memory", what)
		}
		clear(answer.Safe[:cap(answer.Safe)])
		clear(answer.Ops[:cap(answer.Ops)])
	}
	c, _ := impl.RepoView(d, masterKey())
	viewed := copyOf(c)
	filled(c)
	if !sameDisk(was, impl.Disk{Live: live, Safe: safe, Ops: ops}) || !slices.Equal(tree, treeWas) || !slices.Equal(keep, keepWas) {
		t.Error("something was written into an argument, or behind it")
	}
	for what, answer := range repoAnswers(d, acts) {
		if !sameDisk(answer, first[what]) {
			t.Errorf("%s: the same arguments give another answer: %s, not %s", what, shownDisk(answer), shownDisk(first[what]))
		}
	}
	checkView(t, "once more", d, viewed)
}
