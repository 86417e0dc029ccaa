package tests

import (
	"fmt"
	"slices"
	"sort"
	"strings"
	"testing"

	"loop.example/g00228/impl"
)

func file(name string, data string) impl.File {
	return impl.File{Name: name, Data: data}
}

func files(list ...impl.File) []impl.File {
	return list
}

func appendOp(name string, data string) impl.DOp {
	return impl.DOp{Kind: impl.DkAppend, Name: name, Data: data}
}

func renameOp(name string, to string) impl.DOp {
	return impl.DOp{Kind: impl.DkRename, Name: name, To: to}
}

func removeOp(name string) impl.DOp {
	return impl.DOp{Kind: impl.DkRemove, Name: name}
}

func sameDisk(a impl.Disk, b impl.Disk) bool {
	return slices.Equal(a.Live, b.Live) && slices.Equal(a.Safe, b.Safe) && slices.Equal(a.Ops, b.Ops)
}

func shortly(s string) string {
	if len(s) > 30 {
		return fmt.Sprintf("%q and %d more", s[:20], len(s)-20)
	}
	return fmt.Sprintf("%q", s)
}

func shownFiles(list []impl.File) string {
	s := ""
	for _, f := range list {
		s += " " + shortly(f.Name) + "=" + shortly(f.Data)
	}
	return s
}

func shownOp(op impl.DOp) string {
	return fmt.Sprintf("{%d %s %s %s}", op.Kind, shortly(op.Name), shortly(op.To), shortly(op.Data))
}

func shownDisk(d impl.Disk) string {
	s := "live" + shownFiles(d.Live) + ", safe" + shownFiles(d.Safe) + ", ops"
	for _, op := range d.Ops {
		s += " " + shownOp(op)
	}
	if len(s) > 3000 {
		return s[:3000] + " .."
	}
	return s
}

func listByRule(held map[string]string) []impl.File {
	var names []string
	for name := range held {
		names = append(names, name)
	}
	sort.Strings(names)
	var list []impl.File
	for _, name := range names {
		list = append(list, file(name, held[name]))
	}
	return list
}

func heldByRule(list []impl.File) map[string]string {
	held := map[string]string{}
	for _, f := range list {
		held[f.Name] = f.Data
	}
	return held
}

// doneByRule does what is of its form; it does nothing where there is no such file.
func doneByRule(held map[string]string, op impl.DOp) {
	data, there := held[op.Name]
	switch {
	case op.Kind == impl.DkAppend:
		held[op.Name] = data + op.Data
	case there && op.Kind == impl.DkRename:
		delete(held, op.Name)
		held[op.To] = data
	case there && op.Kind == impl.DkRemove:
		delete(held, op.Name)
	}
}

func formByRule(op impl.DOp) bool {
	named := func(s string) bool { return len(s) >= 1 && len(s) <= 100 }
	switch op.Kind {
	case 1:
		return named(op.Name) && op.To == ""
	case 2:
		return named(op.Name) && named(op.To) && op.Data == ""
	case 3:
		return named(op.Name) && op.To == "" && op.Data == ""
	}
	return false
}

func fewEnough(held map[string]string) bool {
	size := 0
	for _, data := range held {
		size += len(data)
	}
	return len(held) <= 60 && size <= 200000
}

func rightFilesByRule(list []impl.File) bool {
	for i, f := range list {
		if f.Name == "" || len(f.Name) > 100 || i > 0 && f.Name <= list[i-1].Name {
			return false
		}
	}
	return fewEnough(heldByRule(list))
}

func rightDiskByRule(d impl.Disk) bool {
	if !rightFilesByRule(d.Live) || !rightFilesByRule(d.Safe) || len(d.Ops) > 200 {
		return false
	}
	held := heldByRule(d.Safe)
	for _, op := range d.Ops {
		_, there := held[op.Name]
		if !formByRule(op) || op.Kind != impl.DkAppend && !there {
			return false
		}
		doneByRule(held, op)
		if !fewEnough(held) {
			return false
		}
	}
	return slices.Equal(listByRule(held), d.Live)
}

// doByRule tells what Do answers of a right disk.
func doByRule(d impl.Disk, op impl.DOp) (impl.Disk, int64) {
	if !formByRule(op) {
		return d, impl.DkForm
	}
	held := heldByRule(d.Live)
	if _, there := held[op.Name]; !there && op.Kind != impl.DkAppend {
		return d, impl.DkNone
	}
	doneByRule(held, op)
	if len(d.Ops) == 200 || !fewEnough(held) {
		return d, impl.DkFull
	}
	return impl.Disk{Live: listByRule(held), Safe: d.Safe, Ops: append(slices.Clone(d.Ops), op)}, impl.DkOk
}

// crashedByRule tells what Crash answers of a right disk and of places that rise.
func crashedByRule(d impl.Disk, keep []int64, torn int64) (impl.Disk, bool) {
	held := heldByRule(d.Safe)
	for i, place := range keep {
		op := d.Ops[place]
		if i == len(keep)-1 && op.Kind == impl.DkAppend && torn < int64(len(op.Data)) {
			op.Data = op.Data[:torn]
		}
		doneByRule(held, op)
	}
	if !fewEnough(held) {
		return impl.Disk{}, false
	}
	return impl.Disk{Live: listByRule(held), Safe: listByRule(held)}, true
}

// diskOf does the ops by rule; they are to be right.
func diskOf(safe []impl.File, ops ...impl.DOp) impl.Disk {
	held := heldByRule(safe)
	for _, op := range ops {
		doneByRule(held, op)
	}
	return impl.Disk{Live: listByRule(held), Safe: safe, Ops: ops}
}

func manyFiles(count int, data string) []impl.File {
	var list []impl.File
	for i := range count {
		list = append(list, file(fmt.Sprintf("f%02d", i), data))
	}
	return list
}

func manyOps(count int) []impl.DOp {
	var list []impl.DOp
	for i := range count {
		list = append(list, appendOp(fmt.Sprint("n", i%3), fmt.Sprint(i)))
	}
	return list
}

// fewOps has each kind, on files that are there and that are not, and some that hang on one ahead of them.
func fewOps() impl.Disk {
	return diskOf(files(file("a", "one"), file("b", "two"), file("z", "")),
		appendOp("a", "more"), removeOp("b"), appendOp("n", "new"), renameOp("n", "a"), renameOp("z", "y"), appendOp("y", "end"))
}

func rightDisks() []impl.Disk {
	long := strings.Repeat("n", 100)
	full := strings.Repeat("x", impl.MaxBytes)
	spread := manyFiles(60, strings.Repeat("y", 3333))
	spread[59].Data += strings.Repeat("z", 20)
	return []impl.Disk{
		{},
		{Live: files(), Safe: files(), Ops: []impl.DOp{}},
		diskOf(files(file("a", ""))),
		diskOf(files(file("\x00", "zero"), file("a/b c", "\x00\xff"), file("\xff", ""))),
		diskOf(files(file("a", "1"), file("a.", "2"), file("aa", "3"), file("b", "1"))),
		diskOf(files(file("a", "1"), file(long, "2"))),
		diskOf(nil, appendOp("a", "")),
		diskOf(nil, appendOp(long, "x"), renameOp(long, "a"), renameOp("a", long), removeOp(long)),
		diskOf(manyFiles(60, "")),
		diskOf(manyFiles(59, ""), appendOp("a", "the last one")),
		diskOf(manyFiles(60, "x"), renameOp("f00", "f01"), appendOp("new", "y")),
		diskOf(spread),
		diskOf(files(file("a", full))),
		diskOf(files(file("a", full[1:])), appendOp("b", "x")),
		diskOf(files(file("a", full)), removeOp("a"), appendOp("a", full), appendOp("a", ""), appendOp("b", "")),
		diskOf(files(file("a", full[10:]), file("b", "0123456789")), renameOp("a", "b"), appendOp("c", "0123456789")),
		diskOf(nil, manyOps(200)...),
		diskOf(files(file("a", "x")), slices.Repeat([]impl.DOp{renameOp("a", "a")}, 200)...),
		fewOps(),
	}
}

type wrongDisk struct {
	what string
	disk impl.Disk
}

func disksOfWrongFiles() []wrongDisk {
	long := strings.Repeat("n", 101)
	full := strings.Repeat("x", impl.MaxBytes)
	var list []wrongDisk
	for _, w := range []struct {
		what  string
		files []impl.File
	}{
		{"a file without a name", files(file("", "x"))},
		{"a file without a name or data", files(file("", ""))},
		{"a file without a name ahead", files(file("", ""), file("a", ""))},
		{"a name of 101 bytes", files(file(long, "x"))},
		{"a name of 101 bytes behind", files(file("a", ""), file(long, "x"))},
		{"two alike", files(file("a", "1"), file("a", "1"))},
		{"two alike, of other data", files(file("a", "1"), file("a", ""), file("b", ""))},
		{"names that fall", files(file("b", ""), file("a", ""))},
		{"names that fall at the end", files(file("a", ""), file("c", ""), file("b", ""))},
		{"a beginning behind", files(file("ab", ""), file("a", ""))},
		{"too many files", manyFiles(61, "")},
		{"far too many files", manyFiles(90, "")},
		{"a byte too many", files(file("a", full+"x"))},
		{"a byte too many in all", files(file("a", full), file("b", "x"))},
		{"too many bytes in all", manyFiles(60, strings.Repeat("y", 3334))},
	} {
		// Removed, appended: so that just one of both lists is wrong, where that can be.
		list = append(list, wrongDisk{w.what, diskOf(w.files)}, wrongDisk{w.what + ", both", impl.Disk{Live: w.files, Safe: w.files}})
		var ops []impl.DOp
		for _, f := range w.files {
			ops = append(ops, appendOp(f.Name, f.Data))
		}
		list = append(list, wrongDisk{w.what + ", made", impl.Disk{Live: w.files, Ops: ops}}, wrongDisk{w.what + ", live alone", impl.Disk{Live: w.files}})
		ops = nil
		for name := range heldByRule(w.files) {
			ops = append(ops, removeOp(name))
		}
		list = append(list, wrongDisk{w.what + ", gone", impl.Disk{Safe: w.files, Ops: ops}}, wrongDisk{w.what + ", safe alone", impl.Disk{Safe: w.files}})
	}
	return list
}

func wrongOps() []impl.DOp {
	long := strings.Repeat("n", 101)
	return []impl.DOp{
		{}, {Name: "a"}, {Kind: 4, Name: "a"}, {Kind: -1, Name: "a"}, {Kind: 1<<32 + 1, Name: "a"}, {Kind: 1<<63 - 1, Name: "a"},
		appendOp("", "x"), appendOp(long, "x"), renameOp("", "b"), renameOp(long, "b"), removeOp(""), removeOp(long),
		renameOp("a", ""), renameOp("a", long), renameOp("", ""),
		{Kind: impl.DkAppend, Name: "a", To: "b", Data: "x"}, {Kind: impl.DkAppend, Name: "a", To: "a"},
		{Kind: impl.DkRemove, Name: "a", To: "b"}, {Kind: impl.DkRemove, Name: "a", To: "a"}, {Kind: impl.DkRemove, Name: "a", Data: "x"},
		{Kind: impl.DkRename, Name: "a", To: "b", Data: "x"}, {Kind: impl.DkRename, Name: "a", To: "a", Data: "x"},
	}
}

func disksOfWrongOps() []wrongDisk {
	ab := files(file("a", "one"), file("b", "two"))
	full := strings.Repeat("x", impl.MaxBytes)
	list := []wrongDisk{
		{"too many ops", diskOf(nil, manyOps(201)...)},
		{"too many ops that change nothing", diskOf(ab, slices.Repeat([]impl.DOp{appendOp("a", "")}, 201)...)},
		{"a file less", impl.Disk{Live: ab[:1], Safe: ab}},
		{"a file more", impl.Disk{Live: ab, Safe: ab[1:]}},
		{"other data", impl.Disk{Live: files(file("a", "one"), file("b", "too")), Safe: ab}},
		{"another name", impl.Disk{Live: files(file("a", "one"), file("c", "two")), Safe: ab}},
		{"an op that is not seen", impl.Disk{Live: ab, Safe: ab, Ops: []impl.DOp{appendOp("a", "x")}}},
		{"seen twice", impl.Disk{Live: files(file("a", "xx")), Ops: []impl.DOp{appendOp("a", "x")}}},
		{"renamed, and there still", impl.Disk{Live: files(file("a", "one"), file("b", "one")), Safe: ab, Ops: []impl.DOp{renameOp("a", "b")}}},
		{"renamed, what was there is left", impl.Disk{Live: files(file("b", "two")), Safe: ab, Ops: []impl.DOp{renameOp("a", "b")}}},
		{"ops in another order", impl.Disk{Live: files(file("c", "xy")), Ops: []impl.DOp{appendOp("c", "y"), appendOp("c", "x")}}},
		{"removed, where none is", diskOf(ab, removeOp("c"))},
		{"removed twice", diskOf(ab, removeOp("a"), removeOp("a"))},
		{"renamed, where none is", diskOf(ab, renameOp("c", "a"))},
		{"renamed to itself, where none is", diskOf(ab, renameOp("c", "c"))},
		{"renamed twice", diskOf(ab, renameOp("a", "c"), renameOp("a", "c"))},
		{"removed ahead of where it is made", diskOf(ab, removeOp("c"), appendOp("c", "x"))},
		{"a file too many midway", diskOf(manyFiles(60, ""), appendOp("new", ""), removeOp("f00"))},
		{"a file too many midway, gone again", diskOf(manyFiles(60, ""), appendOp("new", ""), removeOp("new"))},
		{"a byte too many midway", diskOf(files(file("a", full)), appendOp("b", "x"), removeOp("a"))},
		{"a byte too many midway, covered again", diskOf(files(file("a", full), file("b", "")), appendOp("a", "x"), renameOp("b", "a"))},
	}
	for i, op := range wrongOps() {
		list = append(list, wrongDisk{fmt.Sprint("wrong op ", i), diskOf(ab, op)})
		list = append(list, wrongDisk{fmt.Sprintf("wrong op %d, not seen", i), impl.Disk{Live: ab, Safe: ab, Ops: []impl.DOp{op}}})
		list = append(list, wrongDisk{fmt.Sprintf("wrong op %d between", i), diskOf(ab, appendOp("a", "x"), op, appendOp("a", "x"))})
	}
	return list
}

func wrongDisks() []wrongDisk {
	return append(disksOfWrongFiles(), disksOfWrongOps()...)
}

func someOps() []impl.DOp {
	long := strings.Repeat("n", 100)
	return append(wrongOps(),
		appendOp("a", ""), appendOp("a", "x"), appendOp("new", ""), appendOp("new", "x"), appendOp("new", "0123456789"), appendOp("new", "0123456789A"), appendOp(long, "x"),
		appendOp("new", strings.Repeat("x", impl.MaxBytes)), appendOp("new", strings.Repeat("x", impl.MaxBytes+1)),
		renameOp("a", "a"), renameOp("a", "b"), renameOp("a", "new"), renameOp("b", "a"), renameOp("a", long), renameOp(long, "a"), renameOp("f00", "f59"), renameOp("f59", "f00"), renameOp("f00", "new"),
		renameOp("no such", "a"), renameOp("no such", "no such"), renameOp("n1", "n0"),
		removeOp("a"), removeOp("b"), removeOp("f30"), removeOp(long), removeOp("no such"), removeOp("y"))
}

func checkDisk(t *testing.T, what string, d impl.Disk, want bool) {
	t.Helper()
	if rightDiskByRule(d) != want || impl.DiskOk(d) != want {
		t.Errorf("%s: DiskOk is %t, by rule %t, of %s", what, impl.DiskOk(d), rightDiskByRule(d), shownDisk(d))
	}
}

func checkDone(t *testing.T, d impl.Disk, op impl.DOp, want impl.Disk, code int64) {
	t.Helper()
	done, told := impl.Do(d, op)
	if told != code || !sameDisk(done, want) {
		t.Errorf("Do %s: %d %s, not %d %s", shownOp(op), told, shownDisk(done), code, shownDisk(want))
	}
}

func checkCrashed(t *testing.T, d impl.Disk, keep []int64, torn int64, want impl.Disk, ok bool) {
	t.Helper()
	left, told := impl.Crash(d, keep, torn)
	if told != ok || !sameDisk(left, want) {
		t.Errorf("Crash of %s, %v, %d: %t %s, not %t %s", shownDisk(d), keep, torn, told, shownDisk(left), ok, shownDisk(want))
	}
}

// eachChoice tells each choice of so many places.
func eachChoice(count int, yield func(keep []int64)) {
	for chosen := range 1 << count {
		var keep []int64
		for place := range count {
			if chosen>>place%2 == 1 {
				keep = append(keep, int64(place))
			}
		}
		yield(keep)
	}
}

func allPlaces(d impl.Disk) []int64 {
	var keep []int64
	for place := range d.Ops {
		keep = append(keep, int64(place))
	}
	return keep
}

func TestPromise15RightDisks(t *testing.T) {
	for i, d := range rightDisks() {
		checkDisk(t, fmt.Sprint("right ", i), d, true)
		if !sameDisk(impl.Sync(d), impl.Disk{Live: d.Live, Safe: d.Live}) {
			t.Errorf("Sync of %s: %s", shownDisk(d), shownDisk(impl.Sync(d)))
		}
		for _, f := range d.Live {
			if data, ok := impl.ReadFile(d, f.Name); !ok || data != f.Data {
				t.Errorf("ReadFile of %s in %s: %q %t", f.Name, shownDisk(d), data, ok)
			}
		}
		for _, name := range []string{"", "no such", "A", "a\x00", strings.Repeat("n", 101)} {
			if data, ok := impl.ReadFile(d, name); ok || data != "" {
				t.Errorf("ReadFile of %q in %s: %q %t", name, shownDisk(d), data, ok)
			}
		}
	}
	if data, ok := impl.ReadFile(fewOps(), "n"); ok || data != "" {
		t.Errorf("what was renamed is there: %q", data)
	}
	if data, ok := impl.ReadFile(fewOps(), "b"); ok || data != "" {
		t.Errorf("what was removed is there: %q", data)
	}
}

func TestPromise15WrongDisks(t *testing.T) {
	for _, w := range wrongDisks() {
		checkDisk(t, w.what, w.disk, false)
		checkDone(t, w.disk, appendOp("a", "x"), impl.Disk{}, impl.DkDisk)
		checkDone(t, w.disk, impl.DOp{}, impl.Disk{}, impl.DkDisk)
		checkDone(t, w.disk, removeOp("no such"), impl.Disk{}, impl.DkDisk)
		if d := impl.Sync(w.disk); !sameDisk(d, impl.Disk{}) {
			t.Errorf("%s: Sync %s", w.what, shownDisk(d))
		}
		checkCrashed(t, w.disk, nil, 0, impl.Disk{}, false)
		checkCrashed(t, w.disk, allPlaces(w.disk), impl.MaxBytes, impl.Disk{}, false)
		for _, f := range append(w.disk.Live, file("a", "")) {
			if data, ok := impl.ReadFile(w.disk, f.Name); ok || data != "" {
				t.Errorf("%s: ReadFile %q", w.what, data)
			}
		}
		for _, name := range []string{"a", "", "new", strings.Repeat("n", 101)} {
			if d, code := impl.Replace(w.disk, name, "x"); code != impl.DkDisk || !sameDisk(d, impl.Disk{}) {
				t.Errorf("%s: Replace %d %s", w.what, code, shownDisk(d))
			}
		}
	}
}

func TestPromise15WhatIsDoneIsSeen(t *testing.T) {
	for _, d := range rightDisks() {
		for _, op := range someOps() {
			want, code := doByRule(d, op)
			checkDone(t, d, op, want, code)
			if done, _ := impl.Do(d, op); !impl.DiskOk(done) {
				t.Errorf("Do %s leaves no right disk: %s", shownOp(op), shownDisk(done))
			}
		}
	}
	d := impl.Disk{}
	for i, step := range []struct {
		op   impl.DOp
		live []impl.File
	}{
		{appendOp("b", "x"), files(file("b", "x"))},
		{appendOp("a", ""), files(file("a", ""), file("b", "x"))},
		{appendOp("b", "y"), files(file("a", ""), file("b", "xy"))},
		{appendOp("b", ""), files(file("a", ""), file("b", "xy"))},
		{renameOp("b", "b"), files(file("a", ""), file("b", "xy"))},
		{renameOp("b", "a"), files(file("a", "xy"))},
		{renameOp("a", "c"), files(file("c", "xy"))},
		{appendOp("a", "z"), files(file("a", "z"), file("c", "xy"))},
		{removeOp("a"), files(file("c", "xy"))},
		{removeOp("c"), nil},
	} {
		var code int64
		d, code = impl.Do(d, step.op)
		if code != impl.DkOk || !slices.Equal(d.Live, step.live) || len(d.Safe) != 0 || len(d.Ops) != i+1 || d.Ops[i] != step.op {
			t.Fatalf("%s: %d %s", shownOp(step.op), code, shownDisk(d))
		}
	}
}

// full has as many ops, files and bytes as may be.
func full() impl.Disk {
	ops := slices.Repeat([]impl.DOp{appendOp("f00", "")}, 200)
	list := manyFiles(60, "")
	list[0].Data = strings.Repeat("x", impl.MaxBytes)
	return diskOf(list, ops...)
}

func TestPromise15TheFirstFaultIsTold(t *testing.T) {
	long := strings.Repeat("n", 101)
	for _, c := range []struct {
		d    impl.Disk
		op   impl.DOp
		code int64
	}{
		{full(), impl.DOp{}, impl.DkForm},
		{full(), impl.DOp{Kind: 9, Name: "no such", To: long}, impl.DkForm},
		{full(), renameOp("no such", ""), impl.DkForm},
		{full(), impl.DOp{Kind: impl.DkRemove, Name: "no such", Data: "x"}, impl.DkForm},
		{full(), appendOp(long, "x"), impl.DkForm},
		{full(), renameOp("no such", "f00"), impl.DkNone},
		{full(), removeOp("no such"), impl.DkNone},
		{full(), removeOp("f00"), impl.DkFull},
		{full(), renameOp("f00", "f01"), impl.DkFull},
		{full(), renameOp("f00", "f00"), impl.DkFull},
		{full(), appendOp("f00", ""), impl.DkFull},
		{impl.Sync(full()), appendOp("f00", ""), impl.DkOk},
		{impl.Sync(full()), appendOp("f00", "x"), impl.DkFull},
		{impl.Sync(full()), appendOp("f59", "x"), impl.DkFull},
		{impl.Sync(full()), appendOp("new", ""), impl.DkFull},
		{impl.Sync(full()), appendOp("new", "x"), impl.DkFull},
		{impl.Sync(full()), renameOp("f01", "f00"), impl.DkOk},
		{impl.Sync(full()), renameOp("f01", "new"), impl.DkOk},
		{diskOf(manyFiles(59, "")), appendOp("new", ""), impl.DkOk},
		{diskOf(nil, manyOps(199)...), appendOp("n0", "x"), impl.DkOk},
		{diskOf(nil, manyOps(199)...), removeOp("n0"), impl.DkOk},
		{diskOf(nil, manyOps(200)...), removeOp("n0"), impl.DkFull},
		{diskOf(files(file("a", strings.Repeat("x", impl.MaxBytes-3)))), appendOp("b", "123"), impl.DkOk},
		{diskOf(files(file("a", strings.Repeat("x", impl.MaxBytes-3)))), appendOp("b", "1234"), impl.DkFull},
	} {
		if _, code := impl.Do(c.d, c.op); code != c.code {
			t.Errorf("Do %s: %d, not %d", shownOp(c.op), code, c.code)
		}
		want, code := doByRule(c.d, c.op)
		checkDone(t, c.d, c.op, want, code)
	}
}

func TestPromise15CrashThatKeepsAllOrNone(t *testing.T) {
	for _, d := range rightDisks() {
		for _, torn := range []int64{impl.MaxBytes, 1<<63 - 1} {
			checkCrashed(t, d, allPlaces(d), torn, impl.Disk{Live: d.Live, Safe: d.Live}, true)
		}
		for _, torn := range []int64{0, 1, impl.MaxBytes, 1<<63 - 1} {
			checkCrashed(t, d, nil, torn, impl.Disk{Live: d.Safe, Safe: d.Safe}, true)
			checkCrashed(t, d, []int64{}, torn, impl.Disk{Live: d.Safe, Safe: d.Safe}, true)
		}
		synced := impl.Sync(d)
		checkCrashed(t, synced, nil, 0, impl.Disk{Live: d.Live, Safe: d.Live}, true)
		for _, torn := range []int64{-1, -2, -1 << 63} {
			checkCrashed(t, d, nil, torn, impl.Disk{}, false)
			checkCrashed(t, d, allPlaces(d), torn, impl.Disk{}, false)
		}
		behindEnd := int64(len(d.Ops))
		for _, keep := range [][]int64{{-1}, {-1 << 63}, {behindEnd}, {behindEnd + 1}, {1 << 32}, {1<<63 - 1}, append(allPlaces(d), behindEnd), append([]int64{-1}, allPlaces(d)...)} {
			checkCrashed(t, d, keep, impl.MaxBytes, impl.Disk{}, false)
		}
	}
	for _, keep := range [][]int64{{0, 0}, {1, 0}, {5, 5}, {0, 1, 1}, {0, 2, 1}, {5, 0}, {0, 1, 2, 3, 4, 5, 5}, {5, 4, 3, 2, 1, 0}, {0, -1}, {3, 6}, {6, 3}} {
		checkCrashed(t, fewOps(), keep, 100, impl.Disk{}, false)
	}
}

func TestPromise15CrashThatKeepsSome(t *testing.T) {
	long := strings.Repeat("n", 100)
	for _, d := range []impl.Disk{
		fewOps(),
		diskOf(files(file("a", "1"), file("b", "2"), file("c", "3")), renameOp("a", "b"), renameOp("b", "c"), renameOp("c", "a"), renameOp("a", "a"), removeOp("a")),
		diskOf(nil, appendOp("a", "abc"), appendOp("a", "def"), renameOp("a", "b"), appendOp("a", ""), appendOp("a", "ghi"), renameOp("b", "a"), appendOp("a", "jkl")),
		diskOf(files(file("a", "x")), removeOp("a"), appendOp("a", "abc"), removeOp("a"), appendOp("a", "defg"), renameOp("a", long), removeOp(long), appendOp("a", "h")),
	} {
		checkDisk(t, "some ops", d, true)
		eachChoice(len(d.Ops), func(keep []int64) {
			for _, torn := range []int64{0, 1, 2, 3, 4, 5, 1 << 62} {
				want, ok := crashedByRule(d, keep, torn)
				checkCrashed(t, d, keep, torn, want, ok)
			}
		})
	}
	d := fewOps()
	for _, c := range []struct {
		keep []int64
		torn int64
		left []impl.File
	}{
		{[]int64{0}, 0, files(file("a", "one"), file("b", "two"), file("z", ""))},
		{[]int64{0}, 1, files(file("a", "onem"), file("b", "two"), file("z", ""))},
		{[]int64{0}, 3, files(file("a", "onemor"), file("b", "two"), file("z", ""))},
		{[]int64{0}, 4, files(file("a", "onemore"), file("b", "two"), file("z", ""))},
		{[]int64{0}, 5, files(file("a", "onemore"), file("b", "two"), file("z", ""))},
		{[]int64{1}, 0, files(file("a", "one"), file("z", ""))},
		{[]int64{0, 1}, 0, files(file("a", "onemore"), file("z", ""))},
		{[]int64{2}, 0, files(file("a", "one"), file("b", "two"), file("n", ""), file("z", ""))},
		{[]int64{2, 3}, 0, files(file("a", "new"), file("b", "two"), file("z", ""))},
		{[]int64{3}, 0, files(file("a", "one"), file("b", "two"), file("z", ""))},
		{[]int64{5}, 2, files(file("a", "one"), file("b", "two"), file("y", "en"), file("z", ""))},
		{[]int64{4, 5}, 2, files(file("a", "one"), file("b", "two"), file("y", "en"))},
	} {
		checkCrashed(t, d, c.keep, c.torn, impl.Disk{Live: c.left, Safe: c.left}, true)
	}
}

func TestPromise15CrashBehindWhichIsTooMuch(t *testing.T) {
	full := strings.Repeat("x", impl.MaxBytes)
	for _, d := range []impl.Disk{
		diskOf(manyFiles(60, ""), removeOp("f00"), appendOp("new", "x"), removeOp("f01"), appendOp("newer", "y")),
		diskOf(manyFiles(60, ""), renameOp("f00", "f01"), appendOp("new", "x"), renameOp("f02", "f03"), appendOp("newer", "")),
		diskOf(files(file("a", full)), removeOp("a"), appendOp("b", "1"), removeOp("b"), appendOp("b", full)),
		diskOf(files(file("a", full[3:]), file("b", "")), appendOp("a", "123"), renameOp("b", "a"), appendOp("c", "1234"), appendOp("c", "5")),
	} {
		checkDisk(t, "near the limits", d, true)
		eachChoice(len(d.Ops), func(keep []int64) {
			for _, torn := range []int64{0, 1, 2, 3, 4, impl.MaxBytes - 1, impl.MaxBytes} {
				want, ok := crashedByRule(d, keep, torn)
				checkCrashed(t, d, keep, torn, want, ok)
			}
		})
	}
	swap := diskOf(manyFiles(60, ""), removeOp("f00"), appendOp("new", "x"), removeOp("f01"))
	checkCrashed(t, swap, []int64{1}, 5, impl.Disk{}, false)
	left := append(manyFiles(60, ""), file("new", "x"))
	left = slices.Delete(left, 1, 2)
	checkCrashed(t, swap, []int64{1, 2}, 5, impl.Disk{Live: left, Safe: left}, true)
	heavy := diskOf(files(file("a", full)), removeOp("a"), appendOp("b", "12"))
	checkCrashed(t, heavy, []int64{1}, 1, impl.Disk{}, false)
	withEmpty := files(file("a", full), file("b", ""))
	checkCrashed(t, heavy, []int64{1}, 0, impl.Disk{Live: withEmpty, Safe: withEmpty}, true)
	var turns []impl.DOp
	for range 100 {
		turns = append(turns, appendOp("a", full), removeOp("a"))
	}
	far := diskOf(nil, turns...)
	var appends []int64
	for place := range int64(100) {
		appends = append(appends, 2*place)
	}
	checkCrashed(t, far, appends, impl.MaxBytes, impl.Disk{}, false)
	checkCrashed(t, far, append(appends, 199), 0, impl.Disk{}, true)
}

// replacedByRule tells what Replace answers of a right disk, step by step.
func replacedByRule(d impl.Disk, name string, data string) (impl.Disk, int64) {
	was := d
	ops := []impl.DOp{appendOp(name+".new", data), renameOp(name+".new", name)}
	if _, there := heldByRule(d.Live)[name+".new"]; there {
		ops = append([]impl.DOp{removeOp(name + ".new")}, ops...)
	}
	for _, op := range ops {
		var code int64
		if d, code = doByRule(d, op); code != impl.DkOk {
			return was, code
		}
	}
	return d, impl.DkOk
}

func checkReplaced(t *testing.T, d impl.Disk, name string, data string, code int64) impl.Disk {
	t.Helper()
	want, byRule := replacedByRule(d, name, data)
	done, told := impl.Replace(d, name, data)
	if told != byRule || told != code || !sameDisk(done, want) {
		t.Errorf("Replace of %s by %s: %d %s, not %d (%d) %s", shortly(name), shortly(data), told, shownDisk(done), code, byRule, shownDisk(want))
	}
	return done
}

func TestPromise15FilesAreReplaced(t *testing.T) {
	long := strings.Repeat("n", 96)
	plain := diskOf(files(file("a", "old"), file("b", "x")))
	behind := diskOf(files(file("a", "old"), file("a.new", "left"), file("b", "x")), appendOp("b", "y"))
	for _, d := range []impl.Disk{{}, plain, behind} {
		for _, data := range []string{"", "n", "new data"} {
			for _, name := range []string{"a", "b", "c", long[1:], long} {
				done := checkReplaced(t, d, name, data, impl.DkOk)
				if read, ok := impl.ReadFile(done, name); !ok || read != data {
					t.Errorf("replaced by %q, read %q %t", data, read, ok)
				}
				if _, there := impl.ReadFile(done, name+".new"); there {
					t.Errorf("%s.new is left", name)
				}
			}
			// From 97 bytes on the name with .new is too long; a name of none is one then.
			for _, name := range []string{long + "n", long + "nnnn", long + "nnnnn", ""} {
				checkReplaced(t, d, name, data, impl.DkForm)
			}
		}
	}
	if d := checkReplaced(t, plain, "a", "new", impl.DkOk); len(d.Ops) != 2 {
		t.Errorf("%d ops", len(d.Ops))
	}
	if d := checkReplaced(t, behind, "a", "new", impl.DkOk); len(d.Ops) != 4 || d.Ops[1] != removeOp("a.new") {
		t.Errorf("%d ops", len(d.Ops))
	}
}

func TestPromise15FilesAreNotReplaced(t *testing.T) {
	most := impl.Sync(full())
	checkReplaced(t, most, "f00", "", impl.DkFull)
	checkReplaced(t, most, "new", "", impl.DkFull)
	most.Live, most.Safe = slices.Clone(most.Live), nil
	most.Live[59].Name = "f.new"
	most = diskOf(slices.Concat(most.Live[59:], most.Live[:59]))
	checkReplaced(t, most, "f", "", impl.DkOk)
	checkReplaced(t, most, "f", "x", impl.DkFull)
	checkReplaced(t, most, "", "x", impl.DkFull)
	heavy := diskOf(files(file("a", strings.Repeat("x", impl.MaxBytes-3))))
	checkReplaced(t, heavy, "a", "123", impl.DkOk)
	// What it was counts until it is replaced.
	checkReplaced(t, heavy, "a", "1234", impl.DkFull)
	checkReplaced(t, heavy, strings.Repeat("n", 97), "1234", impl.DkForm)
	checkReplaced(t, heavy, "", "123", impl.DkForm)
	checkReplaced(t, heavy, "", "1234", impl.DkFull)
	spare := files(file("a", "old"), file("a.new", "left"))
	for left, code := range []int64{impl.DkFull, impl.DkFull, impl.DkFull, impl.DkOk, impl.DkOk} {
		ops := slices.Repeat([]impl.DOp{appendOp("a", "")}, 200-left)
		checkReplaced(t, diskOf(spare, ops...), "a", "new", code)
		if left >= 2 {
			code = impl.DkOk
		}
		checkReplaced(t, diskOf(spare[:1], ops...), "a", "new", code)
	}
	if d, code := impl.Replace(full(), "f00", "x"); code != impl.DkFull || !sameDisk(d, full()) {
		t.Errorf("refused with %d, and changed", code)
	}
}

func TestPromise15TheOldOneOrTheNewOne(t *testing.T) {
	for _, old := range [][]impl.File{
		nil,
		files(file("b", "beside")),
		files(file("a", "old")),
		files(file("a", ""), file("b", "beside")),
	} {
		for _, data := range []string{"", "n", "new data"} {
			synced := diskOf(old)
			done, code := impl.Replace(synced, "a", data)
			if code != impl.DkOk {
				t.Fatal(code)
			}
			was, wasThere := impl.ReadFile(synced, "a")
			eachChoice(len(done.Ops), func(keep []int64) {
				for torn := range int64(len(data) + 2) {
					left, ok := impl.Crash(done, keep, torn)
					if !ok {
						t.Fatal("no crash")
					}
					is, isThere := impl.ReadFile(left, "a")
					if (is != was || isThere != wasThere) && (is != data || !isThere) {
						t.Errorf("%v, %d: %q %t is neither %q nor %q", keep, torn, is, isThere, was, data)
					}
					beside, _ := impl.ReadFile(synced, "b")
					if after, _ := impl.ReadFile(left, "b"); after != beside {
						t.Errorf("%v, %d: another file is %q", keep, torn, after)
					}
				}
			})
		}
	}
}

// drawnOp makes ops of few names, so that they meet each other.
func drawnOp(drawn string) impl.DOp {
	names := []string{"a", "b", "a.new", "c"}
	name := func(b byte) string { return names[b%4] }
	op := impl.DOp{Kind: int64(drawn[0])%4 + 1, Name: name(drawn[1])}
	switch op.Kind {
	case impl.DkAppend:
		op.Data = drawn[3 : 3+int(drawn[2])%5]
	case impl.DkRename:
		op.To = name(drawn[2])
	}
	if drawn[0] > 240 {
		op.Name = strings.Repeat("n", 101*int(drawn[1]%2))
	}
	return op
}

func TestPromise15DrawnOps(t *testing.T) {
	for seed := range uint64(40) {
		d := impl.Disk{}
		for place := range 30 {
			drawn := someBytes(1000*seed+uint64(place), 12)
			op := drawnOp(drawn)
			want, code := doByRule(d, op)
			checkDone(t, d, op, want, code)
			d = want
			checkDisk(t, "drawn", d, true)
			var keep []int64
			for k := range d.Ops {
				if someBytes(seed+uint64(place*100+k), 1)[0]%3 != 0 {
					keep = append(keep, int64(k))
				}
			}
			torn := int64(drawn[11] % 6)
			left, ok := crashedByRule(d, keep, torn)
			checkCrashed(t, d, keep, torn, left, ok)
			checkReplaced(t, d, "a", drawn[:3], impl.DkOk)
			switch drawn[10] % 16 {
			case 0:
				d = impl.Sync(d)
			case 1:
				d = left
			}
		}
	}
}

func diskStrings(d impl.Disk) []string {
	var all []string
	for _, f := range slices.Concat(d.Live, d.Safe) {
		all = append(all, f.Name, f.Data)
	}
	for _, op := range d.Ops {
		all = append(all, op.Name, op.To, op.Data)
	}
	return all
}

// ownDisk has strings that no other one has.
func ownDisk(d impl.Disk) impl.Disk {
	d = impl.Disk{Live: slices.Clone(d.Live), Safe: slices.Clone(d.Safe), Ops: slices.Clone(d.Ops)}
	for _, list := range [][]impl.File{d.Live, d.Safe} {
		for i, f := range list {
			list[i] = file(strings.Clone(f.Name), strings.Clone(f.Data))
		}
	}
	for i, op := range d.Ops {
		d.Ops[i] = impl.DOp{Kind: op.Kind, Name: strings.Clone(op.Name), To: strings.Clone(op.To), Data: strings.Clone(op.Data)}
	}
	return d
}

func diskAnswers(d impl.Disk, op impl.DOp, keep []int64) map[string]impl.Disk {
	answers := map[string]impl.Disk{}
	answers["done"], _ = impl.Do(d, op)
	answers["not done"], _ = impl.Do(d, removeOp("no such"))
	answers["of no form"], _ = impl.Do(d, impl.DOp{})
	answers["synced"] = impl.Sync(d)
	answers["crashed"], _ = impl.Crash(d, keep, 2)
	answers["none kept"], _ = impl.Crash(d, nil, 2)
	answers["replaced"], _ = impl.Replace(d, op.Name, op.Data)
	answers["not replaced"], _ = impl.Replace(d, "", op.Data)
	return answers
}

func checkOwnStrings(t *testing.T, what string, answer []string, given []string) {
	t.Helper()
	if len(answer) == 0 {
		t.Errorf("%s: no answer", what)
	}
	for i, s := range answer {
		for k, other := range answer {
			if i != k && sharesMemory(s, other) {
				t.Errorf("%s: %s and %s share memory", what, shortly(s), shortly(other))
			}
		}
		for _, other := range given {
			if sharesMemory(s, other) {
				t.Errorf("%s: %s lies in an argument", what, shortly(s))
			}
		}
	}
}

func TestPromise18DisksAreNewMemory(t *testing.T) {
	d := ownDisk(fewOps())
	op := appendOp(strings.Clone("a"), strings.Clone("more of it"))
	given := append(diskStrings(d), op.Name, op.Data)
	for what, answer := range diskAnswers(d, op, []int64{0, 2, 5}) {
		checkOwnStrings(t, what, diskStrings(answer), given)
	}
	for _, f := range d.Live {
		data, _ := impl.ReadFile(d, f.Name)
		checkOwnStrings(t, "read", []string{data}, given)
	}
}

func TestPromise18DisksWriteIntoNoArgument(t *testing.T) {
	d := fewOps()
	live := append(d.Live, file("spare", "room"), file("spare", "room"))
	safe := append(d.Safe, file("spare", "room"), file("spare", "room"))
	ops := append(d.Ops, appendOp("spare", "room"), removeOp("spare"))
	keep := []int64{0, 2, 5, 77, 78}
	was := ownDisk(impl.Disk{Live: live, Safe: safe, Ops: ops})
	d = impl.Disk{Live: live[:len(d.Live)], Safe: safe[:len(d.Safe)], Ops: ops[:len(d.Ops)]}
	op := appendOp("a", "more of it")
	first := map[string]impl.Disk{}
	for what, answer := range diskAnswers(d, op, keep[:3]) {
		first[what] = ownDisk(answer)
		// What lies in one list's memory would change as another one is written into.
		for i := range answer.Live[:cap(answer.Live)] {
			answer.Live[:cap(answer.Live)][i] = file("x", "y")
		}
		if !slices.Equal(answer.Safe, first[what].Safe) {
			t.Errorf("%s: two lists of the answer share memory", what)
		}
		clear(answer.Safe[:cap(answer.Safe)])
		clear(answer.Ops[:cap(answer.Ops)])
	}
	if !sameDisk(was, impl.Disk{Live: live, Safe: safe, Ops: ops}) || !slices.Equal(keep, []int64{0, 2, 5, 77, 78}) {
		t.Error("something was written into an argument, or behind it")
	}
	for what, answer := range diskAnswers(d, op, keep[:3]) {
		if !sameDisk(answer, first[what]) {
			t.Errorf("%s: the same arguments give another answer: %s, not %s", what, shownDisk(answer), shownDisk(first[what]))
		}
	}
}
