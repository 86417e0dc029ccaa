package tests

import (
	"fmt"
	"regexp"
	"slices"
	"strings"
	"testing"

	"loop.example/g00228/impl"
)

// The forms of the document's table, each for a line as a whole.
const (
	numberForm = ` +(0|[1-9][0-9]{0,5})`
	nodesForm  = `((?: +(?:[^ =]*=[^ ]*|[^ =]*/))*)`
)

var lineForms = map[string]*regexp.Regexp{
	"new":   formOf("new"),
	"open":  formOf("open"),
	"snap":  formOf("snap" + numberForm + nodesForm),
	"cut":   formOf("cut" + numberForm + numberForm + nodesForm),
	"drop":  formOf("drop" + numberForm),
	"crash": formOf("crash" + numberForm + numberForm),
	"list":  formOf("list"),
	"show":  formOf("show" + numberForm),
	"files": formOf("files"),
}

func formOf(line string) *regexp.Regexp {
	return regexp.MustCompile(`^ *` + line + ` *$`)
}

// scene is a script that is gone through by rule, its acts by the functions of chapter 16.
type scene struct {
	t    *testing.T
	disk impl.Disk
}

func scriptMaster() string {
	return impl.Sum("script")
}

func (s *scene) act(a impl.Act) string {
	left, code := impl.RepoDo(s.disk, scriptMaster(), a)
	s.disk = left
	return codeSaid(code)
}

func codeSaid(code int64) string {
	if code == impl.RpOk {
		return "ok"
	}
	return fmt.Sprint("no ", code)
}

func (s *scene) number(digits string) int64 {
	s.t.Helper()
	n := int64(-1)
	if _, err := fmt.Sscanf(digits, "%d", &n); err != nil {
		s.t.Fatal(err)
	}
	return n
}

// nodesByRule puts each node in its place among those ahead of it, before one of its path.
func nodesByRule(words string) []impl.Node {
	var list []impl.Node
	for _, word := range strings.Split(words, " ") {
		if word == "" {
			continue
		}
		n := dirNode(word[:len(word)-1])
		if at := strings.IndexByte(word, '='); at >= 0 {
			n = fileNode(word[:at], word[at+1:])
		}
		place := 0
		for place < len(list) && list[place].Path < n.Path {
			place++
		}
		list = slices.Insert(list, place, n)
	}
	return list
}

func (s *scene) list() string {
	c, code := impl.RepoView(s.disk, scriptMaster())
	if code != impl.RpOk {
		return codeSaid(code)
	}
	said := []string{"list"}
	for _, one := range c.Snaps {
		said = append(said, fmt.Sprintf("%d@%d", one.Id, one.Time))
	}
	return strings.Join(said, " ")
}

func (s *scene) show(id int64) string {
	c, code := impl.RepoView(s.disk, scriptMaster())
	if code != impl.RpOk {
		return codeSaid(code)
	}
	tree, ok := impl.Restore(c, id)
	if !ok {
		return "no 9"
	}
	return strings.Join(append([]string{"show"}, nodesSaid(tree)...), " ")
}

func nodesSaid(tree []impl.Node) []string {
	var said []string
	for _, n := range tree {
		if n.Dir {
			said = append(said, n.Path+"/")
		} else {
			said = append(said, n.Path+"="+n.Data)
		}
	}
	return said
}

func (s *scene) files() string {
	said := "files"
	for _, f := range s.disk.Live {
		said += " " + f.Name
	}
	return said
}

func (s *scene) crash(keep int64, torn int64) string {
	return s.act(crashAct(torn, allPlaces(s.disk)[:min(int(keep), len(s.disk.Ops))]...))
}

// line tells what a line says that has words.
func (s *scene) line(line string) string {
	form := lineForms[strings.Split(strings.TrimLeft(line, " "), " ")[0]]
	if form == nil || !form.MatchString(line) {
		return "what"
	}
	found := form.FindStringSubmatch(line)
	switch word, _, _ := strings.Cut(strings.TrimLeft(line, " "), " "); word {
	case "new":
		return s.act(newAct(impl.Shape{Least: 4, Bits: 3, Most: 32}))
	case "open":
		return s.act(openAct())
	case "snap":
		return s.act(snapAct(s.number(found[1]), nodesByRule(found[2])...))
	case "cut":
		return s.act(powered(snapAct(s.number(found[2]), nodesByRule(found[3])...), s.number(found[1])))
	case "drop":
		return s.act(dropAct(s.number(found[1])))
	case "crash":
		return s.crash(s.number(found[1]), s.number(found[2]))
	case "list":
		return s.list()
	case "show":
		return s.show(s.number(found[1]))
	}
	return s.files()
}

// saidByRule is for texts that are not too long.
func saidByRule(t *testing.T, text string) string {
	t.Helper()
	s, said := &scene{t: t}, ""
	for _, line := range strings.Split(text, "\n") {
		if strings.Trim(line, " ") != "" {
			said += s.line(line) + "\n"
		}
	}
	return said
}

// script ends each line.
func script(list ...string) string {
	var b strings.Builder
	for _, line := range list {
		b.WriteString(line + "\n")
	}
	return b.String()
}

func shownScript(text string) string {
	if len(text) > 300 {
		return fmt.Sprintf("%.200q and %d more", text, len(text)-200)
	}
	return fmt.Sprintf("%q", text)
}

func checkSaid(t *testing.T, text string, want string) {
	t.Helper()
	if said := impl.RunScript(text); said != want {
		t.Errorf("RunScript %s: %s, not %s", shownScript(text), shownScript(said), shownScript(want))
	}
}

// checkByRule holds a script against the rule, too, so that neither of both is wrong alone.
func checkByRule(t *testing.T, text string) {
	t.Helper()
	checkSaid(t, text, saidByRule(t, text))
}

func checkLines(t *testing.T, lines []string, said []string) {
	t.Helper()
	checkSaid(t, script(lines...), script(said...))
	checkByRule(t, script(lines...))
}

// lastSaid is what the last line says that says something.
func lastSaid(lines ...string) string {
	said := strings.Split(impl.RunScript(script(lines...)), "\n")
	return said[max(0, len(said)-2)]
}

func repeated(line string, count int) []string {
	return slices.Repeat([]string{line}, count)
}

func TestPromise17TextsWithoutWords(t *testing.T) {
	for _, text := range []string{"", "\n", " \n", "   \n", "\n\n\n", " \n  \n   \n", strings.Repeat("\n", 40), strings.Repeat("  \n", 40), strings.Repeat(" ", 3999) + "\n"} {
		checkSaid(t, text, "")
	}
}

func TestPromise17LinesThatAreNotEnded(t *testing.T) {
	for _, text := range []string{"list", "files", " ", "x", "\x00", "new\nlist", "files\n ", "files\n\n\nfiles", "files\r", "files\n\r", "\n ", strings.Repeat("\n", 39) + "files"} {
		checkSaid(t, text, "too long\n")
		checkByRule(t, text+"\n")
	}
	checkSaid(t, strings.Repeat("\n", 40)+"files", "too long\n")
	checkSaid(t, strings.Repeat("\n", 40)+" ", "too long\n")
}

func TestPromise17JustMaxScriptLines(t *testing.T) {
	if impl.MaxScript != 40 || impl.MaxLines != 4000 {
		t.Fatal("other limits")
	}
	for _, line := range []string{"", " ", "files", "new", "what else", "snap 1 a=x"} {
		checkByRule(t, script(repeated(line, 39)...))
		checkByRule(t, script(repeated(line, 40)...))
		checkSaid(t, script(repeated(line, 41)...), "too long\n")
		checkSaid(t, script(repeated(line, 42)...), "too long\n")
		checkSaid(t, script(repeated(line, 400)...), "too long\n")
	}
	for ahead := range 40 {
		text := script(repeated("", ahead)...) + "files\n" + script(repeated(" ", 39-ahead)...)
		checkSaid(t, text, "files\n")
		checkSaid(t, text+" \n", "too long\n")
		checkSaid(t, "\n"+text, "too long\n")
	}
}

func TestPromise17JustMaxLinesBytes(t *testing.T) {
	// Each is as long as it is told to be.
	for _, of := range []func(long int) string{
		func(long int) string { return "files" + strings.Repeat(" ", long-6) + "\n" },
		func(long int) string { return strings.Repeat(" ", long-6) + "files\n" },
		func(long int) string { return "list\n" + strings.Repeat("x", long-12) + "\nfiles\n" },
		func(long int) string { return "new\nsnap 1 a=" + strings.Repeat("x", long-21) + "\nshow 1\n" },
		func(long int) string {
			return "new\nsnap 1" + strings.Repeat(" a=", (long-11)/3) + strings.Repeat("x", (long-11)%3) + "\n"
		},
		func(long int) string { return strings.Repeat("\xff", long-1) + "\n" },
		func(long int) string {
			return strings.Repeat("ä", (long-1)/2) + strings.Repeat("x", (long-1)%2) + "\n"
		},
	} {
		for _, long := range []int{3998, 3999, 4000} {
			text := of(long)
			if len(text) != long {
				t.Fatalf("%d bytes, not %d: %s", len(text), long, shownScript(text))
			}
			checkByRule(t, text)
		}
		for _, long := range []int{4001, 4002, 4004, 8000, 100000} {
			checkSaid(t, of(long), "too long\n")
		}
	}
	checkSaid(t, "new\nsnap 1 a="+strings.Repeat("xyz", 1326)+"!\nshow 1\n", "ok\nok\nshow a="+strings.Repeat("xyz", 1326)+"!\n")
}

func TestPromise17OtherBytesAreNoBlanksAndEndNoLine(t *testing.T) {
	for value := range 256 {
		b := string([]byte{byte(value)})
		if b == " " || b == "\n" {
			continue
		}
		for _, text := range []string{"files" + b + "\n", b + "files\n", "files" + b + "files\n", "files" + b + " \n", " " + b + "files\n", "files " + b + "\n", b + " files\n", "show" + b + "1\n", "show 1" + b + "2" + b + "\n", "fi" + b + "les\n"} {
			want := "what\n"
			if strings.Contains("0123456789", b) && strings.HasPrefix(text, "show 1") {
				want = "no 3\n"
			}
			checkSaid(t, text, want)
		}
		checkSaid(t, b+"\n", "what\n")
		checkSaid(t, " "+b+"\n"+b+" \n", "what\nwhat\n")
		checkSaid(t, "files"+b, "too long\n")
		checkSaid(t, "new\nsnap 1 a=x"+b+"y b="+b+"\nshow 1\n", "ok\nok\nshow a=x"+b+"y b="+b+"\n")
		checkByRule(t, "new\nsnap 1 "+b+"=x\nshow 1\nsnap 1 a"+b+"=x\nsnap 1"+b+"a=x\nlist\n")
	}
	checkSaid(t, "files\r\nnew\t\nfiles\u00a0\n\u2003list\nlist\v\nlist\f\n\u0085list\n\ufefflist\n", strings.Repeat("what\n", 8))
	checkSaid(t, "files \x00\nshow\t1\nfiles\rfiles\n", strings.Repeat("what\n", 3))
}

func TestPromise17BlanksBetweenWordsAndAtBothEnds(t *testing.T) {
	lines := []string{"new", "snap 5 a/ a/x=one b=two", "cut 3 9 b=three", "files", "crash 0 0", "list", "show 1", "drop 1", "open", "list", "show", "fly away"}
	plain := impl.RunScript(script(lines...))
	for _, many := range []int{1, 2, 3, 7, 20} {
		blanks := strings.Repeat(" ", many)
		for _, at := range [][2]string{{"", ""}, {blanks, ""}, {"", blanks}, {blanks, blanks}} {
			var wide []string
			for _, line := range lines {
				wide = append(wide, at[0]+strings.ReplaceAll(line, " ", blanks)+at[1])
			}
			checkSaid(t, script(wide...), plain)
		}
	}
	checkSaid(t, "n ew\nne w\nfil es\nsnap1\nshow1\nshow 1 \n", "what\nwhat\nwhat\nwhat\nwhat\nno 3\n")
}

// linesOfTheTable has one of each line, right where all are said one behind the other.
func linesOfTheTable() []string {
	return []string{"new", "open", "snap 5 a=one", "cut 99 9 a=two", "drop 1", "crash 1 2", "list", "show 3", "files"}
}

func TestPromise17EachLineOfTheTable(t *testing.T) {
	checkLines(t, linesOfTheTable(), []string{"ok", "ok", "ok", "ok", "ok", "ok", "list 3@9", "show a=two", "files box-2 catalog"})
	for _, line := range linesOfTheTable() {
		if lastSaid(line) == "what" {
			t.Errorf("%q: what", line)
		}
	}
}

func TestPromise17WordsTooFewOrTooMany(t *testing.T) {
	least := map[string]int{"new": 1, "open": 1, "snap": 2, "cut": 3, "drop": 2, "crash": 3, "list": 1, "show": 2, "files": 1}
	for _, ahead := range [][]string{nil, {"new"}, {"new", "snap 1 a=x"}} {
		for word, count := range least {
			for words := 1; words <= 6; words++ {
				line := word + strings.Repeat(" 1", words-1)
				wrong := words != count
				if said := lastSaid(append(ahead, line)...); (said == "what") != wrong {
					t.Errorf("%q: %q", line, said)
				}
				checkByRule(t, script(append(ahead, line, "files", "list")...))
			}
			for _, more := range []string{"a=x", "a/", "a=x b=y c/"} {
				line := word + strings.Repeat(" 1", count-1) + " " + more
				wrong := word != "snap" && word != "cut"
				if said := lastSaid(append(ahead, line)...); (said == "what") != wrong {
					t.Errorf("%q: %q", line, said)
				}
				checkByRule(t, script(append(ahead, line, "files", "list")...))
			}
		}
	}
}

func TestPromise17WordsInAnotherCaseAndOthers(t *testing.T) {
	for _, line := range linesOfTheTable() {
		word, rest, _ := strings.Cut(line, " ")
		others := []string{strings.ToUpper(word), strings.ToTitle(word[:1]) + word[1:], word[:len(word)-1] + strings.ToUpper(word[len(word)-1:])}
		others = append(others, word[1:], word[:len(word)-1], word+word, word+"s", "x"+word, word+"=", word+"/", word+";", "-"+word, word+"\x00")
		for _, other := range others {
			text := other + " " + rest + "\n"
			checkSaid(t, text, "what\n")
			checkSaid(t, "new\n"+text+"list\n", "ok\nwhat\nlist\n")
			checkByRule(t, text)
		}
	}
	for _, word := range []string{"what", "ok", "no", "fly", "1", "a=x", "a/", "=", "/", "help", "exit", "too", "snapshot", "take", "restore", "crashed", "power", "0"} {
		for _, more := range []string{"", " 1", " 1 1", " 1 a=x"} {
			checkSaid(t, word+more+"\n", "what\n")
		}
	}
}

// numbersSaid has a line for each place of the table in which a number stands.
func numbersSaid(digits string) []string {
	return []string{"snap " + digits, "snap " + digits + " a=x", "cut " + digits + " 5", "cut 5 " + digits, "cut " + digits + " 5 a=x", "cut 5 " + digits + " a=x", "drop " + digits, "crash " + digits + " 5", "crash 5 " + digits, "show " + digits}
}

func TestPromise17NumbersOfOneToSixDigits(t *testing.T) {
	for _, digits := range []string{"0", "1", "7", "9", "10", "19", "90", "100", "1000", "10000", "99999", "100000", "123456", "999999"} {
		for _, line := range numbersSaid(digits) {
			if said := lastSaid("new", line); said == "what" {
				t.Errorf("%q: what", line)
			}
			checkSaid(t, line+"\n", "no 3\n")
			checkByRule(t, script("new", "snap 0 a=x", "snap 0", line, "list", "show 1", "files"))
		}
		checkSaid(t, "new\nsnap "+digits+"\nlist\n", "ok\nok\nlist 1@"+digits+"\n")
		checkSaid(t, "new\ncut 3 "+digits+"\nlist\n", "ok\nok\nlist 1@"+digits+"\n")
	}
}

func TestPromise17NumbersThatAreNone(t *testing.T) {
	wrong := []string{"00", "01", "007", "000000", "000001", "0000001", "-1", "-0", "+1", "+0", "-", "+", "1000000", "1000001", "9999999", "0999999", "10000000", "99999999999999999999", "9223372036854775808", "18446744073709551616", "4294967296", "a", "1a", "a1", "x", "1.", "1.0", ".1", "1e1", "0x1", "0b1", "0o1", "1_0", "1,0", "1=", "1/", "=", "/", "a=1", "\x001", "1\x00", "1\t", "\r", "1\r", "１", "٣", "²", "\xff", "1-", "--1", "1-1"}
	for _, digits := range wrong {
		for _, line := range numbersSaid(digits) {
			checkSaid(t, "new\n"+line+"\nlist\nfiles\n", "ok\nwhat\nlist\nfiles catalog\n")
			checkSaid(t, line+"\n", "what\n")
			checkByRule(t, script("new", line))
		}
	}
	// An empty one is none: the next word stands in its place.
	for _, line := range numbersSaid("") {
		checkByRule(t, script("new", line, "list"))
	}
	checkSaid(t, "snap\nsnap a=x\ncut 5\ncut 5 a=x\ndrop\ndrop \ncrash 5\ncrash  5\nshow\nshow \n", strings.Repeat("what\n", 10))
}

func TestPromise17WordsOfNodes(t *testing.T) {
	for _, w := range []struct {
		word string
		want string
	}{
		{"a=", "show a="},
		{"a=x", "show a=x"},
		{"a==", "show a=="},
		{"a==x", "show a==x"},
		{"a=x=y", "show a=x=y"},
		{"a=x=", "show a=x="},
		{"a=/", "show a=/"},
		{"a=x/", "show a=x/"},
		{"a=/x", "show a=/x"},
		{"a=x/y", "show a=x/y"},
		{"a=b/c=d/", "show a=b/c=d/"},
		{"a=/=", "show a=/="},
		{"a=\t\r\x00\xff", "show a=\t\r\x00\xff"},
		{"a/", "show a/"},
		{"a.b-c_9/", "show a.b-c_9/"},
		{"=", "no 6"},
		{"=x", "no 6"},
		{"=a/", "no 6"},
		{"==", "no 6"},
		{"=/", "no 6"},
		{"/", "no 6"},
		{"//", "no 6"},
		{"a//", "no 6"},
		{"/a/", "no 6"},
		{"/=", "no 6"},
		{"/=x", "no 6"},
		{"a/=", "no 6"},
		{"a/=x", "no 6"},
		{"/a=x", "no 6"},
		{"a//b=x", "no 6"},
		{"A=x", "no 6"},
		{"A/", "no 6"},
		{".=x", "no 6"},
		{"../", "no 6"},
		{"a/../b=x", "no 6"},
		{"\xff=x", "no 6"},
		{"a\t=x", "no 6"},
		{strings.Repeat("n", 20) + "=x", "show " + strings.Repeat("n", 20) + "=x"},
		{strings.Repeat("n", 21) + "=x", "no 6"},
		{strings.Repeat("n", 20) + "/", "show " + strings.Repeat("n", 20) + "/"},
		{strings.Repeat("n", 21) + "/", "no 6"},
		{"a/b=x", "no 6"},
		{"a/b/", "no 6"},
		{"a", "what"},
		{"a/b", "what"},
		{"/a", "what"},
		{"a//b", "what"},
		{"a:x", "what"},
		{"a\\", "what"},
		{"A", "what"},
		{"5", "what"},
		{"\x00", "what"},
		{"a/\r", "what"},
		{"a/\x00", "what"},
	} {
		for _, act := range []string{"snap 7 ", "cut 100 7 "} {
			said := "ok"
			if !strings.HasPrefix(w.want, "show") {
				said = w.want
			}
			checkSaid(t, "new\n"+act+w.word+"\n", "ok\n"+said+"\n")
			if said == "ok" {
				checkSaid(t, "new\n"+act+w.word+"\nshow 1\n", "ok\nok\n"+w.want+"\n")
			} else {
				checkSaid(t, "new\n"+act+w.word+"\nlist\nshow 1\nfiles\n", "ok\n"+said+"\nlist\nno 9\nfiles catalog\n")
				checkSaid(t, "new\n"+act+"0a=x "+w.word+" zz/\n", "ok\n"+said+"\n")
			}
			// Ahead of new a word is asked as it is behind it, a tree is not.
			if said != "what" {
				said = "no 3"
			}
			checkSaid(t, act+w.word+"\n", said+"\n")
			checkByRule(t, script("new", act+w.word, "list", "show 1", "files"))
		}
	}
}

func TestPromise17TreesOfWordsInAnyOrder(t *testing.T) {
	want := "ok\nok\nshow a=1 b/ b-c=2 b/x=3 b/y/ b0=4\n"
	words := []string{"a=1", "b/", "b-c=2", "b/x=3", "b/y/", "b0=4"}
	var list []impl.Member
	for _, word := range words {
		list = append(list, member(word, ""))
	}
	orders := 0
	eachOrder(list, func(order []impl.Member) {
		line := ""
		for _, m := range order {
			line += " " + m.Name
		}
		checkSaid(t, "new\nsnap 1"+line+"\nshow 1\n", want)
		orders++
	})
	if orders != 720 {
		t.Errorf("%d orders", orders)
	}
	long := 0
	for seed := range uint64(30) {
		words := nodesSaid(rightOfWords(seed))
		long = max(long, len(words))
		mixed := slices.Clone(words)
		// By their sums they stand in no order.
		slices.SortFunc(mixed, func(a string, b string) int { return strings.Compare(impl.Sum(a), impl.Sum(b)) })
		line := strings.Join(append([]string{"snap 1"}, mixed...), " ")
		checkSaid(t, script("new", line, "show 1"), script("ok", "ok", strings.Join(append([]string{"show"}, words...), " ")))
	}
	if long < 10 {
		t.Errorf("at most %d words", long)
	}
}

// rightOfWords is a right tree that words can say.
func rightOfWords(seed uint64) []impl.Node {
	var tree []impl.Node
	for i, n := range someTree(seed) {
		n.Mode = 420
		if n.Dir {
			n.Mode = 493
		} else {
			n.Data = lettersOf(seed+uint64(i), i%9, "ab=/c\x00\xff\t")
		}
		tree = append(tree, n)
	}
	return tree
}

func TestPromise17TreesOfAsManyNodesAsMayBe(t *testing.T) {
	word := func(i int) string {
		if i%3 == 0 {
			return fmt.Sprintf("d%02d/", i)
		}
		return fmt.Sprintf("d%02d/f%02d=%d", i/3*3, i, i)
	}
	for _, count := range []int{0, 1, 2, 39, 40, 41, 42, 100} {
		var words []string
		for i := range count {
			words = append(words, word(i))
		}
		said := []string{"ok", "ok", strings.Join(append([]string{"show"}, words...), " "), "list 1@1"}
		if count > 40 {
			said = []string{"ok", "no 6", "no 9", "list"}
		}
		// Once with each directory ahead of what lies in it, once behind.
		for range 2 {
			line := strings.Join(append([]string{"snap 1"}, words...), " ")
			checkLines(t, []string{"new", line, "show 1", "list"}, said)
			slices.Reverse(words)
		}
	}
	checkSaid(t, "new\nsnap 1"+strings.Repeat(" a=", 1000)+"\nlist\n", "ok\nno 6\nlist\n")
	checkSaid(t, "new\nsnap 1"+strings.Repeat(" a=", 1000)+" a\nlist\n", "ok\nwhat\nlist\n")
}

func TestPromise17NodesOfOnePath(t *testing.T) {
	for _, words := range []string{
		"a= a=", "a=x a=y", "a=x a=x", "a/ a/", "a=x a/", "a/ a=x", "a= a/", "a=x a=y a=z", "a/ a/ a/", "a/ a=x a/", "a=x a/ a=y", "a/ a=x a=y", "a=x a=y a/",
		"b/ a=x b/", "b=x a=x b/ c=x", "a/ a/x=1 a/x=2", "a/ a/x=1 a/", "a/x=1 a/ a=2", "a=2 a/x=1 a/", "a/x=1 a=2 a/", "a/x=1 a/x/ a/",
	} {
		for _, act := range []string{"snap 5 ", "cut 99 5 "} {
			checkLines(t, []string{"new", "snap 1 old=x", act + words, "list", "show 1", "files"}, []string{"ok", "ok", "no 6", "list 1@1", "show old=x", "files box-1 catalog"})
			checkSaid(t, act+words+"\n", "no 3\n")
			checkSaid(t, "new\nsnap 6\n"+act+words+"\n", "ok\nok\nno 6\n")
		}
	}
}
