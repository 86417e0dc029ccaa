package tests

import (
	"encoding/binary"
	"fmt"
	"hash/crc32"
	"slices"
	"strings"
	"testing"

	"loop.example/g00228/impl"
)

func members(list ...impl.Member) []impl.Member {
	return list
}

func member(name string, data string) impl.Member {
	return impl.Member{Name: name, Data: data}
}

func rightMembersByRule(list []impl.Member) bool {
	size := 0
	for i, m := range list {
		for _, other := range list[:i] {
			if other.Name == m.Name {
				return false
			}
		}
		if len(m.Name) < 1 || len(m.Name) > 120 {
			return false
		}
		size += len(m.Data)
	}
	return len(list) <= 60 && size <= 4000
}

// summed is a text with the sum of the Data behind it, so that no sum hides what else is wrong.
func summed(body string, data string) string {
	return body + sumOf(data)
}

func sumOf(data string) string {
	return string(binary.BigEndian.AppendUint32(nil, crc32.ChecksumIEEE([]byte(data))))
}

func allData(list []impl.Member) string {
	var b strings.Builder
	for _, m := range list {
		b.WriteString(m.Data)
	}
	return b.String()
}

// blockAhead is what stands ahead of the pack.
func blockAhead(list []impl.Member) string {
	b := binary.AppendUvarint(nil, uint64(len(list)))
	for _, m := range list {
		b = append(b, lengthy(m.Name)...)
		b = binary.AppendUvarint(b, uint64(len(m.Data)))
	}
	return string(b)
}

func lengthy(s string) string {
	return string(binary.AppendUvarint(nil, uint64(len(s)))) + s
}

// saidBlock is the block of these members, whether they are right or not.
func saidBlock(list ...impl.Member) string {
	return summed(blockAhead(list)+lengthy(packByRule(allData(list))), allData(list))
}

// shownMembers tells the first few only, for lists, Names and Data may be long.
func shownMembers(list []impl.Member) string {
	var b strings.Builder
	fmt.Fprintf(&b, "%d members (", len(list))
	for _, m := range list[:min(6, len(list))] {
		fmt.Fprintf(&b, "{%.30q %.20q}", m.Name, m.Data)
	}
	return b.String() + ")"
}

// manyMembers has just so many, of which no one is named as another one.
func manyMembers(count int) []impl.Member {
	var list []impl.Member
	for i := range count {
		list = append(list, member(fmt.Sprintf("n%d.%c", i, 'a'+i%3), strings.Repeat("d", i%5)))
	}
	return list
}

func rightMembers() [][]impl.Member {
	list := [][]impl.Member{
		nil,
		members(member("a", "")),
		members(member("a", "data")),
		members(member("\x00", "\x00")),
		members(member("\xff/\n ", "\xff")),
		members(member("a", "same"), member("b", "same"), member("A", "same"), member("a ", "same")),
		members(member("b", ""), member("a", ""), member("ab", ""), member("ba", "")),
		members(member("z", "one"), member("a", ""), member("m/n.o", "two"), member("?", "three")),
		members(member(strings.Repeat("n", 120), "x"), member(strings.Repeat("n", 119), "y")),
		members(member(strings.Repeat("/", 120), "hello hello hello")),
		members(member("a", strings.Repeat("x", 4000))),
		members(member("a", someBytes(1, 4000))),
		members(member("a", strings.Repeat("x", 2000)), member("b", strings.Repeat("y", 2000))),
		members(member("a", strings.Repeat("x", 2000)), member("b", strings.Repeat("y", 2000)), member("c", "")),
		members(member("a", ""), member("b", strings.Repeat("y", 1)), member("c", strings.Repeat("z", 3999))),
		manyMembers(2), manyMembers(59), manyMembers(60),
	}
	for seed := range uint64(10) {
		list = append(list, members(member("a.b", lettersOf(seed, 100, "abc")), member("c/d.b", someBytes(seed, 30)), member("..", lettersOf(seed, 50, "abc"))))
	}
	return list
}

func wrongMembers() [][]impl.Member {
	x := func(long int) string { return strings.Repeat("x", long) }
	return [][]impl.Member{
		members(impl.Member{}),
		members(member("", "x")),
		members(member("a", "x"), member("", "")),
		members(member("", ""), member("a", "x")),
		members(member(x(121), "")),
		members(member("a", ""), member(x(121), "x")),
		members(member(x(121), ""), member("a", "x")),
		members(member(x(5000), "x")),
		members(member("a", ""), member("a", "")),
		members(member("a", "1"), member("a", "2")),
		members(member("a", "1"), member("b", "2"), member("a", "1")),
		members(member("b", ""), member("a", ""), member("c", ""), member("a", "")),
		members(member("?", "x"), member("?", "x")),
		members(member(x(120), ""), member(x(120), "")),
		members(member("a", x(4001))),
		members(member("a", x(4000)), member("b", "x")),
		members(member("a", "x"), member("b", x(4000))),
		members(member("a", x(2000)), member("b", x(2000)), member("c", "x")),
		members(member("a", x(100001))),
		slices.Concat(manyMembers(59), members(member("z", x(4000)))),
		manyMembers(61), manyMembers(600),
		append(manyMembers(60), member("z", "")),
		append(manyMembers(59), member("n0.a", "")),
	}
}

func checkMembers(t *testing.T, list []impl.Member, want bool) {
	t.Helper()
	if ok := impl.MembersOk(list); ok != want {
		t.Errorf("MembersOk of %s: %v, not %v", shownMembers(list), ok, want)
	}
}

func checkGrouped(t *testing.T, list []impl.Member, want []impl.Member) {
	t.Helper()
	if grouped := impl.Grouped(list); !slices.Equal(grouped, want) {
		t.Errorf("Grouped of %s: %s, not %s", shownMembers(list), shownMembers(grouped), shownMembers(want))
	}
}

func checkBlock(t *testing.T, list []impl.Member) {
	t.Helper()
	want := saidBlock(list...)
	if s, ok := impl.SolidOf(list); !ok || s != want {
		t.Errorf("SolidOf %s: %.60q, %v, not %.60q", shownMembers(list), s, ok, want)
	}
	checkBlockRead(t, want, list)
}

func checkBlockRead(t *testing.T, s string, want []impl.Member) {
	t.Helper()
	if list, ok := impl.ReadSolid(s); !ok || !slices.Equal(list, want) {
		t.Errorf("ReadSolid of %d bytes (%.60q): %s, %v, not %s", len(s), s, shownMembers(list), ok, shownMembers(want))
	}
}

func checkExtracted(t *testing.T, s string, m impl.Member) {
	t.Helper()
	if data, ok := impl.Extract(s, m.Name); !ok || data != m.Data {
		t.Errorf("Extract %.40q of %d bytes: %.40q, %v, not %.40q", m.Name, len(s), data, ok, m.Data)
	}
}

func checkNotExtracted(t *testing.T, what string, s string, name string) {
	t.Helper()
	if data, ok := impl.Extract(s, name); ok || data != "" {
		t.Errorf("%s: Extract %.40q of %d bytes (%.40q) tells %.40q, %v", what, name, len(s), s, data, ok)
	}
}

func checkNoBlock(t *testing.T, what string, s string) {
	t.Helper()
	if list, ok := impl.ReadSolid(s); ok || len(list) != 0 {
		t.Errorf("%s: ReadSolid of %d bytes (%.60q) tells %s, %v", what, len(s), s, shownMembers(list), ok)
	}
	checkNotExtracted(t, what, s, "a")
}

// checkOnlyBlocks lets s be the block of some members, but no other text.
func checkOnlyBlocks(t *testing.T, what string, s string) {
	t.Helper()
	list, ok := impl.ReadSolid(s)
	if !ok && len(list) != 0 || ok && (!rightMembersByRule(list) || saidBlock(list...) != s) {
		t.Errorf("%s: ReadSolid of %.80q tells %s, %v, that have another block", what, s, shownMembers(list), ok)
	}
}

// renamed tells what the members are named when the byte at a place of their block is another one; false where no Name has that place. Counts and sizes of Names are one byte here, for right ones are below 128.
func renamed(list []impl.Member, at int, b byte) ([]impl.Member, bool) {
	place := 1
	for i, m := range list {
		place++
		if at >= place && at < place+len(m.Name) {
			name := []byte(m.Name)
			name[at-place] = b
			other := slices.Clone(list)
			other[i].Name = string(name)
			return other, true
		}
		place += len(m.Name) + len(binary.AppendUvarint(nil, uint64(len(m.Data))))
	}
	return nil, false
}

// checkChangedByte: a sum of the Data doesn't hold a Name, so there another byte makes another block, and anywhere else none.
func checkChangedByte(t *testing.T, list []impl.Member, s string, at int, b byte) {
	t.Helper()
	changed := s[:at] + string([]byte{b}) + s[at+1:]
	other, named := renamed(list, at, b)
	if changed == s {
		return
	}
	if named && rightMembersByRule(other) {
		checkBlockRead(t, changed, other)
	} else {
		checkNoBlock(t, "a byte that is changed", changed)
	}
}

// eachOrder goes through the list in all its orders.
func eachOrder(list []impl.Member, yield func([]impl.Member)) {
	var place func(done int)
	order := slices.Clone(list)
	place = func(done int) {
		if done == len(order) {
			yield(slices.Clone(order))
			return
		}
		for i := done; i < len(order); i++ {
			order[done], order[i] = order[i], order[done]
			place(done + 1)
			order[done], order[i] = order[i], order[done]
		}
	}
	place(0)
}

func TestPromise11MembersThatAreRight(t *testing.T) {
	for _, list := range rightMembers() {
		checkMembers(t, list, true)
		eachOrder(list[:min(4, len(list))], func(order []impl.Member) { checkMembers(t, order, true) })
	}
}

func TestPromise11MembersThatAreNotRight(t *testing.T) {
	for _, list := range wrongMembers() {
		checkMembers(t, list, false)
		checkGrouped(t, list, nil)
		if s, ok := impl.SolidOf(list); ok || s != "" {
			t.Errorf("SolidOf %s: %.60q, %v", shownMembers(list), s, ok)
		}
		if len(list) <= 4 {
			eachOrder(list, func(order []impl.Member) { checkMembers(t, order, false) })
		}
	}
}

func TestPromise11MembersAsTheDocumentSays(t *testing.T) {
	for _, long := range []int{0, 1, 2, 119, 120, 121, 122, 240} {
		list := members(member(strings.Repeat("n", long), "x"))
		checkMembers(t, list, rightMembersByRule(list))
	}
	names := []string{"", "a", "b", "a/b", "A"}
	for _, x := range names {
		for _, y := range names {
			for _, z := range names {
				list := members(member(x, "1"), member(y, ""), member(z, "3"))
				checkMembers(t, list, rightMembersByRule(list))
			}
		}
	}
	for _, left := range []int{0, 1, 2000, 3999, 4000, 4001} {
		for _, right := range []int{0, 1, 2000, 2001, 3999, 4000, 4001} {
			list := members(member("a", strings.Repeat("x", left)), member("b", strings.Repeat("x", right)))
			checkMembers(t, list, left+right <= 4000)
		}
	}
	for count := 55; count < 66; count++ {
		checkMembers(t, manyMembers(count), count <= 60)
	}
}

func TestPromise11GroupedByExtensionsAndNames(t *testing.T) {
	want := members(
		member(".c", "a dot is its first byte"), member("A.a", "no path"), member("a", ""), member("a.", "a dot is its end"), member("a.a/z", "a directory's dot"),
		member("a//b.a", "no path"), member("z", ""), member("\xff.a", "no path"),
		member("b.a", ""), member("b/a.a", ""), member("c.b.a", ""),
		member("a.b", ""), member("a.b.b", ""), member("x/y.b", ""), member("a.b0", ""), member("..c", "the first dot is not its last"), member("a.c", ""), member("a.ca", ""),
	)
	checkGrouped(t, want, want)
	backwards := slices.Clone(want)
	slices.Reverse(backwards)
	checkGrouped(t, backwards, want)
	for turn := range want {
		checkGrouped(t, slices.Concat(want[turn:], want[:turn]), want)
		checkGrouped(t, slices.Concat(backwards[turn:], backwards[:turn]), want)
	}
	checkGrouped(t, nil, nil)
	long := strings.Repeat("n", 20) + ".a"
	checkGrouped(t, members(member("z", "1"), member("c.a", "2"), member(long, "3")), members(member(long, "3"), member("z", "1"), member("c.a", "2")))
}

func TestPromise11GroupedInWhateverOrderTheyWere(t *testing.T) {
	for _, some := range [][]impl.Member{
		members(member("b.x", "1"), member("a.y", "2"), member("c", "3"), member("a.x", "4"), member("B.x", "5"), member("d/a.x", "")),
		members(member("..", "1"), member("a/", "2"), member("a.", "3"), member("/a.b", ""), member("x.b", "4")),
		members(member("m", "same"), member("n", "same"), member("m.a", "same"), member("n.a", "same")),
	} {
		want := impl.Grouped(some)
		eachOrder(some, func(order []impl.Member) { checkGrouped(t, order, want) })
	}
}

func TestPromise11GroupedTheyAreAllThere(t *testing.T) {
	byName := func(list []impl.Member) []impl.Member {
		sorted := slices.Clone(list)
		slices.SortFunc(sorted, func(x impl.Member, y impl.Member) int { return strings.Compare(x.Name, y.Name) })
		return sorted
	}
	for _, list := range rightMembers() {
		grouped := impl.Grouped(list)
		if !slices.Equal(byName(grouped), byName(list)) {
			t.Errorf("Grouped of %s: %s, of which some are others", shownMembers(list), shownMembers(grouped))
		}
		want := byName(list)
		slices.SortStableFunc(want, func(x impl.Member, y impl.Member) int {
			return strings.Compare(extensionByRule(x.Name), extensionByRule(y.Name))
		})
		checkGrouped(t, list, want)
	}
}

func TestPromise11BlocksOfFewMembers(t *testing.T) {
	for _, c := range []struct {
		list []impl.Member
		body string
	}{
		{nil, "\x00" + "\x06\x00" + "\x00\x00\x00\x00\x00"},
		{members(member("a", "")), "\x01\x01a\x00" + "\x06\x00" + "\x00\x00\x00\x00\x00"},
		{members(member("b", ""), member("a.", "")), "\x02\x01b\x00\x02a.\x00" + "\x06\x00" + "\x00\x00\x00\x00\x00"},
		{members(member("?", "aaaa")), "\x01\x01?\x04" + lengthy(packByRule("aaaa"))},
		{members(member("z", "ab"), member("y", "cd"), member("x", "")), "\x03\x01z\x02\x01y\x02\x01x\x00" + lengthy(packByRule("abcd"))},
		{members(member("z", strings.Repeat("ab", 100))), "\x01\x01z\xc8\x01" + lengthy(packByRule(strings.Repeat("ab", 100)))},
	} {
		want := summed(c.body, allData(c.list))
		if s, ok := impl.SolidOf(c.list); !ok || s != want {
			t.Errorf("SolidOf %s: %q, %v, not %q", shownMembers(c.list), s, ok, want)
		}
		checkBlockRead(t, want, c.list)
	}
}

func TestPromise11RightMembersComeBackAllAndEachByItsName(t *testing.T) {
	for _, list := range rightMembers() {
		checkBlock(t, list)
		s, _ := impl.SolidOf(list)
		for _, m := range list {
			checkExtracted(t, s, m)
		}
		for _, name := range []string{"", "q", "n60.a", "a.", "N0.A", "a\x00", strings.Repeat("n", 118), strings.Repeat("n", 121), strings.Repeat("n", 200000)} {
			checkNotExtracted(t, "a name that is not there", s, name)
		}
	}
}

func TestPromise11NamesOfTheDataAreNoNames(t *testing.T) {
	s := saidBlock(member("abc", "def"), member("de", "abc"), member("x", ""))
	checkExtracted(t, s, member("abc", "def"))
	checkExtracted(t, s, member("de", "abc"))
	checkExtracted(t, s, member("x", ""))
	for _, name := range []string{"def", "ab", "bc", "abcd", "d", "e", "", "X", "abc\x03de"} {
		checkNotExtracted(t, "a name that is not there", s, name)
	}
	checkNotExtracted(t, "no members", saidBlock(), "")
}

func TestPromise11WrongMembersAreNotRead(t *testing.T) {
	for _, list := range wrongMembers() {
		checkNoBlock(t, "wrong members", saidBlock(list...))
	}
}

func TestPromise11TheSumIsThatOfAllData(t *testing.T) {
	for _, c := range []struct {
		list []impl.Member
		sum  string
	}{
		{nil, "\x00\x00\x00\x00"},
		{members(member("a", "")), "\x00\x00\x00\x00"},
		{members(member("a", "b")), "\x71\xbe\xef\xf9"},
		{members(member("another name", "b")), "\x71\xbe\xef\xf9"},
		{members(member("a", ""), member("c", "b"), member("d", "")), "\x71\xbe\xef\xf9"},
		{members(member("a", "123456789")), "\xcb\xf4\x39\x26"},
		{members(member("b", "1234"), member("a", "56789")), "\xcb\xf4\x39\x26"},
		{members(member("a", "12"), member("?", ""), member("A", "345678"), member("b.c", "9")), "\xcb\xf4\x39\x26"},
		{manyMembers(60), sumOf(strings.Repeat("d", 120))},
		{members(member("a", strings.Repeat("x", 4000))), sumOf(strings.Repeat("x", 4000))},
	} {
		s, ok := impl.SolidOf(c.list)
		if !ok || len(s) < 4 || s[len(s)-4:] != c.sum {
			t.Errorf("SolidOf %s: %.60q, %v, whose sum is not %q", shownMembers(c.list), s, ok, c.sum)
		}
		checkBlockRead(t, blockAhead(c.list)+lengthy(packByRule(allData(c.list)))+c.sum, c.list)
	}
}

func fewMembers() [][]impl.Member {
	return [][]impl.Member{nil, members(member("a", "")), members(member("a", "hello hello hello"), member("b.c", "hello"), member("?", ""))}
}

func TestPromise11BytesOfBlocksThatAreChanged(t *testing.T) {
	for _, list := range fewMembers() {
		s := saidBlock(list...)
		for at := range s {
			checkNoBlock(t, "a byte that is left out", s[:at]+s[at+1:])
			for b := range 256 {
				checkChangedByte(t, list, s, at, byte(b))
			}
		}
		for cut := range len(s) {
			checkNoBlock(t, "cut short", s[:cut])
			// What is left of a block without Data may be that of no members.
			checkOnlyBlocks(t, "cut at its beginning", s[cut+1:])
		}
		for _, more := range []string{"\x00", "x", "\xff", "\x00\x00\x00\x00", s} {
			checkNoBlock(t, "bytes behind the end", s+more)
			checkNoBlock(t, "bytes ahead", more+s)
		}
	}
	list := manyMembers(60)
	s := saidBlock(list...)
	for at := range s {
		for bit := range 8 {
			checkChangedByte(t, list, s, at, s[at]^1<<bit)
		}
	}
}

func TestPromise11BlocksWhoseSumFitsAreReadWhole(t *testing.T) {
	for _, list := range fewMembers() {
		data := allData(list)
		body := blockAhead(list) + lengthy(packByRule(data))
		checkBlockRead(t, summed(body, data), list)
		for cut := range len(body) {
			checkNoBlock(t, "bytes that are not there", summed(body[:cut], data))
		}
		for _, more := range []string{"\x00", "x", "\xff", "\x00\x00\x00\x00\x00\x00", sumOf(data), body} {
			checkNoBlock(t, "bytes behind the pack", summed(body+more, data))
		}
	}
}

func TestPromise11BlocksOfOtherPacksWhoseSumFits(t *testing.T) {
	for _, list := range fewMembers() {
		want := allData(list)
		ahead, pack := blockAhead(list), packByRule(want)
		for at := range pack {
			for b := range 256 {
				other := pack[:at] + string([]byte{byte(b)}) + pack[at+1:]
				data, packed := impl.Unpack(other)
				s := summed(ahead+lengthy(other), data)
				checkOnlyBlocks(t, "a byte of the pack that is changed", s)
				if !packed || len(data) != len(want) {
					checkNoBlock(t, "a pack of no such Data", s)
				}
			}
		}
	}
	// Data of the same size, under the same Names.
	for _, data := range []string{"aaaa", "aaab", "\x00\x00\x00\x00", "\xff\xfe\xfd\xfc"} {
		checkBlockRead(t, summed("\x02\x01x\x03\x01y\x01"+lengthy(packByRule(data)), data), members(member("x", data[:3]), member("y", data[3:])))
	}
}

func TestPromise11SumsThatDoNotFit(t *testing.T) {
	checkNoBlock(t, "no bytes", "")
	checkNoBlock(t, "four bytes", "\x00\x00\x00\x00")
	checkNoBlock(t, "no members and no pack", "\x00\x00\x00\x00\x00")
	list := members(member("a", "hello"), member("b", "HELLO"))
	pack := lengthy(packByRule("helloHELLO"))
	body := blockAhead(list) + pack
	sum := crc32.ChecksumIEEE([]byte("helloHELLO"))
	for _, other := range []string{
		string(binary.LittleEndian.AppendUint32(nil, sum)), string(binary.BigEndian.AppendUint32(nil, ^sum)), string(binary.BigEndian.AppendUint32(nil, sum+1)), "\x00\x00\x00\x00", "\xff\xff\xff\xff",
		sumOf(body), sumOf(blockAhead(list)), sumOf(pack), sumOf(pack[1:]), sumOf("ab"), sumOf("ahellobHELLO"), sumOf("hello"), sumOf("HELLO"), sumOf("HELLOhello"), sumOf(lengthy("helloHELLO")), sumOf(lengthy("hello") + lengthy("HELLO")),
		string(binary.BigEndian.AppendUint64(nil, uint64(sum))), "", sumOf("helloHELLO")[:3], sumOf("helloHELLO")[1:], sumOf("helloHELLO") + "\x00", "\x00" + sumOf("helloHELLO"), sumOf("helloHELLO") + sumOf("helloHELLO"),
	} {
		checkNoBlock(t, "another sum", body+other)
	}
	checkBlockRead(t, body+sumOf("helloHELLO"), list)
	turnings(sumOf("helloHELLO"), func(other string) { checkNoBlock(t, "a sum with one bit turned over", body+other) })
}

func TestPromise11SizesThatTheDataDoNotHave(t *testing.T) {
	block := func(sizes []uint64, data string) string {
		b := binary.AppendUvarint(nil, uint64(len(sizes)))
		for i, size := range sizes {
			b = append(b, 1, 'a'+byte(i))
			b = binary.AppendUvarint(b, size)
		}
		return summed(string(b)+lengthy(packByRule(data)), data)
	}
	checkBlockRead(t, block([]uint64{2, 0, 3}, "hello"), members(member("a", "he"), member("b", ""), member("c", "llo")))
	for _, sizes := range [][]uint64{
		nil, {0}, {4}, {6}, {5, 1}, {1, 5}, {6, 0}, {0, 6}, {2, 2}, {3, 3}, {2, 0, 2}, {1 << 32}, {1<<32 + 5}, {1 << 63}, {1<<64 - 1}, {1<<64 - 1, 6}, {6, 1<<64 - 1}, {1 << 63, 1 << 63, 5},
		{5, 1000000000000}, {5, 1000000000001}, {1000000000000, 5}, {4001}, {4000},
	} {
		checkNoBlock(t, "sizes of other Data", block(sizes, "hello"))
	}
	checkNoBlock(t, "a size of no Data", block([]uint64{1}, ""))
	checkNoBlock(t, "Data of no member", block(nil, "x"))
}

func TestPromise11PacksThatAreNone(t *testing.T) {
	block := func(size uint64, pack string, data string) string {
		return summed("\x01\x01a"+string(binary.AppendUvarint(nil, size))+pack, data)
	}
	pack := packByRule("aaaa")
	checkBlockRead(t, block(4, lengthy(pack), "aaaa"), members(member("a", "aaaa")))
	checkNoBlock(t, "a byte behind the pack's end", block(4, lengthy(pack+"\x00"), "aaaa"))
	checkNoBlock(t, "a pack cut short", block(4, lengthy(pack[:len(pack)-1]), "aaaa"))
	checkNoBlock(t, "no pack", block(4, lengthy(""), "aaaa"))
	checkNoBlock(t, "no pack of no Data", block(0, lengthy(""), ""))
	checkNoBlock(t, "Data that are not packed", block(4, lengthy("aaaa"), "aaaa"))
	checkNoBlock(t, "other tokens of the same Data", block(4, lengthy(saidWith(4, byteToken('a'), byteToken('a'), byteToken('a'), byteToken('a'))), "aaaa"))
	checkNoBlock(t, "a pack without its size", block(4, pack, "aaaa"))
	checkNoBlock(t, "a size of the pack that is one more", block(4, string([]byte{byte(len(pack) + 1)})+pack, "aaaa"))
	checkNoBlock(t, "a size of the pack that is one less", block(4, string([]byte{byte(len(pack) - 1)})+pack, "aaaa"))
	checkNoBlock(t, "a size of the pack in another form", block(4, string([]byte{byte(len(pack)) | 0x80, 0})+pack, "aaaa"))
	checkNoBlock(t, "a pack of more than MaxText bytes", block(4, lengthy(strings.Repeat("\x00", 100001)), "aaaa"))
	checkNoBlock(t, "more Data than may be", block(4001, lengthy(packByRule(strings.Repeat("x", 4001))), strings.Repeat("x", 4001)))
}

func TestPromise11NumbersOfBlocksInAnotherForm(t *testing.T) {
	pack := lengthy(packByRule("x"))
	none := lengthy(packByRule(""))
	checkBlockRead(t, summed("\x01\x01a\x01"+pack, "x"), members(member("a", "x")))
	for _, one := range []string{"\x81", "\x81\x00", "\x81\x80\x00", "\x81\x80\x80\x80\x80\x80\x80\x80\x80\x00", "\x81\x80\x80\x80\x80\x80\x80\x80\x80\x02", strings.Repeat("\x81", 10) + "\x01"} {
		checkNoBlock(t, "a count", summed(one+"\x01a\x01"+pack, "x"))
		checkNoBlock(t, "a size of a Name", summed("\x01"+one+"a\x01"+pack, "x"))
		checkNoBlock(t, "a size of Data", summed("\x01\x01a"+one+pack, "x"))
	}
	for _, nought := range []string{"\x80", "\x80\x00", "\x80\x80\x00", "\x80\x80\x80\x80\x80\x80\x80\x80\x80\x00", "\x80\x80\x80\x80\x80\x80\x80\x80\x80\x02"} {
		checkNoBlock(t, "a count of no members", summed(nought+none, ""))
		checkNoBlock(t, "a size of no Data", summed("\x01\x01a"+nought+none, ""))
	}
}

func TestPromise11NumbersOfBlocksThatAreTooGreat(t *testing.T) {
	pack := lengthy(packByRule("x"))
	for _, n := range edgeNumbers() {
		if n <= 4000 {
			continue
		}
		number := impl.PutNum(n)
		checkNoBlock(t, "a count", summed(number, ""))
		checkNoBlock(t, "a count", summed(number+"\x01a\x01"+pack, "x"))
		checkNoBlock(t, "a size of a Name", summed("\x01"+number+"a\x01"+pack, "x"))
		checkNoBlock(t, "a size of a Name", summed("\x01"+number+strings.Repeat("a", 5000), "x"))
		checkNoBlock(t, "a size of Data", summed("\x01\x01a"+number+pack, "x"))
		checkNoBlock(t, "a size of the pack", summed("\x01\x01a\x01"+number+pack[1:], "x"))
	}
	checkNoBlock(t, "a count above the members", summed("\x02\x01a\x01"+pack, "x"))
	checkNoBlock(t, "a count below the members", summed("\x01\x01a\x01\x01b\x00"+pack, "x"))
	checkNoBlock(t, "61 members", saidBlock(manyMembers(61)...))
}

func TestPromise18SolidsAreNewMemory(t *testing.T) {
	list := members(member(strings.Clone("name.ext"), strings.Clone("some data")), member(strings.Clone("other"), strings.Clone("more data")))
	s, _ := impl.SolidOf(list)
	read, _ := impl.ReadSolid(s)
	one, _ := impl.Extract(s, "name.ext")
	answers := []string{s, one}
	for _, m := range append(impl.Grouped(list), read...) {
		answers = append(answers, m.Name, m.Data)
	}
	if len(answers) != 2+4+4 || one != "some data" {
		t.Fatalf("answers: %q", answers)
	}
	for i, answer := range answers {
		for _, m := range list {
			if sharesMemory(answer, m.Name) || sharesMemory(answer, m.Data) {
				t.Errorf("answer %d, %q, lies in an argument", i, answer)
			}
		}
		for k, other := range answers {
			if i != k && sharesMemory(answer, other) {
				t.Errorf("answers %d and %d, %q and %q, share memory", i, k, answer, other)
			}
		}
	}
}

func TestPromise18SolidsWriteIntoNoArgument(t *testing.T) {
	list := append(make([]impl.Member, 0, 90), member("b.y", "1"), member("a.y", "2"), member("c", "3"), member("spare", ""), member("room", ""))
	same := slices.Clone(list)
	grouped := impl.Grouped(list[:3])
	s, _ := impl.SolidOf(list[:3])
	read, _ := impl.ReadSolid(s)
	first, firstRead := slices.Clone(grouped), slices.Clone(read)
	clear(grouped[:cap(grouped)])
	clear(read[:cap(read)])
	if !slices.Equal(list, same) {
		t.Error("something was written into an argument, or behind it")
	}
	again, _ := impl.SolidOf(list[:3])
	back, _ := impl.ReadSolid(again)
	if s != again || !slices.Equal(impl.Grouped(list[:3]), first) || !slices.Equal(back, firstRead) {
		t.Error("the same arguments give other answers")
	}
}
