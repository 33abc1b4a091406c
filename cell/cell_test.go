package cell_test

import (
	stdbytes "bytes"
	"math"
	"math/rand"
	"slices"
	"strings"
	"testing"

	"blockhouse/api"
	"blockhouse/cell"
	"blockhouse/drive"
	"blockhouse/nor"
)

const (
	ones = math.MaxUint32
	most = 244     // bytes of a cell
	last = 1 << 31 // the last turn
)

func want(t *testing.T, what string, got, want api.Errno) {
	t.Helper()
	if got != want {
		t.Errorf("%s: error %d, not %d", what, got, want)
	}
}

// repeat is the same word so many times.
func repeat(w uint32, many int) []uint32 {
	return slices.Repeat([]uint32{w}, many)
}

// blank is an erased sector.
func blank() []uint32 {
	return repeat(ones, 64)
}

// strange is a sector that is not whole, and in part is not blank.
func strange() []uint32 {
	l := repeat(0xF0F0F0F0, 64)
	l[0], l[1], l[9], l[63] = 77, 5, 0, 1
	return l
}

// torn is a sector of these bytes whose last word is not written.
func torn(turn uint32, s string) []uint32 {
	l := blank()
	l[0], l[1] = turn, uint32(len(s))
	for i := range len(s) {
		l[2+i/4] -= (255 - uint32(s[i])) << (24 - 8*(i%4))
	}
	return l
}

// whole is one whose last word is.
func whole(turn uint32, s string) []uint32 {
	return with(torn(turn, s), 63, 0)
}

// with is a sector with another word at a place.
func with(l []uint32, at int, w uint32) []uint32 {
	told := slices.Clone(l)
	told[at] = w
	return told
}

// text is so many bytes, mostly unlike their neighbours, none of them 255.
func text(seed, many int) string {
	b := make([]byte, many)
	for i := range b {
		b[i] = byte((seed*89 + i*37) % 251)
	}
	return string(b)
}

// around are the sectors beside a cell's, the cell's between them.
func around(one, two []uint32) [][]uint32 {
	return [][]uint32{repeat(0xABCD, 64), whole(900, "before"), one, two, whole(901, "behind")}
}

// pair is a flash of five sectors without protected ones, and a drive of the third and the fourth one, that have these words; the others have their own.
func pair(t *testing.T, one, two []uint32) (*nor.Nor, *drive.Drive) {
	t.Helper()
	n, e := nor.New(5, 0)
	if e != api.OK {
		t.Fatalf("New: %d", e)
	}
	for sector, l := range around(one, two) {
		if e := n.Rewrite(sector, 0, l); e != api.OK {
			t.Fatalf("Rewrite: %d", e)
		}
	}
	d, e := drive.Open(n, 2, 2)
	if e != api.OK {
		t.Fatalf("drive.Open: %d", e)
	}
	return n, d
}

// opened is a cell of a drive that may be.
func opened(t *testing.T, d *drive.Drive) *cell.Cell {
	t.Helper()
	c, e := cell.Open(d)
	if e != api.OK || c == nil {
		t.Fatalf("Open: %d", e)
	}
	return c
}

// made is all of it at once.
func made(t *testing.T, one, two []uint32) (*nor.Nor, *drive.Drive, *cell.Cell) {
	t.Helper()
	n, d := pair(t, one, two)
	return n, d, opened(t, d)
}

// has tells of the drive's words, and that those beside it are as they were.
func has(t *testing.T, n *nor.Nor, one, two []uint32) {
	t.Helper()
	for sector, l := range around(one, two) {
		for at, w := range l {
			if is, e := n.Read(sector, at); e != api.OK || is != w {
				t.Fatalf("sector %d has %d (%d) at %d, not %d", sector-2, is, e, at, w)
			}
		}
	}
}

// value is what a cell tells: its bytes and its turn, or nothing.
type value struct {
	s    string
	turn int
	ok   bool
}

// valued is a value that is there.
func valued(turn int, s string) value {
	return value{s: s, turn: turn, ok: true}
}

// tells tells of the value, twice.
func tells(t *testing.T, c *cell.Cell, want value) {
	t.Helper()
	for range 2 {
		b, ok := c.Get()
		if string(b) != want.s || ok != want.ok || c.Turn() != want.turn {
			t.Fatalf("%q %v, turn %d, not %q %v, turn %d", b, ok, c.Turn(), want.s, want.ok, want.turn)
		}
		if !ok && b != nil {
			t.Fatal("bytes beside nothing")
		}
	}
}

// keeps tells of the value, and of another cell's of that drive.
func keeps(t *testing.T, d *drive.Drive, c *cell.Cell, want value) {
	t.Helper()
	tells(t, c, want)
	tells(t, opened(t, d), want)
}

// puts puts without an error.
func puts(t *testing.T, c *cell.Cell, s string) {
	t.Helper()
	if e := c.Put([]byte(s)); e != api.OK {
		t.Fatalf("Put of %d bytes: %d", len(s), e)
	}
}

// fail lets the power of the flash fail without a step that is done.
func fail(t *testing.T, n *nor.Nor) {
	t.Helper()
	n.Arm(0)
	want(t, "Program without power", n.Program(0, 0, []uint32{0}), api.ErrDown)
}

// stepsLeft is how many steps of the flash are done before the power fails; at most many.
func stepsLeft(n *nor.Nor, many int) int {
	for done := range many {
		if n.Program(0, 0, []uint32{ones}) != api.OK {
			return done
		}
	}
	return many
}

// steps are those of the flash that a Put of so many bytes takes: the erasing, two words, those of the bytes, the last one.
func steps(many int) int {
	return 1 + 2 + (many+3)/4 + 1
}

// The chapter's examples.
func TestExamples(t *testing.T) {
	n, d, c := made(t, blank(), blank())
	keeps(t, d, c, value{})
	puts(t, c, "abc")
	first := append([]uint32{1, 3, 1633838079}, append(repeat(ones, 60), 0)...)
	has(t, n, first, blank())
	keeps(t, d, c, valued(1, "abc"))
	want(t, "Put of none", c.Put(nil), api.OK)
	second := append([]uint32{2, 0}, append(repeat(ones, 61), 0)...)
	has(t, n, first, second)
	keeps(t, d, c, valued(2, ""))
	puts(t, c, "d")
	has(t, n, append([]uint32{3, 1, 0x64FFFFFF}, append(repeat(ones, 60), 0)...), second)
	keeps(t, d, c, valued(3, "d"))
}

// P7.1: drives of two sectors alone, wherever they are.
func TestOpen(t *testing.T) {
	n, _ := pair(t, blank(), blank())
	for first := range 5 {
		for many := 1; first+many <= 5; many++ {
			d, e := drive.Open(n, first, many)
			want(t, "drive.Open", e, api.OK)
			c, e := cell.Open(d)
			if many == 2 {
				if c == nil || e != api.OK || c.Over() {
					t.Errorf("two sectors from %d on: %d", first, e)
				}
				continue
			}
			if c != nil || e != api.ErrArg {
				t.Errorf("%d sectors: %v %d", many, c, e)
			}
		}
	}
	large, _ := nor.New(1024, 0)
	all, _ := drive.Open(large, 0, 1024)
	if c, e := cell.Open(all); c != nil || e != api.ErrArg {
		t.Errorf("1024 sectors: %v %d", c, e)
	}
	part, _ := all.Part(1022, 2)
	puts(t, opened(t, part), "there")
	keeps(t, part, opened(t, part), valued(1, "there"))
}

// P7.1, R5: no drive, also without power.
func TestOpenOfNoDrive(t *testing.T) {
	n, d := pair(t, blank(), blank())
	copied := *d
	for range 2 {
		for i, none := range []*drive.Drive{nil, {}, new(drive.Drive), &copied} {
			if c, e := cell.Open(none); c != nil || e != api.ErrNil {
				t.Errorf("no drive (%d): %v %d", i, c, e)
			}
		}
		fail(t, n)
	}
}

// P7.1, Errors: a flash that is down, and ErrArg ahead of it.
func TestOpenWhileDown(t *testing.T) {
	n, d := pair(t, whole(5, "five"), blank())
	one, _ := drive.Open(n, 2, 1)
	three, _ := drive.Open(n, 2, 3)
	fail(t, n)
	if c, e := cell.Open(d); c != nil || e != api.ErrDown {
		t.Errorf("down: %v %d", c, e)
	}
	for _, x := range []*drive.Drive{one, three} {
		if c, e := cell.Open(x); c != nil || e != api.ErrArg {
			t.Errorf("down, of %d sectors: %v %d", x.Sectors(), c, e)
		}
	}
	n.Crash(nil)
	has(t, n, whole(5, "five"), blank())
	keeps(t, d, opened(t, d), valued(5, "five"))
}

// P7.1: none but Put writes anything, whatever is there.
func TestNothingIsWritten(t *testing.T) {
	for _, x := range [][2][]uint32{
		{blank(), blank()}, {strange(), strange()}, {whole(1, "a"), blank()}, {whole(1, "a"), torn(2, "b")},
		{whole(4, "a"), whole(4, "b")}, {whole(4, "a"), whole(5, "b")}, {repeat(0, 64), repeat(0, 64)},
	} {
		n, d := pair(t, x[0], x[1])
		n.Arm(0)
		c := opened(t, d)
		c.Get()
		c.Turn()
		if c.Over() || n.Down() {
			t.Error("something was done")
		}
		has(t, n, x[0], x[1])
	}
}

// Words: which sectors are whole, and which bytes they have; the other one is not whole.
func TestWhole(t *testing.T) {
	full := text(1, most)
	for i, x := range []struct {
		l    []uint32
		want value
	}{
		{blank(), value{}},
		{strange(), value{}},
		{with(strange(), 63, 0), valued(77, "\xf0\xf0\xf0\xf0\xf0")},
		{repeat(0, 64), valued(0, "")},
		{whole(0, "nought"), valued(0, "nought")},
		{whole(1, ""), valued(1, "")},
		{whole(1, "a"), valued(1, "a")},
		{whole(1, "\xff\xff\xff"), valued(1, "\xff\xff\xff")},
		{whole(1, "\x00\x00\x00\x00\x00"), valued(1, "\x00\x00\x00\x00\x00")},
		{whole(1, full), valued(1, full)},
		{torn(1, full), value{}},
		{torn(1, ""), value{}},
		{with(whole(1, full), 1, most+1), value{}},
		{with(whole(1, full), 1, most-1), valued(1, full[:most-1])},
		{with(whole(1, ""), 1, most), valued(1, strings.Repeat("\xff", most))},
		{with(whole(1, ""), 1, most+1), value{}},
		{with(whole(1, ""), 1, most+4), value{}},
		{with(whole(1, ""), 1, 1<<31), value{}},
		{with(whole(1, ""), 1, ones), value{}},
		{whole(last-1, "b"), valued(last-1, "b")},
		{whole(last, "b"), valued(last, "b")},
		{whole(last+1, "b"), value{}},
		{whole(ones, "b"), value{}},
		{with(with(whole(6, "abc"), 2, 0x61626300), 3, 0), valued(6, "abc")}, // behind the bytes there may be anything
		{with(whole(6, "abcd"), 62, 12345), valued(6, "abcd")},
	} {
		for _, beside := range [][]uint32{blank(), strange(), torn(x.l[0]+1, "beside"), torn(last, ""), whole(last+1, "beside"), with(whole(x.l[0]+1, ""), 1, most+1)} {
			for _, y := range [][2][]uint32{{x.l, beside}, {beside, x.l}} {
				n, d, c := made(t, y[0], y[1])
				if b, ok := c.Get(); string(b) != x.want.s || ok != x.want.ok {
					t.Fatalf("%d: %q %v", i, b, ok)
				}
				keeps(t, d, c, x.want)
				has(t, n, y[0], y[1])
			}
		}
	}
}

// Words: each bit of the last word has to be 0; a turn, or a number of bytes, past its limit by any bit is none.
func TestEachBit(t *testing.T) {
	for bit := range 32 {
		w := uint32(1) << bit
		_, d, c := made(t, with(whole(3, "abc"), 63, w), blank())
		keeps(t, d, c, value{})
		_, d, c = made(t, whole(3, "abc"), with(whole(4, "abc"), 63, w))
		keeps(t, d, c, valued(3, "abc"))
		_, d, c = made(t, blank(), whole(w, "abc"))
		keeps(t, d, c, valued(int(w), "abc"))
		_, d, c = made(t, blank(), whole(w|last, "abc"))
		if bit == 31 {
			keeps(t, d, c, valued(last, "abc"))
		} else {
			keeps(t, d, c, value{})
		}
		_, d, c = made(t, with(whole(3, text(2, most)), 1, w), blank())
		if w <= most {
			keeps(t, d, c, valued(3, text(2, most)[:w]))
		} else {
			keeps(t, d, c, value{})
		}
	}
}

// Words: of two that are whole the second one, if its turn is the first one's and one, else the first one.
func TestWhichCounts(t *testing.T) {
	for _, x := range []struct {
		one, two uint32
		second   bool
	}{
		{7, 8, true}, {8, 7, false}, {7, 7, false}, {7, 9, false}, {9, 7, false}, {7, 6, false}, {7, 5, false},
		{0, 1, true}, {1, 0, false}, {0, 0, false}, {0, 2, false}, {2, 0, false},
		{255, 256, true}, {65535, 65536, true}, {256, 0, false}, {7, 7 + 256, false}, {7, 8 + 256, false},
		{last - 1, last, true}, {last, last - 1, false}, {last, last, false}, {last - 2, last, false}, {last, 0, false}, {0, last, false}, {last, 1, false},
	} {
		n, d, c := made(t, whole(x.one, "one"), whole(x.two, "second"))
		is := valued(int(x.one), "one")
		if x.second {
			is = valued(int(x.two), "second")
		}
		keeps(t, d, c, is)
		has(t, n, whole(x.one, "one"), whole(x.two, "second"))
	}
	_, d, c := made(t, whole(last, "one"), whole(last+1, "second"))
	keeps(t, d, c, valued(last, "one"))
	_, d, c = made(t, whole(ones, "one"), whole(0, "second"))
	keeps(t, d, c, valued(0, "second"))
}

// P7.2: bytes of each length, whatever they are: the words, how many steps of the flash they take, and what is told.
func TestPutLengths(t *testing.T) {
	for many := range most + 1 {
		for _, s := range []string{text(many, many), strings.Repeat("\xff", many), strings.Repeat("\x00", many)} {
			for _, old := range []string{"", text(7, most)} {
				n, d, c := made(t, whole(20, old), strange())
				n.Arm(steps(many))
				puts(t, c, s)
				if left := stepsLeft(n, 5); left != 0 {
					t.Fatalf("%d bytes: %d steps were left, not 0", many, left)
				}
				n.Crash(nil)
				has(t, n, whole(20, old), whole(21, s))
				keeps(t, d, c, valued(21, s))
				if c.Over() {
					t.Fatal("over")
				}
			}
		}
	}
}

// P7.2: no bytes are none, and a value.
func TestPutOfNone(t *testing.T) {
	for _, none := range [][]byte{nil, {}, make([]byte, 0, 9), []byte("abc")[1:1]} {
		n, d, c := made(t, whole(4, "four"), blank())
		want(t, "Put", c.Put(none), api.OK)
		has(t, n, whole(4, "four"), whole(5, ""))
		keeps(t, d, c, valued(5, ""))
	}
}

// P7.2: more than MaxCell bytes are refused: nothing is written, and nothing ends.
func TestPutTooLong(t *testing.T) {
	for _, x := range [][2][]uint32{{blank(), blank()}, {whole(1, "a"), whole(2, "b")}, {whole(3, "a"), whole(2, "b")}} {
		n, d, c := made(t, x[0], x[1])
		b, ok := c.Get()
		is := value{s: string(b), turn: c.Turn(), ok: ok}
		n.Arm(0)
		for _, many := range []int{most + 1, most + 2, most + 4, 2 * most, 1 << 16, 1 << 20} {
			want(t, "Put of too many", c.Put(make([]byte, many)), api.ErrLong)
			keeps(t, d, c, is)
		}
		if c.Over() || n.Down() {
			t.Error("over, or something was done")
		}
		has(t, n, x[0], x[1])
		n.Crash(nil)
		puts(t, c, text(3, most))
		keeps(t, d, c, valued(is.turn+1, text(3, most)))
	}
}

// places are pairs of sectors, and what they have behind a Put of "new".
var places = []struct {
	one, two, first, second []uint32
}{
	{blank(), blank(), whole(1, "new"), blank()},
	{strange(), strange(), whole(1, "new"), strange()},
	{torn(4, "a"), torn(5, "b"), whole(1, "new"), torn(5, "b")},
	{torn(5, "a"), torn(4, "b"), whole(1, "new"), torn(4, "b")},
	{whole(last+1, "a"), whole(ones, "b"), whole(1, "new"), whole(ones, "b")},
	{with(whole(1, "a"), 1, most+1), blank(), whole(1, "new"), blank()},
	{whole(1, "a"), blank(), whole(1, "a"), whole(2, "new")},
	{blank(), whole(1, "b"), whole(2, "new"), whole(1, "b")},
	{whole(0, "a"), blank(), whole(0, "a"), whole(1, "new")},
	{blank(), whole(0, "b"), whole(1, "new"), whole(0, "b")},
	{repeat(0, 64), repeat(0, 64), repeat(0, 64), whole(1, "new")},
	{whole(1, "a"), whole(2, "b"), whole(3, "new"), whole(2, "b")},
	{whole(3, "a"), whole(2, "b"), whole(3, "a"), whole(4, "new")},
	{whole(5, "a"), whole(5, "b"), whole(5, "a"), whole(6, "new")},
	{whole(5, "a"), whole(7, "b"), whole(5, "a"), whole(6, "new")},
	{whole(5, "a"), whole(900, "b"), whole(5, "a"), whole(6, "new")},
	{whole(5, "a"), whole(2, "b"), whole(5, "a"), whole(6, "new")},
	{whole(5, "a"), torn(6, "b"), whole(5, "a"), whole(6, "new")},
	{torn(6, "a"), whole(5, "b"), whole(6, "new"), whole(5, "b")},
	{strange(), whole(5, text(8, most)), whole(6, "new"), whole(5, text(8, most))},
	{whole(5, text(8, most)), whole(6, text(9, most)), whole(7, "new"), whole(6, text(9, most))},
	{whole(7, text(8, most)), whole(6, text(9, most)), whole(7, text(8, most)), whole(8, "new")},
	{whole(5, "a"), whole(last, "b"), whole(5, "a"), whole(6, "new")},
	{whole(last-1, "a"), whole(last-2, "b"), whole(last-1, "a"), whole(last, "new")},
	{whole(last-2, "a"), whole(last-1, "b"), whole(last, "new"), whole(last-1, "b")},
	{whole(last+1, "a"), whole(8, "b"), whole(9, "new"), whole(8, "b")},
}

// P7.2: the other sector is written, whatever it has, and the cell's stays; without one of the cell's it is the first one.
func TestPutWhere(t *testing.T) {
	for i, x := range places {
		n, d, c := made(t, x.one, x.two)
		before := c.Turn()
		n.Arm(steps(3))
		puts(t, c, "new")
		if left := stepsLeft(n, 5); left != 0 {
			t.Errorf("%d: %d steps were left, not 0", i, left)
		}
		n.Crash(nil)
		has(t, n, x.first, x.second)
		keeps(t, d, c, valued(before+1, "new"))
		if before+1 == last {
			continue
		}
		puts(t, c, "newest")
		keeps(t, d, c, valued(before+2, "newest"))
	}
}

// P7.2: from sector to sector, over and over; a cell that is opened anew goes on.
func TestLong(t *testing.T) {
	n, d, c := made(t, blank(), blank())
	sides := [2][]uint32{blank(), blank()}
	for i := range 1000 {
		if i%97 == 5 {
			c = opened(t, d)
		}
		s := text(i, i%(most+1))
		puts(t, c, s)
		sides[i%2] = whole(uint32(i+1), s)
		has(t, n, sides[0], sides[1])
		keeps(t, d, c, valued(i+1, s))
	}
}

// P7.2: behind a turn of MaxTally there is no Put, and it is not over by that; the last one is done, in both sectors.
func TestFull(t *testing.T) {
	for _, second := range []bool{false, true} {
		one, two := whole(last-1, "elder"), blank()
		first, behind := one, whole(last, "last")
		if second {
			one, two, first, behind = two, one, behind, first
		}
		n, d, c := made(t, one, two)
		puts(t, c, "last")
		n.Arm(0)
		for range 3 {
			want(t, "Put behind the last turn", c.Put([]byte("more")), api.ErrFull)
			want(t, "Put of none", c.Put(nil), api.ErrFull)
			want(t, "Put of another one", opened(t, d).Put([]byte("more")), api.ErrFull)
		}
		if c.Over() || n.Down() {
			t.Error("over, or something was done")
		}
		has(t, n, first, behind)
		keeps(t, d, c, valued(last, "last"))
	}
	for _, x := range [][2][]uint32{
		{whole(last, "last"), blank()}, {blank(), whole(last, "last")}, {whole(last, "last"), whole(last, "beside")},
		{whole(last, "last"), whole(last-1, "elder")}, {whole(last-1, "elder"), whole(last, "last")}, {whole(last, "last"), whole(3, "beside")},
	} {
		n, d, c := made(t, x[0], x[1])
		n.Arm(0)
		want(t, "Put behind the last turn", c.Put([]byte("more")), api.ErrFull)
		if c.Over() || n.Down() {
			t.Error("over, or something was done")
		}
		has(t, n, x[0], x[1])
		keeps(t, d, c, valued(last, "last"))
	}
	_, d, c := made(t, whole(last+1, "no"), blank())
	puts(t, c, "first")
	keeps(t, d, c, valued(1, "first"))
}

// isOver tells that a cell is: no Put does anything any more, with power or without.
func isOver(t *testing.T, n *nor.Nor, c *cell.Cell) {
	t.Helper()
	if !c.Over() {
		t.Fatal("not over")
	}
	if !n.Down() {
		n.Arm(0)
	}
	down := n.Down()
	for _, many := range []int{0, 3, most, most + 1} {
		want(t, "Put of one that is over", c.Put(make([]byte, many)), api.ErrEnded)
	}
	if n.Down() != down || !c.Over() {
		t.Fatal("Put of one that is over does something")
	}
}

// erasedBy is a sector of which these words are erased.
func erasedBy(l []uint32, erased []bool) []uint32 {
	told := slices.Clone(l)
	for i := range told {
		if i < len(erased) && erased[i] {
			told[i] = ones
		}
	}
	return told
}

// choices are which words are erased of what was half erased: all eight of the first two and the last one, with none, all, each one alone, all but one, a beginning and an end of the others; and some of chance.
func choices(chance *rand.Rand) [][]bool {
	var l [][]bool
	add := func(erased func(i int) bool) {
		for some := range 8 {
			k := make([]bool, 64)
			for i := range k {
				k[i] = erased(i)
			}
			k[0], k[1], k[63] = some&1 != 0, some&2 != 0, some&4 != 0
			l = append(l, k)
		}
	}
	for at := 2; at <= 63; at++ {
		add(func(i int) bool { return i == at })
		add(func(i int) bool { return i != at })
		add(func(i int) bool { return i < at })
		add(func(i int) bool { return i >= at })
		add(func(i int) bool { return chance.Intn(2) == 0 })
	}
	return append(l, nil, []bool{true}, []bool{false, true}, slices.Repeat([]bool{true}, 100))
}

// goesOn tells that a new cell has the value, and puts.
func goesOn(t *testing.T, d *drive.Drive, is value) {
	t.Helper()
	next := opened(t, d)
	tells(t, next, is)
	puts(t, next, "goes on")
	keeps(t, d, next, valued(is.turn+1, "goes on"))
}

// P7.2, P7.3: the power fails in the erasing: each choice there is of a short value's words, and many of a long one's: the value is the elder one.
func TestFailsErasing(t *testing.T) {
	chance := rand.New(rand.NewSource(71))
	all := choices(chance)
	for i, x := range places {
		for _, k := range all {
			n, d, c := made(t, x.one, x.two)
			b, ok := c.Get()
			is := value{s: string(b), turn: c.Turn(), ok: ok}
			n.Arm(0)
			want(t, "Put without power", c.Put([]byte("new")), api.ErrDown)
			if !n.Down() {
				t.Fatalf("%d: not down", i)
			}
			tells(t, c, is)
			isOver(t, n, c)
			n.Crash(k)
			if slices.Equal(x.one, x.first) {
				has(t, n, x.one, erasedBy(x.two, k))
			} else {
				has(t, n, erasedBy(x.one, k), x.two)
			}
			keeps(t, d, c, is)
			isOver(t, n, c)
			n.Crash(nil)
			goesOn(t, d, is)
		}
	}
}

// P7.3: of a short value all choices there are: words of ones stay so.
func TestFailsErasingEachChoice(t *testing.T) {
	places := []int{0, 1, 2, 3, 4, 63}
	for _, turn := range []uint32{0, 4, 5, 6, 7, last} {
		for second := range 2 {
			for some := range 1 << len(places) {
				own, other := whole(5, "own"), whole(turn, text(1, 10))
				k := make([]bool, 64)
				for i, at := range places {
					k[at] = some>>i&1 != 0
				}
				one, two := own, other
				is := valued(5, "own")
				if second == 1 {
					one, two = other, own
				}
				if second == 0 && turn == 6 || second == 1 && turn != 4 {
					continue // the other one is the cell's
				}
				n, d, c := made(t, one, two)
				n.Arm(0)
				want(t, "Put without power", c.Put([]byte("new")), api.ErrDown)
				n.Crash(k)
				if second == 1 {
					has(t, n, erasedBy(other, k), own)
				} else {
					has(t, n, own, erasedBy(other, k))
				}
				keeps(t, d, c, is)
				goesOn(t, d, is)
			}
		}
	}
}

// P7.2, P7.3: the power fails at each step of a Put: the value is the elder one till the last word is there; then it is the new one.
func TestFailsAtEachStep(t *testing.T) {
	for i, x := range places {
		for _, many := range []int{0, 1, 4, 6, 100, most} {
			s := text(30, many)
			for done := range steps(many) + 1 {
				n, d, c := made(t, x.one, x.two)
				b, ok := c.Get()
				is := value{s: string(b), turn: c.Turn(), ok: ok}
				is2 := append(slices.Clone(torn(uint32(is.turn+1), s)[:max(done-1, 0)]), repeat(ones, 64-max(done-1, 0))...)
				if done == 0 {
					is2 = x.two
					if !slices.Equal(x.one, x.first) {
						is2 = x.one
					}
				}
				n.Arm(done)
				e := c.Put([]byte(s))
				if done == steps(many) {
					want(t, "Put with the steps it takes", e, api.OK)
					is, is2 = valued(is.turn+1, s), whole(uint32(is.turn+1), s)
				} else {
					want(t, "Put with less steps than it takes", e, api.ErrDown)
					isOver(t, n, c)
				}
				tells(t, c, is)
				n.Crash(slices.Repeat([]bool{false}, 64))
				if slices.Equal(x.one, x.first) {
					has(t, n, x.one, is2)
				} else {
					has(t, n, is2, x.two)
				}
				keeps(t, d, c, is)
				if is.turn == last {
					continue
				}
				goesOn(t, d, is)
				if i == 0 && done == 3 { // behind a beginning of the words: twice
					n.Arm(1)
					want(t, "Put with less steps than it takes", opened(t, d).Put([]byte(s)), api.ErrDown)
					n.Crash(nil)
					goesOn(t, d, valued(is.turn+1, "goes on"))
				}
			}
		}
	}
}

// P7.3: crash upon crash in the same Put, at steps and with words of chance: the value is the elder one till a Put is OK.
func TestFailsAgainAndAgain(t *testing.T) {
	chance := rand.New(rand.NewSource(72))
	all := choices(chance)
	for _, x := range places {
		for range 20 {
			n, d, c := made(t, x.one, x.two)
			b, ok := c.Get()
			is := value{s: string(b), turn: c.Turn(), ok: ok}
			for range 8 {
				many := chance.Intn(most + 1)
				n.Arm(chance.Intn(steps(many)))
				want(t, "Put with less steps than it takes", c.Put([]byte(text(5, many))), api.ErrDown)
				tells(t, c, is)
				n.Crash(all[chance.Intn(len(all))])
				keeps(t, d, c, is)
				c = opened(t, d)
			}
			goesOn(t, d, is)
		}
	}
}

// P7.3: a life of crashes of chance: the value is what was put with OK last, or, behind a crash, the new one, whole.
func TestLifeOfCrashes(t *testing.T) {
	chance := rand.New(rand.NewSource(73))
	all := choices(chance)
	for range 60 {
		n, d, c := made(t, blank(), blank())
		is := value{}
		for i := range 200 {
			many := chance.Intn(most + 1)
			s := text(i, many)
			if chance.Intn(3) == 0 {
				n.Arm(chance.Intn(steps(many) + 3))
			}
			e := c.Put([]byte(s))
			if e == api.OK {
				is = valued(is.turn+1, s)
			} else if e != api.ErrDown {
				t.Fatalf("Put: %d", e)
			}
			tells(t, c, is)
			if c.Over() != (e != api.OK) {
				t.Fatalf("Put: %d, over: %v", e, c.Over())
			}
			if n.Down() || chance.Intn(9) == 0 {
				n.Crash(all[chance.Intn(len(all))])
				c = opened(t, d)
				tells(t, c, is)
			}
		}
	}
}

// P7.1: what one that is over tells is what was there at its error, whatever is put, or written, since.
func TestOverTellsWhatWasThere(t *testing.T) {
	for _, x := range []struct {
		one, two []uint32
		is       value
	}{
		{blank(), blank(), value{}},
		{whole(4, "four"), blank(), valued(4, "four")},
		{whole(4, "four"), whole(5, ""), valued(5, "")},
		{whole(6, text(4, most)), whole(5, "five"), valued(6, text(4, most))},
	} {
		for done := range steps(3) {
			n, d, c := made(t, x.one, x.two)
			n.Arm(done)
			want(t, "Put with less steps than it takes", c.Put([]byte("new")), api.ErrDown)
			tells(t, c, x.is)
			n.Crash(nil)
			tells(t, c, x.is)
			next := opened(t, d)
			for i := range 3 {
				puts(t, next, text(i, 9))
				tells(t, c, x.is)
				tells(t, next, valued(x.is.turn+1+i, text(i, 9)))
			}
			for sector := range 2 {
				want(t, "Rewrite", n.Rewrite(2+sector, 0, blank()), api.OK)
			}
			tells(t, c, x.is)
			keeps(t, d, next, value{})
			isOver(t, n, c)
		}
	}
}

// P7.1: what was there at the error is what another hand, or another cell, had written till then.
func TestOverTellsWhatWasThereLast(t *testing.T) {
	n, d, c := made(t, whole(4, "four"), blank())
	want(t, "Rewrite", n.Rewrite(3, 0, whole(5, "five")), api.OK)
	n.Arm(0)
	want(t, "Put without power", c.Put([]byte("six")), api.ErrDown)
	tells(t, c, valued(5, "five"))
	n.Crash(nil)
	has(t, n, whole(4, "four"), whole(5, "five"))
	keeps(t, d, c, valued(5, "five"))
	_, d, c = made(t, whole(4, "four"), blank())
	puts(t, opened(t, d), "five")
	tells(t, c, valued(5, "five"))
	puts(t, c, "six")
	keeps(t, d, c, valued(6, "six"))
}

// P7.1: without power Get and Turn tell what was known last, and end nothing.
func TestGetWhileDown(t *testing.T) {
	for _, x := range []struct {
		one, two []uint32
		is       value
	}{
		{blank(), blank(), value{}},
		{strange(), torn(1, "a"), value{}},
		{whole(4, "four"), blank(), valued(4, "four")},
		{whole(4, "four"), whole(5, "five"), valued(5, "five")},
		{whole(4, ""), whole(3, "three"), valued(4, "")},
		{blank(), whole(last, text(6, most)), valued(last, text(6, most))},
	} {
		n, d, c := made(t, x.one, x.two)
		fail(t, n)
		tells(t, c, x.is)
		if c.Over() {
			t.Error("over behind Get")
		}
		n.Crash(nil)
		keeps(t, d, c, x.is)
		if x.is.turn == last {
			continue
		}
		puts(t, c, "next")
		fail(t, n)
		tells(t, c, valued(x.is.turn+1, "next"))
		n.Crash(nil)
		puts(t, c, "goes on")
		keeps(t, d, c, valued(x.is.turn+2, "goes on"))
	}
}

// P7.2: a Put without power is over, and no sector is half erased by it.
func TestPutWhileDown(t *testing.T) {
	for _, x := range places {
		n, d, c := made(t, x.one, x.two)
		b, ok := c.Get()
		is := value{s: string(b), turn: c.Turn(), ok: ok}
		fail(t, n)
		if c.Over() {
			t.Fatal("over ahead of the Put")
		}
		want(t, "Put, down", c.Put([]byte("new")), api.ErrDown)
		tells(t, c, is)
		isOver(t, n, c)
		n.Crash(slices.Repeat([]bool{true}, 64))
		has(t, n, x.one, x.two)
		keeps(t, d, c, is)
		isOver(t, n, c)
		n.Crash(nil)
		goesOn(t, d, is)
	}
}

// Errors: ErrNil, ErrEnded, ErrLong, ErrFull, the drive's, in this order; ErrLong and ErrFull end nothing.
func TestOrderOfErrors(t *testing.T) {
	long := make([]byte, most+1)
	n, _, c := made(t, whole(last, "last"), blank())
	want(t, "Put of too many, full", c.Put(long), api.ErrLong)
	fail(t, n)
	want(t, "Put of too many, full, down", c.Put(long), api.ErrLong)
	want(t, "Put, full, down", c.Put(nil), api.ErrFull)
	if c.Over() {
		t.Error("over behind ErrLong, or ErrFull")
	}
	n, _, c = made(t, whole(last-1, "a"), blank())
	fail(t, n)
	want(t, "Put of too many, down", c.Put(long), api.ErrLong)
	want(t, "Put, down", c.Put(long[:most]), api.ErrDown)
	want(t, "Put of one that is over, down", c.Put(nil), api.ErrEnded)
	want(t, "Put of one that is over, of too many, down", c.Put(long), api.ErrEnded)
	n.Crash(nil)
	want(t, "Rewrite", n.Rewrite(2, 0, []uint32{last}), api.OK)
	want(t, "Put of one that is over, full", c.Put(nil), api.ErrEnded)
	want(t, "Put of one that is over, of too many, full", c.Put(long), api.ErrEnded)
	fail(t, n)
	want(t, "Put of one that is over, of too many, full, down", c.Put(long), api.ErrEnded)
	copied := *c
	want(t, "Put of none, that is over, of too many, full, down", copied.Put(long), api.ErrNil)
}

// Words: what another hand has written is what counts, and what is gone on from.
func TestAnotherHand(t *testing.T) {
	n, d, c := made(t, whole(3, "three"), blank())
	rewrite := func(sector int, l []uint32) {
		t.Helper()
		want(t, "Rewrite", n.Rewrite(2+sector, 0, l), api.OK)
	}
	rewrite(1, whole(4, "theirs"))
	keeps(t, d, c, valued(4, "theirs"))
	puts(t, c, "mine")
	has(t, n, whole(5, "mine"), whole(4, "theirs"))
	rewrite(0, with(whole(5, "mine"), 63, 1))
	keeps(t, d, c, valued(4, "theirs"))
	puts(t, c, "again")
	has(t, n, whole(5, "again"), whole(4, "theirs"))
	rewrite(1, whole(77, "far ahead"))
	keeps(t, d, c, valued(5, "again"))
	puts(t, c, "on")
	has(t, n, whole(5, "again"), whole(6, "on"))
	rewrite(0, whole(6, "twin"))
	keeps(t, d, c, valued(6, "twin"))
	rewrite(0, with(whole(5, "other"), 2, 0x6f6f6f6f))
	rewrite(1, strange())
	keeps(t, d, c, valued(5, "oooor"))
	rewrite(0, strange())
	keeps(t, d, c, value{})
	puts(t, c, "from the beginning")
	has(t, n, whole(1, "from the beginning"), strange())
	rewrite(1, whole(last, "last"))
	rewrite(0, blank())
	want(t, "Put of what is full by another hand", c.Put(nil), api.ErrFull)
	rewrite(1, whole(last+1, "past"))
	fail(t, n)
	rewrite(0, whole(last-1, "down"))
	n.Crash(nil)
	keeps(t, d, c, valued(last-1, "down"))
	puts(t, c, "end")
	has(t, n, whole(last-1, "down"), whole(last, "end"))
}

// P7.1: cells of one drive share it: each Put of each of them counts; one is over alone.
func TestTwoCells(t *testing.T) {
	n, d, c := made(t, blank(), blank())
	other := opened(t, d)
	for i := range 20 {
		puts(t, c, "one")
		tells(t, other, valued(2*i+1, "one"))
		puts(t, other, "two")
		tells(t, c, valued(2*i+2, "two"))
	}
	fail(t, n)
	want(t, "Put, down", c.Put(nil), api.ErrDown)
	n.Crash(nil)
	if !c.Over() || other.Over() {
		t.Error("over: not the one alone")
	}
	puts(t, other, "goes on")
	keeps(t, d, other, valued(41, "goes on"))
	isOver(t, n, c)
	tells(t, c, valued(40, "two"))
	_, d, alone := made(t, blank(), blank())
	keeps(t, d, alone, value{})
}

// P7.2: protected sectors are no other ones to a cell.
func TestProtected(t *testing.T) {
	n, e := nor.New(2, 2)
	want(t, "New", e, api.OK)
	d, e := drive.Open(n, 0, 2)
	want(t, "drive.Open", e, api.OK)
	c := opened(t, d)
	for i := range 5 {
		puts(t, c, text(i, 50))
		keeps(t, d, c, valued(i+1, text(i, 50)))
	}
}

// R3: what is put is neither changed nor kept, its spare room neither.
func TestPutKeepsNothing(t *testing.T) {
	for _, many := range []int{0, 1, 3, 4, 5, 200, most} {
		room := stdbytes.Repeat([]byte{'x'}, most+8)
		copy(room[4:], text(3, many))
		before := slices.Clone(room)
		n, d, c := made(t, whole(1, "one"), blank())
		want(t, "Put", c.Put(room[4:4+many]), api.OK)
		if !slices.Equal(room, before) {
			t.Error("what was handed in is changed")
		}
		clear(room)
		fail(t, n)
		tells(t, c, valued(2, text(3, many)))
		n.Crash(nil)
		keeps(t, d, c, valued(2, text(3, many)))
		n.Arm(0)
		want(t, "Put, down", c.Put(room[4:5]), api.ErrDown)
		tells(t, c, valued(2, text(3, many)))
	}
}

// R3: what is told may be changed, with power, without, and of one that is over; what is told again is the value.
func TestGetIsItsOwn(t *testing.T) {
	n, _, c := made(t, whole(1, text(3, 40)), blank())
	spoil := func() {
		t.Helper()
		one, _ := c.Get()
		two, _ := c.Get()
		clear(one[:cap(one)])
		_ = append(one[:7], "overwritten"...)
		if string(two) != text(3, 40) {
			t.Fatal("two answers share memory")
		}
		tells(t, c, valued(1, text(3, 40)))
	}
	spoil()
	fail(t, n)
	spoil()
	want(t, "Put, down", c.Put([]byte("no")), api.ErrDown)
	spoil()
	n.Crash(nil)
	spoil()
	has(t, n, whole(1, text(3, 40)), blank())
	n, d, c := made(t, blank(), blank())
	puts(t, c, text(9, 40))
	fail(t, n)
	b, _ := c.Get()
	clear(b)
	tells(t, c, valued(1, text(9, 40)))
	n.Crash(nil)
	keeps(t, d, c, valued(1, text(9, 40)))
}

// R5: cells that Open did not answer; nothing is done by them.
func TestNoCell(t *testing.T) {
	n, _, c := made(t, whole(4, "four"), whole(5, "five"))
	copied := *c
	var none cell.Cell
	m, _, ended := made(t, whole(4, "four"), blank())
	fail(t, m)
	want(t, "Put, down", ended.Put(nil), api.ErrDown)
	over := *ended
	for _, down := range []bool{false, true} {
		if down {
			fail(t, n)
		} else {
			n.Arm(0)
		}
		for i, x := range []*cell.Cell{nil, {}, &none, &copied, &over} {
			for _, many := range []int{0, 3, most + 1} {
				want(t, "Put of none", x.Put(make([]byte, many)), api.ErrNil)
				if x.Over() {
					t.Errorf("none (%d): over", i)
				}
				tells(t, x, value{})
			}
		}
		if n.Down() != down {
			t.Fatal("something was done")
		}
	}
	n.Crash(slices.Repeat([]bool{true}, 64))
	has(t, n, whole(4, "four"), whole(5, "five"))
	puts(t, c, "six")
}

// R1, R5: a drive, or a flash, that is none any more has an error of its own.
func TestDriveThatIsGone(t *testing.T) {
	n, d, c := made(t, whole(4, "four"), blank())
	*n = nor.Nor{}
	if x, e := cell.Open(d); x != nil || e != api.ErrNil {
		t.Errorf("Open: %v %d", x, e)
	}
	tells(t, c, valued(4, "four"))
	if c.Over() {
		t.Error("over behind Get")
	}
	want(t, "Put", c.Put([]byte("five")), api.ErrNil)
	want(t, "Put once more", c.Put([]byte("five")), api.ErrEnded)
	tells(t, c, valued(4, "four"))
	_, d, c = made(t, whole(4, "four"), blank())
	*d = drive.Drive{}
	want(t, "Put", c.Put(nil), api.ErrNil)
	tells(t, c, valued(4, "four"))
	if !c.Over() {
		t.Error("not over")
	}
}

// model is the chapter's words, written out a second time, of both sectors.
type model [2][]uint32

// isWhole tells whether a sector is.
func (m *model) isWhole(sector int) bool {
	l := m[sector]
	return l[63] == 0 && uint64(l[0]) <= 1<<31 && uint64(l[1]) <= 4*61
}

// sector is the cell's, below 0: none.
func (m *model) sector() int {
	if m.isWhole(0) && m.isWhole(1) {
		if uint64(m[1][0]) == uint64(m[0][0])+1 {
			return 1
		}
		return 0
	}
	for i := range 2 {
		if m.isWhole(i) {
			return i
		}
	}
	return -1
}

// tells is what the cell's sector has.
func (m *model) tells() value {
	at := m.sector()
	if at < 0 {
		return value{}
	}
	var b []byte
	for _, w := range m[at][2:63] {
		b = append(b, byte(w/(1<<24)), byte(w/(1<<16)%256), byte(w/(1<<8)%256), byte(w%256))
	}
	return valued(int(m[at][0]), string(b[:m[at][1]]))
}

// put does a Put with power.
func (m *model) put(s string) api.Errno {
	if len(s) > 244 {
		return api.ErrLong
	}
	turn := m.tells().turn
	if turn >= 1<<31 {
		return api.ErrFull
	}
	other := 0
	if m.sector() == 0 {
		other = 1
	}
	m[other] = whole(uint32(turn+1), s)
	return api.OK
}

// someSector is one of chance, mostly one that is whole.
func someSector(chance *rand.Rand) []uint32 {
	l := whole(uint32(chance.Intn(4)), text(chance.Intn(99), chance.Intn(most+1)))
	switch chance.Intn(10) {
	case 0:
		return blank()
	case 1:
		l[chance.Intn(64)] = chance.Uint32()
	case 2:
		l[0] = uint32(last - 2 + chance.Intn(4))
	case 3:
		l[1] = uint32(most - 2 + chance.Intn(5))
	case 4:
		for i := range 61 {
			l[2+i] = chance.Uint32()
		}
	case 5:
		l[63] = 1 << chance.Intn(32)
	case 6:
		l[0], l[63] = chance.Uint32(), chance.Uint32()&1
	}
	return l
}

// P7.1, P7.2: sectors of chance against the model, Put by Put.
func TestAgainstModel(t *testing.T) {
	chance := rand.New(rand.NewSource(74))
	for range 3000 {
		m := model{someSector(chance), someSector(chance)}
		n, d, c := made(t, m[0], m[1])
		for range 8 {
			keeps(t, d, c, m.tells())
			s := text(chance.Intn(99), chance.Intn(most+6))
			if e, got := m.put(s), c.Put([]byte(s)); got != e {
				t.Fatalf("Put of %d bytes: %d, not %d", len(s), got, e)
			}
			has(t, n, m[0], m[1])
			if chance.Intn(4) == 0 {
				at := chance.Intn(2)
				m[at] = someSector(chance)
				want(t, "Rewrite", n.Rewrite(2+at, 0, m[at]), api.OK)
			}
		}
	}
}
