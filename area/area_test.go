package area_test

import (
	stdbytes "bytes"
	"math"
	"math/rand"
	"slices"
	"strings"
	"testing"

	"blockhouse/api"
	"blockhouse/area"
	"blockhouse/drive"
	"blockhouse/nor"
)

const (
	ones = math.MaxUint32
	most = 4096 // bytes of a record
	none = -1   // the room where there is none
)

func want(t *testing.T, what string, got, want api.Errno) {
	t.Helper()
	if got != want {
		t.Errorf("%s: error %d, not %d", what, got, want)
	}
}

// repeat is the same word so many times.
func repeat(w uint32, many int) []uint32 {
	return slices.Repeat([]uint32{w}, many)
}

// blank is an erased sector.
func blank() []uint32 {
	return repeat(ones, 64)
}

// with is those words with another one at a place.
func with(l []uint32, at int, w uint32) []uint32 {
	told := slices.Clone(l)
	told[at] = w
	return told
}

// text is so many bytes, mostly unlike their neighbours, none of them 255.
func text(seed, many int) string {
	b := make([]byte, many)
	for i := range b {
		b[i] = byte((seed*89 + i*37) % 251)
	}
	return string(b)
}

// ended is a record of these bytes whose last word is that.
func ended(s string, end uint32) []uint32 {
	l := repeat(ones, 2+(len(s)+3)/4)
	l[0], l[len(l)-1] = uint32(len(s)), end
	for i := range len(s) {
		l[1+i/4] -= (255 - uint32(s[i])) << (24 - 8*(i%4))
	}
	return l
}

// whole is a record that is.
func whole(s string) []uint32 {
	return ended(s, 0)
}

// torn is one of which the last word is not written.
func torn(s string) []uint32 {
	return ended(s, ones)
}

// words are all of those, one behind the other.
func words(l ...[]uint32) []uint32 {
	return slices.Concat(l...)
}

// filled is a room of so many sectors with these words from 0 on, and ones behind them.
func filled(sectors int, l ...[]uint32) []uint32 {
	told := repeat(ones, 64*sectors)
	copy(told, words(l...))
	return told
}

// wordsOf are those that a record of so many bytes takes; of the flash each one is a step.
func wordsOf(many int) int {
	return 1 + (many+3)/4 + 1
}

// around are the words of a flash: a sector ahead of an area's, the head, the room, a sector behind.
func around(head, room []uint32) []uint32 {
	return words(filled(1, whole("before"), []uint32{7}), head, room, filled(1, whole("behind"), []uint32{9}))
}

// flash is one without protected sectors, and a drive of all but the first sector and the last one, with these words.
func flash(t *testing.T, head, room []uint32) (*nor.Nor, *drive.Drive) {
	t.Helper()
	l := around(head, room)
	n, e := nor.New(len(l)/64, 0)
	if e != api.OK {
		t.Fatalf("New: %d", e)
	}
	for sector := range len(l) / 64 {
		if e := n.Rewrite(sector, 0, l[64*sector:64*sector+64]); e != api.OK {
			t.Fatalf("Rewrite: %d", e)
		}
	}
	d, e := drive.Open(n, 1, len(l)/64-2)
	if e != api.OK {
		t.Fatalf("drive.Open: %d", e)
	}
	return n, d
}

// opened is an area of a drive that may be.
func opened(t *testing.T, d *drive.Drive) *area.Area {
	t.Helper()
	a, e := area.Open(d)
	if e != api.OK || a == nil {
		t.Fatalf("Open: %d", e)
	}
	if a.Over() {
		t.Fatal("over at Open")
	}
	return a
}

// made is all of it at once.
func made(t *testing.T, head, room []uint32) (*nor.Nor, *drive.Drive, *area.Area) {
	t.Helper()
	n, d := flash(t, head, room)
	return n, d, opened(t, d)
}

// has tells of the drive's words, and that those beside it are as they were.
func has(t *testing.T, n *nor.Nor, head, room []uint32) {
	t.Helper()
	for i, w := range around(head, room) {
		if is, e := n.Read(i/64, i%64); e != api.OK || is != w {
			t.Fatalf("sector %d has %d (%d) at %d, not %d", i/64-1, is, e, i%64, w)
		}
	}
}

// state is what an area tells.
type state struct {
	all        []string
	torn, room int
}

// of is a state of these records, with room for so many words behind them.
func of(words, torn int, all ...string) state {
	room := none
	if words >= 2 {
		room = min(4*(words-2), most)
	}
	return state{all: all, torn: torn, room: room}
}

// and is the state with one record more.
func (s state) and(b string, words int) state {
	return of(words, s.torn, append(slices.Clone(s.all), b)...)
}

// told is the area's state.
func told(a *area.Area) state {
	s := state{torn: a.Torn(), room: a.Room()}
	for _, b := range a.All() {
		s.all = append(s.all, string(b))
	}
	return s
}

// tells tells of the state, twice.
func tells(t *testing.T, a *area.Area, want state) {
	t.Helper()
	for range 2 {
		is := told(a)
		if is.torn != want.torn || is.room != want.room || len(is.all) != len(want.all) {
			t.Fatalf("%d records, %d torn, room %d, not %d, %d, %d", len(is.all), is.torn, is.room, len(want.all), want.torn, want.room)
		}
		for i, b := range want.all {
			if is.all[i] != b {
				t.Fatalf("record %d: %q, not %q", i, is.all[i], b)
			}
		}
	}
}

// keeps tells of the state, and of another area's of that drive.
func keeps(t *testing.T, d *drive.Drive, a *area.Area, want state) {
	t.Helper()
	tells(t, a, want)
	tells(t, opened(t, d), want)
}

// appends appends without an error.
func appends(t *testing.T, a *area.Area, s string) {
	t.Helper()
	if e := a.Append([]byte(s)); e != api.OK {
		t.Fatalf("Append of %d bytes: %d", len(s), e)
	}
}

// empties empties without an error.
func empties(t *testing.T, a *area.Area) {
	t.Helper()
	if e := a.Empty(); e != api.OK {
		t.Fatalf("Empty: %d", e)
	}
}

// fail lets the power of the flash fail without a step that is done.
func fail(t *testing.T, n *nor.Nor) {
	t.Helper()
	n.Arm(0)
	want(t, "Program without power", n.Program(0, 0, []uint32{0}), api.ErrDown)
}

// stepsLeft is how many steps of the flash are done before the power fails; at most many.
func stepsLeft(n *nor.Nor, many int) int {
	for done := range many {
		if n.Program(0, 0, []uint32{ones}) != api.OK {
			return done
		}
	}
	return many
}

// The chapter's examples.
func TestExamples(t *testing.T) {
	n, d, a := made(t, blank(), blank())
	keeps(t, d, a, state{room: 248})
	appends(t, a, "abc")
	has(t, n, blank(), append([]uint32{3, 1633838079, 0}, repeat(ones, 61)...))
	keeps(t, d, a, state{all: []string{"abc"}, room: 236})
	want(t, "Append of none", a.Append(nil), api.OK)
	has(t, n, blank(), append([]uint32{3, 1633838079, 0, 0, 0}, repeat(ones, 59)...))
	keeps(t, d, a, state{all: []string{"abc", ""}, room: 228})
	empties(t, a)
	has(t, n, blank(), blank())
	keeps(t, d, a, state{room: 248})
}

// P8.1: drives of two sectors or more, wherever they are; not of one.
func TestOpen(t *testing.T) {
	n, _ := flash(t, blank(), filled(3))
	for first := range 6 {
		for many := 1; first+many <= 6; many++ {
			d, e := drive.Open(n, first, many)
			want(t, "drive.Open", e, api.OK)
			a, e := area.Open(d)
			if many == 1 {
				if a != nil || e != api.ErrArg {
					t.Errorf("sector %d alone: %v %d", first, a, e)
				}
				continue
			}
			if a == nil || e != api.OK || a.Over() {
				t.Errorf("%d sectors from %d on: %d", many, first, e)
			}
		}
	}
	for first := range 4 {
		d, _ := drive.Open(n, first, 2)
		a := opened(t, d)
		empties(t, a)
		appends(t, a, "there")
		keeps(t, d, a, of(64-4, 0, "there"))
		empties(t, a)
	}
}

// P8.1: the greatest drive there is, and the last sectors of it.
func TestOpenLarge(t *testing.T) {
	n, _ := nor.New(1024, 0)
	all, _ := drive.Open(n, 0, 1024)
	part, _ := all.Part(1022, 2)
	appends(t, opened(t, part), "there")
	keeps(t, part, opened(t, part), of(64-4, 0, "there"))
	empties(t, opened(t, part))
	a := opened(t, all)
	is := of(1023*64, 0)
	for i := range 63 {
		s := text(i, most)
		appends(t, a, s)
		is = is.and(s, 1023*64-(i+1)*1026)
	}
	if is.room != 4*(834-2) {
		t.Fatalf("room %d", is.room)
	}
	keeps(t, all, a, is)
	want(t, "Append of too many", a.Append(make([]byte, 4*832+1)), api.ErrFull)
	appends(t, a, text(63, 4*832))
	keeps(t, all, a, is.and(text(63, 4*832), 0))
	n.Arm(1 + 1024)
	empties(t, a)
	if left := stepsLeft(n, 5); left != 0 {
		t.Errorf("%d steps were left, not 0", left)
	}
	n.Crash(nil)
	keeps(t, all, a, of(1023*64, 0))
}

// P8.1: records of no bytes, as many as there may be.
func TestManyRecords(t *testing.T) {
	n, _ := nor.New(33, 0)
	d, _ := drive.Open(n, 0, 33)
	a := opened(t, d)
	is := of(32*64, 0)
	for i := range 1024 {
		appends(t, a, "")
		is = is.and("", 32*64-2*(i+1))
	}
	keeps(t, d, a, is)
	want(t, "Append, full", a.Append(nil), api.ErrFull)
	keeps(t, d, a, is)
}

// P8.1, R5: no drive, also without power.
func TestOpenOfNoDrive(t *testing.T) {
	n, d := flash(t, blank(), blank())
	copied := *d
	for range 2 {
		for i, none := range []*drive.Drive{nil, {}, new(drive.Drive), &copied} {
			if a, e := area.Open(none); a != nil || e != api.ErrNil {
				t.Errorf("no drive (%d): %v %d", i, a, e)
			}
		}
		fail(t, n)
	}
}

// P8.1, Errors: a flash that is down, and ErrArg ahead of it; nothing is erased then, nor half erased.
func TestOpenWhileDown(t *testing.T) {
	for _, head := range [][]uint32{blank(), with(blank(), 0, 0)} {
		room := filled(2, whole("one"), torn("two"))
		n, d := flash(t, head, room)
		one, _ := drive.Open(n, 1, 1)
		fail(t, n)
		if a, e := area.Open(d); a != nil || e != api.ErrDown {
			t.Errorf("down: %v %d", a, e)
		}
		if a, e := area.Open(one); a != nil || e != api.ErrArg {
			t.Errorf("down, of one sector: %v %d", a, e)
		}
		n.Crash(slices.Repeat([]bool{true}, 64))
		has(t, n, head, room)
		if head[0] == 0 {
			tells(t, opened(t, d), of(128, 0))
		} else {
			tells(t, opened(t, d), of(128-6, 1, "one"))
		}
	}
}

// P8.1: of an area that is not being emptied nothing is written but by Append and Empty, whatever is there.
func TestNothingIsWritten(t *testing.T) {
	for _, head := range [][]uint32{blank(), with(blank(), 0, 1), repeat(0xF0F0, 64), with(repeat(0, 64), 0, ones)} {
		for _, room := range [][]uint32{filled(1), filled(3, whole("a"), torn("b"), whole("c")), repeat(0, 128), repeat(4097, 64), filled(2, repeat(0xF0F0F0F0, 100))} {
			n, d := flash(t, head, room)
			n.Arm(0)
			a := opened(t, d)
			a.All()
			a.Torn()
			a.Room()
			if a.Over() || n.Down() {
				t.Error("something was done")
			}
			has(t, n, head, room)
		}
	}
}

// Words: the head's word 0 alone tells whether the area is being emptied, and it is by 0 alone.
func TestHead(t *testing.T) {
	room := filled(2, whole("one"), torn("two"), whole("three"))
	is := of(128-10, 1, "one", "three")
	check := func(head []uint32) {
		t.Helper()
		n, d, a := made(t, head, room)
		has(t, n, head, room)
		keeps(t, d, a, is)
	}
	check(blank())
	check(repeat(1, 64))
	check(with(repeat(0, 64), 0, 1))
	for bit := range 32 {
		check(with(blank(), 0, 1<<bit))
		check(with(repeat(0, 64), 0, 1<<bit))
		check(with(blank(), 0, ones-1<<bit))
	}
	for at := 1; at < 64; at++ {
		check(with(blank(), at, 0))
	}
	for _, head := range [][]uint32{with(blank(), 0, 0), repeat(0, 64), with(repeat(77, 64), 0, 0), with(with(blank(), 0, 0), 63, 0)} {
		n, d, a := made(t, head, room)
		has(t, n, blank(), filled(2))
		keeps(t, d, a, of(128, 0))
	}
}

// P8.1: what is being emptied is emptied by Open, whatever the room has, with a step a sector.
func TestOpenEmpties(t *testing.T) {
	for _, sectors := range []int{1, 2, 3, 7} {
		for _, room := range [][]uint32{
			filled(sectors), filled(sectors, whole("a")), repeat(0, 64*sectors), repeat(4097, 64*sectors), repeat(ones-1, 64*sectors),
			filled(sectors, torn(text(1, 4*62))), with(filled(sectors), 64*sectors-1, 5),
		} {
			n, d := flash(t, with(blank(), 0, 0), room)
			n.Arm(sectors + 1)
			a := opened(t, d)
			if left := stepsLeft(n, 5); left != 0 {
				t.Errorf("%d steps were left, not 0", left)
			}
			n.Crash(nil)
			has(t, n, blank(), filled(sectors))
			keeps(t, d, a, of(64*sectors, 0))
			appends(t, a, "first")
			keeps(t, d, a, of(64*sectors-4, 0, "first"))
			has(t, n, blank(), filled(sectors, whole("first")))
		}
	}
}

// rooms are what one may have, and what it tells.
var rooms = []struct {
	room []uint32
	is   state
}{
	{filled(1), of(64, 0)},
	{filled(5), of(320, 0)},
	{filled(17), of(1088, 0)},
	{repeat(0, 64), of(0, 0, slices.Repeat([]string{""}, 32)...)},
	{filled(1, whole("")), of(62, 0, "")},
	{filled(1, whole("a")), of(61, 0, "a")},
	{filled(1, whole("\xff")), of(61, 0, "\xff")},
	{filled(1, whole("\x00\x00\x00\x00")), of(61, 0, "\x00\x00\x00\x00")},
	{filled(1, whole("\xff\xff\xff\xff\xff\xff\xff\xff"), whole("b")), of(57, 0, "\xff\xff\xff\xff\xff\xff\xff\xff", "b")},
	{filled(1, whole("abcd")), of(61, 0, "abcd")},
	{filled(1, whole("abcde")), of(60, 0, "abcde")},
	{filled(1, with(whole("abc"), 1, 0x61626300)), of(61, 0, "abc")}, // behind the bytes there may be anything
	{filled(1, whole("a"), whole(""), whole("bcdef"), whole("a")), of(52, 0, "a", "", "bcdef", "a")},
	// Torn ones count, and are read over.
	{filled(1, torn("")), of(62, 1)},
	{filled(1, torn("abc")), of(61, 1)},
	{filled(1, ended("abc", 1)), of(61, 1)},
	{filled(1, []uint32{20, 7, 8}), of(57, 1)},
	{filled(1, []uint32{20}), of(57, 1)},
	{filled(1, whole("a"), torn("b"), whole("c")), of(55, 1, "a", "c")},
	{filled(1, torn("a"), torn("b")), of(58, 2)},
	{filled(1, torn("a"), torn("b"), whole("c"), torn("d")), of(52, 3, "c")},
	{filled(1, ended("a", 1), ended("b", 1<<31), whole("c"), ended("", 5)), of(53, 3, "c")},
	// Within a torn one nothing else is read.
	{filled(1, ended("abcd\x00\x00\x00\x01....\x00\x00\x00\x00", 9)), of(58, 1)},
	{filled(1, whole("\x00\x00\x00\x01....\x00\x00\x00\x00")), of(59, 0, "\x00\x00\x00\x01....\x00\x00\x00\x00")},
	// Full, and nearly so.
	{filled(1, whole(text(1, 248))), of(0, 0, text(1, 248))},
	{filled(1, whole(text(1, 247))), of(0, 0, text(1, 247))},
	{filled(1, whole(text(1, 245))), of(0, 0, text(1, 245))},
	{filled(1, whole(text(1, 244))), of(1, 0, text(1, 244))},
	{filled(1, whole(text(1, 240))), of(2, 0, text(1, 240))},
	{filled(1, whole(text(1, 236))), of(3, 0, text(1, 236))},
	{filled(1, torn(text(1, 248))), of(0, 1)},
	{filled(1, torn(text(1, 244))), of(1, 1)},
	{filled(1, torn(text(1, 240))), of(2, 1)},
	{filled(1, whole(text(1, 120)), whole(text(2, 120))), of(0, 0, text(1, 120), text(2, 120))},
	{filled(1, whole(text(1, 120)), torn(text(2, 120))), of(0, 1, text(1, 120))},
	{filled(2, whole(text(1, 244)), whole(""), whole(text(2, 4*61))), of(0, 0, text(1, 244), "", text(2, 4*61))}, // a record over two sectors
	{filled(17, whole(text(1, most))), of(62, 0, text(1, most))},
	{filled(17, whole(text(1, most-1))), of(62, 0, text(1, most-1))},
	{filled(17, torn(text(1, most))), of(62, 1)},
	{filled(17, whole(text(1, most)), whole(text(2, 240))), of(0, 0, text(1, most), text(2, 240))},
	{filled(33, whole(text(1, most)), whole(text(2, most))), of(60, 0, text(1, most), text(2, most))},
	// No length: spoilt.
	{filled(1, []uint32{most + 1}), of(0, 0)},
	{filled(17, []uint32{most + 1}), of(0, 0)},
	{filled(33, []uint32{most + 1}, repeat(0, 1100)), of(0, 0)},
	{filled(1, []uint32{ones - 1}), of(0, 0)},
	{filled(1, []uint32{1 << 31}), of(0, 0)},
	{filled(1, whole("a"), []uint32{most + 1}, whole("b")), of(0, 0, "a")},
	{filled(1, whole("a"), torn("b"), []uint32{1 << 16, 0, 0}), of(0, 1, "a")},
	{filled(1, torn("a"), torn("b"), []uint32{ones - 1}), of(0, 2)},
	{with(filled(1, whole(text(1, 244))), 63, most+1), of(0, 0, text(1, 244))},
	// No place: spoilt.
	{filled(1, []uint32{249}), of(0, 0)},
	{filled(1, []uint32{252}), of(0, 0)},
	{filled(1, []uint32{most}), of(0, 0)},
	{filled(16, []uint32{most}), of(0, 0)},
	{repeat(248, 64), of(0, 1)},
	{repeat(249, 64), of(0, 0)},
	{filled(1, whole("a"), []uint32{4*59 + 1}), of(0, 0, "a")},
	{filled(1, whole("a"), []uint32{4 * 59}), of(0, 1, "a")},
	{filled(1, torn("a"), []uint32{4*59 + 1, 0}), of(0, 1)},
	{with(filled(1, whole(text(1, 244))), 63, 0), of(0, 0, text(1, 244))},
	{with(filled(1, whole(text(1, 240))), 62, 1), of(0, 0, text(1, 240))},
	{with(filled(1, whole(text(1, 240))), 62, 0), of(0, 1, text(1, 240))},
	{with(filled(1, whole(text(1, 236))), 61, 5), of(0, 0, text(1, 236))},
	{with(filled(1, whole(text(1, 236))), 61, 4), of(0, 1, text(1, 236))},
	// What stands behind a word of ones is no record.
	{filled(1, []uint32{ones}, whole("a")), of(64, 0)},
	{filled(1, whole("a"), []uint32{ones}, whole("b")), of(61, 0, "a")},
	{filled(1, torn("a"), []uint32{ones, most + 1}), of(61, 1)},
}

// P8.1, Words: which records are read, how many are torn, and what is left.
func TestRead(t *testing.T) {
	for i, x := range rooms {
		for _, head := range [][]uint32{blank(), with(repeat(0, 64), 0, 3)} {
			n, d, a := made(t, head, x.room)
			if is := told(a); is.torn != x.is.torn || is.room != x.is.room || !slices.Equal(is.all, x.is.all) {
				t.Errorf("room %d: %d records, %d torn, room %d", i, len(is.all), is.torn, is.room)
			}
			keeps(t, d, a, x.is)
			has(t, n, head, x.room)
		}
	}
}

// Words: each bit of a length, and of a last word.
func TestEachBit(t *testing.T) {
	for bit := range 32 {
		w := uint32(1) << bit
		_, d, a := made(t, blank(), filled(1, ended("abc", w), whole("d")))
		keeps(t, d, a, of(58, 1, "d"))
		_, d, a = made(t, blank(), filled(1, ended("abc", ones-w), whole("d")))
		keeps(t, d, a, of(58, 1, "d"))
		_, d, a = made(t, blank(), filled(17, []uint32{w}))
		if w <= most {
			keeps(t, d, a, of(1088-wordsOf(int(w)), 1))
		} else {
			keeps(t, d, a, of(0, 0))
		}
		_, d, a = made(t, blank(), filled(17, []uint32{w | 3}))
		if w < most {
			keeps(t, d, a, of(1088-wordsOf(int(w|3)), 1))
		} else {
			keeps(t, d, a, of(0, 0))
		}
		_, d, a = made(t, blank(), filled(17, []uint32{ones - w}))
		keeps(t, d, a, of(0, 0))
	}
}

// P8.1: Room at each number of words that are left: just so many bytes may be appended, and no more.
func TestRoom(t *testing.T) {
	const all = 20 * 64
	for left := range all + 1 {
		begin := all - left // words of records ahead
		var l []uint32
		switch {
		case begin == 1:
			continue // no record is so short
		case begin > 1026:
			l = words(torn(text(1, 4*(begin-514))), torn(text(2, 4*510))) // the second one has 512
		case begin > 0:
			l = torn(text(1, 4*(begin-2)))
		}
		if len(l) != begin {
			t.Fatalf("%d words, not %d", len(l), begin)
		}
		room := filled(20, l)
		n, d, a := made(t, blank(), room)
		is := of(left, a.Torn())
		tells(t, a, is)
		if left < 2 {
			want(t, "Append of none without room", a.Append(nil), api.ErrFull)
			has(t, n, blank(), room)
			keeps(t, d, a, is)
			continue
		}
		if is.room < most {
			want(t, "Append of one byte more than the room", a.Append(make([]byte, is.room+1)), api.ErrFull)
		}
		tells(t, a, is)
		s := text(3, is.room)
		appends(t, a, s)
		has(t, n, blank(), filled(20, l, whole(s)))
		keeps(t, d, a, is.and(s, left-wordsOf(is.room)))
	}
}

// P8.2: bytes of each length there is, whatever they are: the words, how many steps of the flash they take, and what is told.
func TestAppendLengths(t *testing.T) {
	begin := whole(text(8, 5))
	for many := range most + 1 {
		if many > 300 && many < most-20 && many%61 != 0 {
			continue
		}
		for _, s := range []string{text(many, many), strings.Repeat("\xff", many), strings.Repeat("\x00", many)} {
			n, d, a := made(t, blank(), filled(17, begin))
			n.Arm(wordsOf(many))
			appends(t, a, s)
			if left := stepsLeft(n, 5); left != 0 {
				t.Fatalf("%d bytes: %d steps were left, not 0", many, left)
			}
			n.Crash(nil)
			has(t, n, blank(), filled(17, begin, whole(s)))
			keeps(t, d, a, of(1088-4-wordsOf(many), 0, text(8, 5), s))
			if a.Over() {
				t.Fatal("over")
			}
		}
	}
}

// P8.2: no bytes are none, and a record.
func TestAppendOfNone(t *testing.T) {
	for _, none := range [][]byte{nil, {}, make([]byte, 0, 9), []byte("abc")[1:1]} {
		n, d, a := made(t, blank(), filled(1, whole("a")))
		want(t, "Append", a.Append(none), api.OK)
		has(t, n, blank(), filled(1, whole("a"), whole("")))
		keeps(t, d, a, of(59, 0, "a", ""))
	}
}

// P8.2: more than MaxRecord bytes are refused, with room for them or not: nothing is written, and nothing ends.
func TestAppendTooLong(t *testing.T) {
	for i, x := range rooms {
		n, d, a := made(t, blank(), x.room)
		n.Arm(0)
		for _, many := range []int{most + 1, most + 2, most + 4, 2 * most, 1 << 20} {
			want(t, "Append of too many", a.Append(make([]byte, many)), api.ErrLong)
			keeps(t, d, a, x.is)
		}
		if a.Over() || n.Down() {
			t.Errorf("room %d: over, or something was done", i)
		}
		has(t, n, blank(), x.room)
	}
}

// P8.2: where there is no room, or it is spoilt, a record is refused: nothing is written, and nothing ends; where there is, it is written behind all others, torn ones too.
func TestAppendBehindAll(t *testing.T) {
	for i, x := range rooms {
		head := with(repeat(0, 64), 0, 5)
		n, d, a := made(t, head, x.room)
		n.Arm(0)
		for _, many := range []int{x.is.room + 1, x.is.room + 2, most} {
			if many > x.is.room && many <= most {
				want(t, "Append without room", a.Append(make([]byte, many)), api.ErrFull)
			}
		}
		keeps(t, d, a, x.is)
		if a.Over() || n.Down() {
			t.Errorf("room %d: over, or something was done", i)
		}
		has(t, n, head, x.room)
		n.Crash(nil)
		empties(t, a)
		keeps(t, d, a, of(len(x.room), 0))
		has(t, n, blank(), repeat(ones, len(x.room)))
		appends(t, a, "new")
		keeps(t, d, a, of(len(x.room)-3, 0, "new"))
	}
	for _, x := range []struct {
		ahead []uint32
		is    state
	}{
		{nil, of(128-3, 0, "new")},
		{whole("a"), of(128-6, 0, "a", "new")},
		{torn("a"), of(128-6, 1, "new")},
		{words(torn("a"), torn("")), of(128-8, 2, "new")},
		{words(whole("a"), torn("b")), of(128-9, 1, "a", "new")},
		{words(torn("a"), whole("b")), of(128-9, 1, "b", "new")},
		{[]uint32{200, 1, 2}, of(128-55, 1, "new")},
		{torn(text(1, 4*60)), of(128-65, 1, "new")},
		{whole(text(1, 4*61)), of(128-66, 0, text(1, 4*61), "new")},
	} {
		n, d, a := made(t, blank(), filled(2, x.ahead))
		appends(t, a, "new")
		keeps(t, d, a, x.is)
		room := filled(2, x.ahead)
		at := 128 - (x.is.room/4 + 2) - 3
		copy(room[at:], whole("new"))
		has(t, n, blank(), room)
		appends(t, a, "newer")
		keeps(t, d, a, x.is.and("newer", x.is.room/4+2-4))
	}
}

// P8.2: records till there is no room left, of many lengths; one that is opened anew goes on.
func TestLong(t *testing.T) {
	for _, sectors := range []int{1, 2, 40} {
		n, d, a := made(t, blank(), filled(sectors))
		for range 3 {
			room := filled(sectors)
			is := of(64*sectors, 0)
			at := 0
			for i := 0; ; i++ {
				if i%7 == 5 {
					a = opened(t, d)
				}
				s := text(i, (i*i*7)%(60*sectors))
				if len(s) > is.room {
					want(t, "Append without room", a.Append([]byte(s)), api.ErrFull)
					break
				}
				appends(t, a, s)
				copy(room[at:], whole(s))
				at += wordsOf(len(s))
				is = is.and(s, 64*sectors-at)
				has(t, n, blank(), room)
				keeps(t, d, a, is)
			}
			if len(is.all) < 3 {
				t.Errorf("%d records", len(is.all))
			}
			empties(t, a)
			keeps(t, d, a, of(64*sectors, 0))
		}
	}
}

// P8.2: behind all others there may be words that are no ones, past a word of ones: what would set a bit is refused by the drive, and the area is over; nothing is written.
func TestAppendOnWords(t *testing.T) {
	for _, x := range []struct {
		behind []uint32
		s      string
		e      api.Errno
	}{
		{[]uint32{ones, 0}, "a", api.ErrSet},
		{[]uint32{ones, ones - 1}, "a", api.ErrSet},
		{[]uint32{ones, 0x61FFFFFF}, "a", api.OK},
		{[]uint32{ones, 0x61FFFFFF, 0}, "a", api.OK},
		{[]uint32{ones, 0x63FFFFFF, 0}, "a", api.OK},
		{[]uint32{ones, 0x60FFFFFF, 0}, "a", api.ErrSet},
		{[]uint32{ones, 0, 0, 0}, "", api.OK},
		{[]uint32{ones, ones, ones, 0}, "a", api.OK},
		{[]uint32{ones, ones, ones, 0}, "abcde", api.OK},
		{[]uint32{ones, ones, ones, 0}, "abcdefghi", api.ErrSet},
		{[]uint32{ones, 0}, "\x00\x00\x00\x00", api.OK},
	} {
		room := filled(1, whole("first"), x.behind)
		n, d, a := made(t, blank(), room)
		is := of(60, 0, "first")
		tells(t, a, is)
		want(t, "Append", a.Append([]byte(x.s)), x.e)
		if x.e == api.OK {
			tells(t, a, is.and(x.s, 60-wordsOf(len(x.s))))
			has(t, n, blank(), filled(1, whole("first"), whole(x.s), x.behind[min(wordsOf(len(x.s)), len(x.behind)):]))
			continue
		}
		has(t, n, blank(), room)
		tells(t, a, is)
		isOver(t, n, a)
		n.Crash(nil)
		keeps(t, d, a, is)
	}
}

// P8.3: of whatever is there, with a step for the head's word and one a sector.
func TestEmpty(t *testing.T) {
	for i, x := range rooms {
		for _, head := range [][]uint32{blank(), repeat(9, 64), with(repeat(0, 64), 0, 1<<31)} {
			n, d, a := made(t, head, x.room)
			n.Arm(1 + 1 + len(x.room)/64)
			empties(t, a)
			if left := stepsLeft(n, 5); left != 0 {
				t.Errorf("room %d: %d steps were left, not 0", i, left)
			}
			n.Crash(nil)
			is := of(len(x.room), 0)
			has(t, n, blank(), repeat(ones, len(x.room)))
			keeps(t, d, a, is)
			if a.Over() {
				t.Fatal("over")
			}
			appends(t, a, "new")
			keeps(t, d, a, is.and("new", len(x.room)-3))
			has(t, n, blank(), filled(len(x.room)/64, whole("new")))
			empties(t, a)
			empties(t, a)
			keeps(t, d, a, is)
		}
	}
}

// isOver tells that an area is: nothing does anything any more, with power or without.
func isOver(t *testing.T, n *nor.Nor, a *area.Area) {
	t.Helper()
	if !a.Over() {
		t.Fatal("not over")
	}
	if !n.Down() {
		n.Arm(0)
	}
	down := n.Down()
	for _, many := range []int{0, 3, most, most + 1} {
		want(t, "Append to one that is over", a.Append(make([]byte, many)), api.ErrEnded)
	}
	want(t, "Empty of one that is over", a.Empty(), api.ErrEnded)
	if n.Down() != down || !a.Over() {
		t.Fatal("one that is over does something")
	}
}

// erasedBy is a sector of which these words are erased.
func erasedBy(l []uint32, erased []bool) []uint32 {
	told := slices.Clone(l)
	for i := range told {
		if i < len(erased) && erased[i] {
			told[i] = ones
		}
	}
	return told
}

// choices are which words are erased of what was half erased: all sixteen of the first three and the last one, with none, all, each one alone, all but one, a beginning and an end of the others; and some of chance.
func choices(chance *rand.Rand) [][]bool {
	var l [][]bool
	add := func(erased func(i int) bool) {
		for some := range 16 {
			k := make([]bool, 64)
			for i := range k {
				k[i] = erased(i)
			}
			k[0], k[1], k[2], k[63] = some&1 != 0, some&2 != 0, some&4 != 0, some&8 != 0
			l = append(l, k)
		}
	}
	for at := 3; at <= 63; at++ {
		add(func(i int) bool { return i == at })
		add(func(i int) bool { return i != at })
		add(func(i int) bool { return i < at })
		add(func(i int) bool { return i >= at })
		add(func(i int) bool { return chance.Intn(2) == 0 })
	}
	return append(l, nil, []bool{true}, []bool{false, true}, slices.Repeat([]bool{true}, 100))
}

// someChoices are each seventh one.
func someChoices(chance *rand.Rand) [][]bool {
	var l [][]bool
	for i, k := range choices(chance) {
		if i%7 == 0 {
			l = append(l, k)
		}
	}
	return append(l, nil, slices.Repeat([]bool{true}, 64))
}

// left is how many words of a room of so many are behind all records of that state, by its Room.
func left(s state, all int) int {
	for words := range all + 1 {
		if of(words, 0).room == s.room && s.room < most {
			return words
		}
	}
	return 0
}

// goesOn tells that a new area has that, appends, and empties.
func goesOn(t *testing.T, d *drive.Drive, is state) {
	t.Helper()
	next := opened(t, d)
	tells(t, next, is)
	all := d.Size() - 64
	if is.room >= 7 {
		appends(t, next, "goes on")
		tells(t, next, is.and("goes on", left(is, all)-4))
		keeps(t, d, next, is.and("goes on", left(is, all)-4))
	}
	empties(t, next)
	keeps(t, d, next, of(all, 0))
}

// aheads are what a record may be appended behind.
var aheads = []struct {
	l  []uint32
	is state
}{
	{nil, of(192, 0)},
	{whole("a"), of(189, 0, "a")},
	{torn("a"), of(189, 1)},
	{words(whole("abcde"), torn("f"), whole("")), of(192-9, 1, "abcde", "")},
	{whole(text(1, 4*61)), of(129, 0, text(1, 4*61))},
	{whole(text(1, 4*60)), of(130, 0, text(1, 4*60))},
	{words(torn(text(1, 4*60)), whole("b")), of(127, 1, "b")},
}

// P8.2, P8.4: the power fails at each step of an Append: the records are those that were there, and behind the last step the new one, whole; till then it is torn, or not there at all.
func TestAppendFailsAtEachStep(t *testing.T) {
	for i, x := range aheads {
		begin := len(x.l)
		for _, s := range []string{"", "a", "abcd", "abcdef", "\xff\xff\xff\xff", "\x00\x00\x00\x00\x00", text(2, 100), text(3, 4*64), text(4, x.is.room)} {
			for done := range wordsOf(len(s)) + 1 {
				head := with(repeat(0, 64), 0, 3)
				n, d, a := made(t, head, filled(3, x.l))
				is, new := x.is, x.is
				n.Arm(done)
				e := a.Append([]byte(s))
				switch {
				case done == wordsOf(len(s)):
					want(t, "Append with the steps it takes", e, api.OK)
					is = x.is.and(s, 192-begin-wordsOf(len(s)))
					new = is
				case done == 0:
					want(t, "Append without a step", e, api.ErrDown)
				default:
					want(t, "Append with less steps than it takes", e, api.ErrDown)
					new = of(192-begin-wordsOf(len(s)), x.is.torn+1, x.is.all...)
				}
				if a.Over() != (e != api.OK) {
					t.Fatalf("%d: %d, over: %v", i, e, a.Over())
				}
				tells(t, a, is)
				if e != api.OK {
					isOver(t, n, a)
				}
				n.Crash(slices.Repeat([]bool{true}, 64))
				has(t, n, head, filled(3, x.l, whole(s)[:done]))
				tells(t, a, is)
				goesOn(t, d, new)
			}
		}
	}
}

// emptied are heads and rooms that are emptied: of two sectors, three, more.
var emptied = []struct{ head, room []uint32 }{
	{blank(), filled(1, whole("abc"), whole(""), torn("d"))},
	{blank(), filled(1)},
	{blank(), repeat(0, 64)},
	{with(repeat(0, 64), 0, 77), filled(2, whole(text(1, 4*61)), whole("b"), whole(text(2, 90)))},
	{repeat(5, 64), filled(3, whole(text(1, 300)), torn("x"), whole(text(2, 300)))},
	{with(blank(), 63, 0), filled(3, []uint32{most + 1}, repeat(0x0F0F0F0F, 150))},
	{with(blank(), 1, 0), filled(1, repeat(249, 64))},
}

// reopened tells that a new area of what is being emptied has nothing, and that its words are erased.
func reopened(t *testing.T, n *nor.Nor, d *drive.Drive, sectors int) {
	t.Helper()
	a := opened(t, d)
	has(t, n, blank(), filled(sectors))
	keeps(t, d, a, of(64*sectors, 0))
	goesOn(t, d, of(64*sectors, 0))
}

// P8.3, P8.4: the power fails at each step of an Empty, with many choices of the words that are erased of what was half erased: all records are there till the head's word is written, and none behind that.
func TestEmptyFailsAtEachStep(t *testing.T) {
	all := someChoices(rand.New(rand.NewSource(81)))
	for i, x := range emptied {
		sectors := len(x.room) / 64
		for _, k := range all {
			for done := range 1 + sectors + 1 {
				n, d, a := made(t, x.head, x.room)
				is := told(a)
				n.Arm(done)
				want(t, "Empty with less steps than it takes", a.Empty(), api.ErrDown)
				if !n.Down() {
					t.Fatalf("%d: not down", i)
				}
				tells(t, a, is)
				isOver(t, n, a)
				n.Crash(k)
				tells(t, a, is)
				if done == 0 {
					has(t, n, x.head, x.room)
					goesOn(t, d, is)
					continue
				}
				head, room := with(x.head, 0, 0), slices.Clone(x.room)
				copy(room, repeat(ones, 64*(done-1)))
				if at := 64 * (done - 1); at < len(room) {
					copy(room[at:at+64], erasedBy(room[at:at+64], k))
				} else {
					head = erasedBy(head, k)
				}
				has(t, n, head, room)
				if head[0] != 0 { // then nothing is left to be done
					a := opened(t, d)
					has(t, n, head, room)
					tells(t, a, of(64*sectors, 0))
					goesOn(t, d, of(64*sectors, 0))
					continue
				}
				reopened(t, n, d, sectors)
				isOver(t, n, a)
			}
		}
	}
}

// P8.4: of a short room, and of a head, each choice there is: words of ones stay so.
func TestEmptyFailsEachChoice(t *testing.T) {
	head := with(with(blank(), 1, 0), 63, 8)
	room := filled(2, whole("abcde"), torn("f"))
	copy(room[64:], words(whole("g"), torn("h"), []uint32{4097}))
	for done, places := range [][]int{1: {0, 1, 2, 3, 4, 5}, 2: {0, 1, 2, 3, 4, 6}, 3: {0, 1, 63}} {
		if done == 0 {
			continue
		}
		for some := range 1 << len(places) {
			k := make([]bool, 64)
			for i, at := range places {
				k[at] = some>>i&1 != 0
			}
			n, d, a := made(t, head, room)
			n.Arm(done)
			want(t, "Empty with less steps than it takes", a.Empty(), api.ErrDown)
			n.Crash(k)
			if done == 3 && k[0] {
				has(t, n, erasedBy(head, k), filled(2))
				goesOn(t, d, of(128, 0))
				continue
			}
			reopened(t, n, d, 2)
		}
	}
}

// P8.1, P8.4: the power fails at each step of an Open that empties; the next one begins anew.
func TestOpenFailsAtEachStep(t *testing.T) {
	all := someChoices(rand.New(rand.NewSource(82)))
	for _, x := range emptied {
		sectors := len(x.room) / 64
		for _, k := range all {
			for done := range sectors + 1 {
				n, d := flash(t, with(x.head, 0, 0), x.room)
				n.Arm(done)
				if a, e := area.Open(d); a != nil || e != api.ErrDown {
					t.Fatalf("Open with less steps than it takes: %v %d", a, e)
				}
				if !n.Down() {
					t.Fatal("not down")
				}
				if a, e := area.Open(d); a != nil || e != api.ErrDown {
					t.Fatalf("Open, down: %v %d", a, e)
				}
				n.Crash(k)
				head, room := with(x.head, 0, 0), slices.Clone(x.room)
				copy(room, repeat(ones, 64*done))
				if at := 64 * done; at < len(room) {
					copy(room[at:at+64], erasedBy(room[at:at+64], k))
				} else {
					head = erasedBy(head, k)
				}
				has(t, n, head, room)
				if head[0] != 0 {
					goesOn(t, d, of(64*sectors, 0))
					continue
				}
				n.Arm(sectors + 1)
				a := opened(t, d)
				if left := stepsLeft(n, 5); left != 0 {
					t.Fatalf("%d steps were left, not 0", left)
				}
				n.Crash(nil)
				tells(t, a, of(64*sectors, 0))
				reopened(t, n, d, sectors)
			}
		}
	}
}

// P8.4: crash upon crash in the same emptying, begun by Empty, gone on with by Open, at steps and with words of chance: none of the records is there when one ends.
func TestEmptyingFailsAgainAndAgain(t *testing.T) {
	chance := rand.New(rand.NewSource(83))
	all := choices(chance)
	for _, x := range emptied {
		sectors := len(x.room) / 64
		for range 60 {
			n, d, a := made(t, x.head, x.room)
			n.Arm(1 + chance.Intn(sectors+1))
			want(t, "Empty with less steps than it takes", a.Empty(), api.ErrDown)
			ended := false
			for range 8 {
				n.Crash(all[chance.Intn(len(all))])
				n.Arm(chance.Intn(sectors + 1))
				a, e := area.Open(d)
				if e == api.OK {
					// The head was erased: nothing was left to be done.
					tells(t, a, of(64*sectors, 0))
					ended = true
					break
				}
				if a != nil || e != api.ErrDown {
					t.Fatalf("Open: %d", e)
				}
			}
			n.Crash(nil)
			if ended {
				goesOn(t, d, of(64*sectors, 0))
				continue
			}
			next := opened(t, d)
			tells(t, next, of(64*sectors, 0))
			goesOn(t, d, of(64*sectors, 0))
		}
	}
}

// P8.4: torn record upon torn record: each one takes its place, all that are whole stay.
func TestAppendFailsAgainAndAgain(t *testing.T) {
	chance := rand.New(rand.NewSource(84))
	all := choices(chance)
	for _, x := range aheads {
		n, d, a := made(t, blank(), filled(3, x.l))
		is, words := x.is, 192-len(x.l)
		for i := 0; is.room >= 30; i++ {
			s := text(i, chance.Intn(31))
			steps := chance.Intn(wordsOf(len(s)))
			n.Arm(steps)
			want(t, "Append with less steps than it takes", a.Append([]byte(s)), api.ErrDown)
			tells(t, a, is)
			n.Crash(all[chance.Intn(len(all))])
			if steps > 0 {
				words -= wordsOf(len(s))
				is = of(words, is.torn+1, is.all...)
			}
			a = opened(t, d)
			tells(t, a, is)
			if i%3 == 0 && is.room >= 4 {
				appends(t, a, "kept")
				words -= 3
				is = is.and("kept", words)
				keeps(t, d, a, is)
			}
		}
		goesOn(t, d, is)
	}
}

// P8.4: a life of crashes of chance: the records are those whose Append was OK since the last emptying, and perhaps the last one, whole, or not there.
func TestLifeOfCrashes(t *testing.T) {
	chance := rand.New(rand.NewSource(85))
	all := choices(chance)
	for life := range 40 {
		sectors := 1 + life%4
		n, d, a := made(t, blank(), filled(sectors))
		var is []string
		for i := range 300 {
			many := chance.Intn(60)
			if chance.Intn(3) == 0 {
				n.Arm(chance.Intn(wordsOf(many) + 3))
			}
			emptying := chance.Intn(20) == 0 || a.Room() < many
			e := api.OK
			if emptying {
				e = a.Empty()
			} else {
				e = a.Append([]byte(text(i, many)))
			}
			if e == api.OK && emptying {
				is = nil
			} else if e == api.OK {
				is = append(is, text(i, many))
			}
			if e != api.OK && e != api.ErrDown || a.Over() != (e != api.OK) {
				t.Fatalf("%d, over: %v", e, a.Over())
			}
			if got := told(a).all; !slices.Equal(got, is) {
				t.Fatalf("%d records, not %d", len(got), len(is))
			}
			if !n.Down() && chance.Intn(9) != 0 {
				continue
			}
			down := n.Down()
			n.Crash(all[chance.Intn(len(all))])
			if chance.Intn(3) == 0 {
				n.Arm(chance.Intn(sectors + 1))
			}
			for {
				next, e := area.Open(d)
				if e == api.OK {
					a = next
					break
				}
				want(t, "Open", e, api.ErrDown)
				n.Crash(all[chance.Intn(len(all))])
			}
			got := told(a).all
			if down && emptying && len(got) == 0 {
				is = nil
			}
			if !slices.Equal(got, is) {
				t.Fatalf("%d records, not %d", len(got), len(is))
			}
		}
	}
}

// P8.2, P8.3: what one that is over tells is what was there ahead of the call that failed, whatever is done, or written, since.
func TestOverTellsWhatWasThere(t *testing.T) {
	for _, emptying := range []bool{false, true} {
		for done := range 3 {
			room := filled(1, whole("one"), torn("two"), whole("three"))
			n, d, a := made(t, blank(), room)
			is := of(64-10, 1, "one", "three")
			tells(t, a, is)
			n.Arm(done)
			if emptying {
				want(t, "Empty with less steps than it takes", a.Empty(), api.ErrDown)
			} else {
				want(t, "Append with less steps than it takes", a.Append([]byte("abcd")), api.ErrDown)
			}
			tells(t, a, is)
			n.Crash(nil)
			tells(t, a, is)
			next := opened(t, d)
			tells(t, a, is)
			for i := range 3 {
				appends(t, next, text(i, 9))
				tells(t, a, is)
			}
			empties(t, next)
			tells(t, a, is)
			want(t, "Rewrite", n.Rewrite(2, 0, repeat(0, 64)), api.OK)
			tells(t, a, is)
			isOver(t, n, a)
		}
	}
}

// P8.1: without power the records are told, and nothing ends by it.
func TestAskedWhileDown(t *testing.T) {
	for _, x := range rooms {
		n, d, a := made(t, blank(), x.room)
		fail(t, n)
		tells(t, a, x.is)
		if a.Over() {
			t.Error("over")
		}
		n.Crash(nil)
		keeps(t, d, a, x.is)
		words := left(x.is, len(x.room))
		if words < 3 || slices.ContainsFunc(x.room[len(x.room)-words:], func(w uint32) bool { return w != ones }) {
			continue
		}
		appends(t, a, "next")
		is := x.is.and("next", words-3)
		fail(t, n)
		tells(t, a, is)
		n.Crash(nil)
		keeps(t, d, a, is)
	}
}

// P8.2, P8.3: a flash that is down at Append, and at Empty: over, and nothing is written, nor half erased.
func TestCallsWhileDown(t *testing.T) {
	for _, x := range rooms {
		for _, emptying := range []bool{false, true} {
			n, d, a := made(t, blank(), x.room)
			fail(t, n)
			switch {
			case emptying:
				want(t, "Empty, down", a.Empty(), api.ErrDown)
			case x.is.room >= 0:
				want(t, "Append, down", a.Append(make([]byte, x.is.room)), api.ErrDown)
			default:
				want(t, "Append, full, down", a.Append(nil), api.ErrFull)
				if a.Over() {
					t.Fatal("over behind ErrFull")
				}
				want(t, "Empty, down", a.Empty(), api.ErrDown)
			}
			tells(t, a, x.is)
			isOver(t, n, a)
			n.Crash(slices.Repeat([]bool{true}, 64))
			has(t, n, blank(), x.room)
			keeps(t, d, a, x.is)
			isOver(t, n, a)
		}
	}
}

// Errors: ErrNil, ErrEnded, ErrLong, ErrFull, the drive's, in this order; ErrLong and ErrFull end nothing.
func TestOrderOfErrors(t *testing.T) {
	long := make([]byte, most+1)
	for _, room := range [][]uint32{filled(1, whole(text(1, 240))), filled(1, []uint32{4097})} {
		n, _, a := made(t, blank(), room)
		want(t, "Append of too many, full", a.Append(long), api.ErrLong)
		want(t, "Append, full", a.Append(long[:1]), api.ErrFull)
		fail(t, n)
		want(t, "Append of too many, full, down", a.Append(long), api.ErrLong)
		want(t, "Append of most, full, down", a.Append(long[:most]), api.ErrFull)
		want(t, "Append, full, down", a.Append(long[:1]), api.ErrFull)
		if a.Over() {
			t.Error("over behind ErrLong, or ErrFull")
		}
		want(t, "Empty, down", a.Empty(), api.ErrDown)
		want(t, "Append to one that is over, of too many, full, down", a.Append(long), api.ErrEnded)
		want(t, "Append to one that is over, full, down", a.Append(long[:1]), api.ErrEnded)
		want(t, "Empty of one that is over, down", a.Empty(), api.ErrEnded)
		n.Crash(nil)
		want(t, "Append to one that is over, of too many, full", a.Append(long), api.ErrEnded)
		want(t, "Empty of one that is over", a.Empty(), api.ErrEnded)
		fail(t, n)
		copied := *a
		want(t, "Append to none, that is over, of too many, full, down", copied.Append(long), api.ErrNil)
		want(t, "Empty of none, that is over, down", copied.Empty(), api.ErrNil)
	}
	n, _, a := made(t, blank(), filled(1, []uint32{ones, 0}))
	want(t, "Append of too many, on words", a.Append(long), api.ErrLong)
	want(t, "Append without room, on words", a.Append(long[:249]), api.ErrFull)
	fail(t, n)
	want(t, "Append of too many, on words, down", a.Append(long), api.ErrLong)
	want(t, "Append on words, down", a.Append([]byte("a")), api.ErrDown)
	want(t, "Append to one that is over", a.Append(nil), api.ErrEnded)
}

// P8.1: what another hand has written is read when the area is opened; till then the records are those that were.
func TestAnotherHand(t *testing.T) {
	n, d, a := made(t, blank(), filled(2, whole("one"), whole("two")))
	rewrite := func(sector, at int, l ...uint32) {
		t.Helper()
		want(t, "Rewrite", n.Rewrite(1+sector, at, l), api.OK)
	}
	is := of(128-6, 0, "one", "two")
	rewrite(1, 2, 1) // the first one is torn
	tells(t, a, is)
	appends(t, a, "three")
	is = is.and("three", 128-10)
	tells(t, a, is)
	a = opened(t, d)
	is = of(128-10, 1, "two", "three")
	tells(t, a, is)
	rewrite(1, 3, 4097) // spoilt
	tells(t, a, is)
	a = opened(t, d)
	tells(t, a, of(0, 1))
	want(t, "Append, spoilt", a.Append(nil), api.ErrFull)
	rewrite(1, 3, 3) // mended
	tells(t, a, of(0, 1))
	want(t, "Append, spoilt", a.Append(nil), api.ErrFull)
	a = opened(t, d)
	tells(t, a, is)
	rewrite(1, 10, 20, 0) // where the next record comes
	tells(t, a, is)
	want(t, "Append on words", a.Append([]byte("abc")), api.ErrSet)
	tells(t, a, is)
	a = opened(t, d)
	is = of(128-17, 2, "two", "three")
	tells(t, a, is)
	rewrite(0, 0, 0) // being emptied
	tells(t, a, is)
	appends(t, a, "four")
	tells(t, a, is.and("four", 128-20))
	a = opened(t, d)
	tells(t, a, of(128, 0))
	has(t, n, blank(), filled(2))
	rewrite(1, 0, whole("theirs")...)
	rewrite(2, 0, repeat(0, 64)...)
	a = opened(t, d)
	tells(t, a, of(124, 0, "theirs"))
	empties(t, a)
	has(t, n, blank(), filled(2))
	fail(t, n)
	rewrite(1, 0, whole("down")...)
	tells(t, a, of(128, 0))
	n.Crash(nil)
	tells(t, opened(t, d), of(125, 0, "down"))
}

// P8.3: whatever another hand writes meanwhile, an Empty takes all of it.
func TestEmptyTakesAll(t *testing.T) {
	n, d, a := made(t, blank(), filled(2, whole("one")))
	want(t, "Rewrite", n.Rewrite(1, 0, repeat(0, 64)), api.OK)
	want(t, "Rewrite", n.Rewrite(2, 30, repeat(5, 9)), api.OK)
	want(t, "Rewrite", n.Rewrite(3, 60, repeat(0, 4)), api.OK)
	empties(t, a)
	has(t, n, blank(), filled(2))
	keeps(t, d, a, of(128, 0))
}

// P8.1: areas of unlike drives of one flash do not meet.
func TestTwoAreas(t *testing.T) {
	n, _ := nor.New(5, 2)
	one, _ := drive.Open(n, 0, 2)
	two, _ := drive.Open(n, 2, 3)
	a, b := opened(t, one), opened(t, two)
	for i := range 5 {
		appends(t, a, text(i, 10))
		appends(t, b, text(i, 20))
	}
	if got := a.All(); len(got) != 5 || string(got[4]) != text(4, 10) {
		t.Errorf("%q", got)
	}
	empties(t, a)
	keeps(t, one, a, of(64, 0))
	tells(t, b, of(128-35, 0, text(0, 20), text(1, 20), text(2, 20), text(3, 20), text(4, 20)))
	keeps(t, two, b, told(b))
	fail(t, n)
	want(t, "Append, down", a.Append(nil), api.ErrDown)
	n.Crash(nil)
	if !a.Over() || b.Over() {
		t.Error("over: not the one alone")
	}
	appends(t, b, "goes on")
}

// R3: what is appended is neither changed nor kept, its spare room neither.
func TestAppendKeepsNothing(t *testing.T) {
	for _, many := range []int{0, 1, 3, 4, 5, 200, most} {
		space := stdbytes.Repeat([]byte{'x'}, most+8)
		copy(space[4:], text(3, many))
		before := slices.Clone(space)
		_, d, a := made(t, blank(), filled(17))
		want(t, "Append", a.Append(space[4:4+many]), api.OK)
		if !slices.Equal(space, before) {
			t.Error("what was handed in is changed")
		}
		clear(space)
		keeps(t, d, a, of(1088-wordsOf(many), 0, text(3, many)))
	}
}

// R3: what is told may be changed, also of what was appended, and of one that is over.
func TestAllIsItsOwn(t *testing.T) {
	n, _, a := made(t, blank(), filled(2, whole("one"), whole(text(3, 40))))
	is := of(128-15, 0, "one", text(3, 40))
	appends(t, a, "")
	appends(t, a, text(4, 50))
	is = is.and("", 0).and(text(4, 50), 128-15-2-15)
	spoil := func() {
		t.Helper()
		one, two := a.All(), a.All()
		for i := range one {
			clear(one[i][:cap(one[i])])
			_ = append(one[i], "overwritten"...)
		}
		for i, b := range is.all {
			if string(two[i]) != b {
				t.Fatal("two answers share memory")
			}
		}
		clear(one[:cap(one)])
		_ = append(one[:1], []byte("another one"))
		tells(t, a, is)
	}
	spoil()
	fail(t, n)
	spoil()
	want(t, "Append, down", a.Append([]byte("no")), api.ErrDown)
	spoil()
	n.Crash(nil)
	spoil()
	_, d, b := made(t, blank(), blank())
	appends(t, b, text(9, 40))
	clear(b.All()[0])
	keeps(t, d, b, of(52, 0, text(9, 40)))
	appends(t, b, "next")
	keeps(t, d, b, of(49, 0, text(9, 40), "next"))
}

// R5: areas that Open did not answer; nothing is done by them.
func TestNoArea(t *testing.T) {
	room := filled(1, whole("one"), torn("two"))
	n, _, a := made(t, blank(), room)
	copied := *a
	var never area.Area
	m, _, ended := made(t, blank(), room)
	fail(t, m)
	want(t, "Append, down", ended.Append(nil), api.ErrDown)
	over := *ended
	for _, down := range []bool{false, true} {
		if down {
			fail(t, n)
		} else {
			n.Arm(0)
		}
		for i, x := range []*area.Area{nil, {}, &never, &copied, &over} {
			for _, many := range []int{0, 3, most + 1} {
				want(t, "Append to none", x.Append(make([]byte, many)), api.ErrNil)
			}
			want(t, "Empty of none", x.Empty(), api.ErrNil)
			if x.Over() {
				t.Errorf("none (%d): over", i)
			}
			tells(t, x, state{room: none})
		}
		if n.Down() != down {
			t.Fatal("something was done")
		}
	}
	n.Crash(slices.Repeat([]bool{true}, 64))
	has(t, n, blank(), room)
	appends(t, a, "three")
}

// R1, R5: a drive, or a flash, that is none any more has an error of its own.
func TestDriveThatIsGone(t *testing.T) {
	for _, emptying := range []bool{false, true} {
		for _, flashIsGone := range []bool{false, true} {
			n, d, a := made(t, blank(), filled(1, whole("one")))
			if flashIsGone {
				*n = nor.Nor{}
			} else {
				*d = drive.Drive{}
			}
			if x, e := area.Open(d); x != nil || e != api.ErrNil {
				t.Errorf("Open: %v %d", x, e)
			}
			is := of(61, 0, "one")
			tells(t, a, is)
			if a.Over() {
				t.Error("over")
			}
			if emptying {
				want(t, "Empty", a.Empty(), api.ErrNil)
			} else {
				want(t, "Append", a.Append([]byte("two")), api.ErrNil)
			}
			want(t, "Append once more", a.Append(nil), api.ErrEnded)
			want(t, "Empty once more", a.Empty(), api.ErrEnded)
			tells(t, a, is)
			if !a.Over() {
				t.Error("not over")
			}
		}
	}
}

// P8.2, P8.3: protected sectors are no other ones to an area.
func TestProtected(t *testing.T) {
	n, _ := nor.New(3, 3)
	d, _ := drive.Open(n, 0, 3)
	a := opened(t, d)
	for i := range 3 {
		appends(t, a, text(i, 100))
		keeps(t, d, a, of(128-27, 0, text(i, 100)))
		empties(t, a)
		keeps(t, d, a, of(128, 0))
	}
}

// model is the chapter's words, written out a second time, of a drive.
type model struct{ head, room []uint32 }

// tells is what the room has, and the word behind all records; below 0: none.
func (m *model) tells() (state, int) {
	var s state
	s.room = -1
	at := 0
	for at < len(m.room) && m.room[at] != ones {
		many := uint64(m.room[at])
		end := uint64(at) + 1 + many/4
		if many%4 != 0 {
			end++
		}
		if many > 4096 || end >= uint64(len(m.room)) {
			return s, -1
		}
		if m.room[end] == 0 {
			var b []byte
			for _, w := range m.room[at+1 : end] {
				b = append(b, byte(w/(1<<24)), byte(w/(1<<16)%256), byte(w/(1<<8)%256), byte(w%256))
			}
			s.all = append(s.all, string(b[:many]))
		} else {
			s.torn++
		}
		at = int(end) + 1
	}
	for many := range 4097 {
		if at+2+(many+3)/4 <= len(m.room) {
			s.room = many
		}
	}
	return s, at
}

// append does an Append with power.
func (m *model) append(s string) api.Errno {
	if len(s) > 4096 {
		return api.ErrLong
	}
	_, at := m.tells()
	l := whole(s)
	if at < 0 || at+len(l) > len(m.room) {
		return api.ErrFull
	}
	for i, w := range l {
		if m.room[at+i]|w != m.room[at+i] {
			return api.ErrSet
		}
	}
	copy(m.room[at:], l)
	return api.OK
}

// open does what an Open does with power.
func (m *model) open() {
	if m.head[0] == 0 {
		m.empty()
	}
}

// empty does an Empty with power.
func (m *model) empty() {
	m.head, m.room = blank(), repeat(ones, len(m.room))
}

// someRoom is one of chance, mostly with records.
func someRoom(chance *rand.Rand, sectors int) []uint32 {
	room := filled(sectors)
	for at := 0; at < len(room) && chance.Intn(12) != 0; {
		l := whole(text(chance.Intn(99), chance.Intn(1+chance.Intn(100))))
		switch chance.Intn(12) {
		case 0:
			l[len(l)-1] = 1 << chance.Intn(32)
		case 1:
			l[chance.Intn(len(l))] = chance.Uint32()
		case 2:
			l[0] = uint32(4*(len(room)-at-2) - 2 + chance.Intn(5))
		case 3:
			l = l[:1+chance.Intn(len(l))]
		case 4:
			l[0] = uint32(chance.Intn(5000))
		case 5:
			l = repeat(ones, 1)
		}
		at += copy(room[at:], l)
	}
	return room
}

// P8.1 to P8.3: words of chance against the model, call by call; nothing is read, or written, past the room.
func TestAgainstModel(t *testing.T) {
	chance := rand.New(rand.NewSource(86))
	for i := range 3000 {
		sectors := 1 + i%3
		m := model{head: blank(), room: someRoom(chance, sectors)}
		switch chance.Intn(6) {
		case 0:
			m.head[0] = 0
		case 1:
			m.head[chance.Intn(64)] = chance.Uint32() & 3
		}
		n, d := flash(t, m.head, m.room)
		a := opened(t, d)
		m.open()
		for range 8 {
			has(t, n, m.head, m.room)
			is, at := m.tells()
			keeps(t, d, a, is)
			s := text(chance.Intn(99), chance.Intn(1+chance.Intn(120)))
			if chance.Intn(4) == 0 && is.room >= 0 {
				s = text(1, is.room+chance.Intn(2))
			}
			if chance.Intn(9) == 0 {
				m.empty()
				want(t, "Empty", a.Empty(), api.OK)
			} else if e, got := m.append(s), a.Append([]byte(s)); got != e {
				t.Fatalf("Append of %d bytes: %d, not %d", len(s), got, e)
			} else if a.Over() != (e == api.ErrSet) {
				t.Fatalf("Append: %d, over: %v", e, a.Over())
			} else if e == api.OK {
				end := at + wordsOf(len(s))
				tells(t, a, is.and(s, len(m.room)-end))
				if slices.ContainsFunc(m.room[end:], func(w uint32) bool { return w != ones }) {
					a = opened(t, d) // what is behind a word of ones is read then
				}
			} else if e == api.ErrSet {
				tells(t, a, is)
				a = opened(t, d)
			}
			if chance.Intn(5) == 0 {
				at, w := chance.Intn(len(m.room)), chance.Uint32()>>chance.Intn(33)
				m.room[at] = w
				want(t, "Rewrite", n.Rewrite(2+at/64, at%64, []uint32{w}), api.OK)
				a = opened(t, d)
			}
		}
	}
}
