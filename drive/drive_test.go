package drive_test

import (
	"math"
	"math/rand"
	"slices"
	"testing"

	"blockhouse/api"
	"blockhouse/drive"
	"blockhouse/nor"
)

const ones = math.MaxUint32

func want(t *testing.T, what string, got, want api.Errno) {
	t.Helper()
	if got != want {
		t.Errorf("%s: error %d, not %d", what, got, want)
	}
}

// flash is one of so many sectors; the first guard of them are protected.
func flash(t *testing.T, sectors, guard int) *nor.Nor {
	t.Helper()
	n, e := nor.New(sectors, guard)
	if e != api.OK {
		t.Fatalf("New(%d, %d): %d", sectors, guard, e)
	}
	return n
}

// mark is what filled has at a place.
func mark(sector, at int) uint32 {
	return uint32(1000*(sector+1) + at)
}

// filled is a flash of six sectors, the first two protected, whose words tell where they are.
func filled(t *testing.T) *nor.Nor {
	t.Helper()
	n := flash(t, 6, 2)
	for sector := range 6 {
		want(t, "Program", n.Program(sector, 0, marks(sector)), api.OK)
	}
	return n
}

// marks are the words of filled of some sectors.
func marks(sectors ...int) []uint32 {
	var l []uint32
	for _, sector := range sectors {
		for at := range api.Words {
			l = append(l, mark(sector, at))
		}
	}
	return l
}

// all are all words of a flash that is not down, sector by sector.
func all(t *testing.T, n *nor.Nor) []uint32 {
	t.Helper()
	var l []uint32
	for sector := range n.Sectors() {
		for at := range api.Words {
			w, e := n.Read(sector, at)
			if e != api.OK {
				t.Fatalf("Read(%d, %d) of the flash: %d", sector, at, e)
			}
			l = append(l, w)
		}
	}
	return l
}

// opened is a drive that may be.
func opened(t *testing.T, n *nor.Nor, first, many int) *drive.Drive {
	t.Helper()
	d, e := drive.Open(n, first, many)
	if e != api.OK || d == nil {
		t.Fatalf("Open(%d, %d): %d", first, many, e)
	}
	return d
}

// part is one that may be.
func part(t *testing.T, d *drive.Drive, first, many int) *drive.Drive {
	t.Helper()
	p, e := d.Part(first, many)
	if e != api.OK || p == nil {
		t.Fatalf("Part(%d, %d): %d", first, many, e)
	}
	return p
}

// reads are the drive's words from the place on.
func reads(t *testing.T, d *drive.Drive, at int, want ...uint32) {
	t.Helper()
	if l, e := d.Read(at, len(want)); e != api.OK || !slices.Equal(l, want) {
		t.Errorf("Read(%d, %d): %v %d, not %v", at, len(want), l, e, want)
	}
}

// repeat is the same word so many times.
func repeat(w uint32, many int) []uint32 {
	return slices.Repeat([]uint32{w}, many)
}

// counted are so many words, rising from first on.
func counted(first uint32, many int) []uint32 {
	l := make([]uint32, many)
	for i := range l {
		l[i] = first + uint32(i)
	}
	return l
}

// fail lets the power of the flash fail without a step that is done.
func fail(t *testing.T, n *nor.Nor) {
	t.Helper()
	n.Arm(0)
	want(t, "Program without power", n.Program(0, 0, []uint32{0}), api.ErrDown)
}

// stepsLeft is how many steps are done before the power fails; at most most.
func stepsLeft(n *nor.Nor, most int) int {
	for done := range most {
		if n.Program(0, 0, []uint32{ones}) != api.OK {
			return done
		}
	}
	return most
}

// The chapter's examples.
func TestExamples(t *testing.T) {
	n := flash(t, 4, 0)
	d := opened(t, n, 1, 2)
	if d.Size() != 128 {
		t.Errorf("Size: %d", d.Size())
	}
	want(t, "Write 1 2 3", d.Write(62, []uint32{1, 2, 3}), api.OK)
	reads(t, d, 62, 1, 2, 3)
	is := repeat(ones, 4*64)
	is[64+62], is[64+63], is[128] = 1, 2, 3
	if !slices.Equal(all(t, n), is) {
		t.Error("the words are not at 62 and 63 of sector 1 and at 0 of sector 2 alone")
	}
	want(t, "Write 0 2 3", d.Write(62, []uint32{0, 2, 3}), api.OK)
	want(t, "Write 1", d.Write(62, []uint32{1}), api.ErrSet)
	want(t, "Erase(1)", d.Erase(1), api.OK)
	reads(t, d, 62, 0, 2, 4294967295)
	want(t, "Erase(2)", d.Erase(2), api.ErrArg)
	want(t, "Write 9", d.Write(64, []uint32{9}), api.OK)
	reads(t, part(t, d, 1, 1), 0, 9)
}

// noSectors are those that are not there, of how many there are.
func noSectors(sectors int) [][2]int {
	return [][2]int{
		{0, 0}, {0, -1}, {0, math.MinInt}, {1, 0}, {sectors, 0}, {0, sectors + 1}, {1, sectors}, {sectors, 1}, {sectors - 1, 2},
		{-1, 1}, {-1, 2}, {-1, sectors}, {-1, sectors + 1}, {math.MinInt, 1}, {math.MaxInt, 1}, {math.MaxInt, 2}, {1, math.MaxInt},
		{0, math.MaxInt}, {math.MaxInt, math.MaxInt}, {math.MinInt, math.MinInt}, {math.MinInt, math.MaxInt}, {-1, math.MaxInt}, {sectors + 1, -1},
	}
}

// P5.1: all drives of a flash, and no other ones; where each one's words are.
func TestOpen(t *testing.T) {
	n := filled(t)
	for first := range 6 {
		for many := 1; first+many <= 6; many++ {
			d := opened(t, n, first, many)
			if d.Sectors() != many || d.Size() != 64*many {
				t.Errorf("Open(%d, %d): %d sectors, %d words", first, many, d.Sectors(), d.Size())
			}
			var l []uint32
			for sector := first; sector < first+many; sector++ {
				l = append(l, marks(sector)...)
			}
			reads(t, d, 0, l...)
			for at, w := range l {
				reads(t, d, at, w)
			}
		}
		if d, e := drive.Open(n, first, 7-first); d != nil || e != api.ErrArg {
			t.Errorf("Open(%d, %d), one too many: %v %d", first, 7-first, d, e)
		}
	}
}

// P5.1: sectors that are not there, of the least flash, of others, and of the greatest one.
func TestOpenRefuses(t *testing.T) {
	for _, sectors := range []int{1, 2, 6, 1023, 1024} {
		n := flash(t, sectors, 0)
		for _, x := range noSectors(sectors) {
			if d, e := drive.Open(n, x[0], x[1]); d != nil || e != api.ErrArg {
				t.Errorf("%d sectors, Open(%d, %d): %v %d", sectors, x[0], x[1], d, e)
			}
		}
		d := opened(t, n, 0, sectors)
		if d.Sectors() != sectors || d.Size() != 64*sectors {
			t.Errorf("all of %d sectors: %d sectors, %d words", sectors, d.Sectors(), d.Size())
		}
		reads(t, d, 64*sectors-1, ones)
		if d = opened(t, n, sectors-1, 1); d.Sectors() != 1 || d.Size() != 64 {
			t.Errorf("the last one of %d sectors: %d sectors, %d words", sectors, d.Sectors(), d.Size())
		}
	}
}

// P5.1, R5: no flash, also where there would be no sectors either.
func TestOpenOfNoFlash(t *testing.T) {
	copied := *filled(t)
	for i, n := range []*nor.Nor{nil, {}, new(nor.Nor), &copied} {
		for _, x := range append(noSectors(6), [2]int{0, 1}, [2]int{1, 2}) {
			if d, e := drive.Open(n, x[0], x[1]); d != nil || e != api.ErrNil {
				t.Errorf("no flash (%d), Open(%d, %d): %v %d", i, x[0], x[1], d, e)
			}
		}
	}
}

// P5.1: parts, and parts of them, have the drive's own sectors, and no other ones.
func TestPart(t *testing.T) {
	n := filled(t)
	d := opened(t, n, 1, 4)
	for first := range 4 {
		for many := 1; first+many <= 4; many++ {
			p := part(t, d, first, many)
			if p.Sectors() != many || p.Size() != 64*many {
				t.Errorf("Part(%d, %d): %d sectors, %d words", first, many, p.Sectors(), p.Size())
			}
			for sector := range many {
				reads(t, p, 64*sector, marks(1+first+sector)...)
				reads(t, part(t, p, sector, many-sector), 0, marks(1+first+sector)...)
			}
			for _, x := range noSectors(many) {
				if q, e := p.Part(x[0], x[1]); q != nil || e != api.ErrArg {
					t.Errorf("Part(%d, %d) of Part(%d, %d): %v %d", x[0], x[1], first, many, q, e)
				}
			}
		}
	}
	p := d
	for depth := range 3 {
		p = part(t, p, 1, 3-depth)
		reads(t, p, 0, marks(2+depth)...)
	}
	if d.Sectors() != 4 || d.Size() != 256 {
		t.Errorf("behind its parts: %d sectors, %d words", d.Sectors(), d.Size())
	}
}

// P5.1: a flash may be opened, and a drive be parted, without power; nothing is read or written for it.
func TestOpenWhileDown(t *testing.T) {
	n := filled(t)
	fail(t, n)
	d := opened(t, n, 1, 4)
	p := part(t, d, 1, 2)
	if d.Size() != 256 || p.Size() != 128 || d.Sectors() != 4 || p.Sectors() != 2 {
		t.Errorf("down: %d and %d words", d.Size(), p.Size())
	}
	if _, e := drive.Open(n, 0, 7); e != api.ErrArg {
		t.Errorf("down, Open(0, 7): %d", e)
	}
	if _, e := d.Part(0, 5); e != api.ErrArg {
		t.Errorf("down, Part(0, 5): %d", e)
	}
	n.Crash(nil)
	reads(t, p, 0, marks(2)...)
	n.Arm(0)
	part(t, opened(t, n, 0, 6), 0, 1)
	if n.Down() {
		t.Error("Open or Part took a step")
	}
}

// P5.2: from each place on, over no, one, two, and three sectors, up to the drive's end.
func TestRead(t *testing.T) {
	d := opened(t, filled(t), 1, 3)
	l := marks(1, 2, 3)
	for at := range 193 {
		for _, many := range []int{0, 1, 2, 63, 64, 65, 127, 128, 129, 130, 191, 192, 192 - at} {
			got, e := d.Read(at, many)
			if at+many > 192 {
				if got != nil || e != api.ErrArg {
					t.Errorf("Read(%d, %d), past the end: %v %d", at, many, got, e)
				}
				continue
			}
			if e != api.OK || !slices.Equal(got, l[at:at+many]) {
				t.Errorf("Read(%d, %d): %v %d", at, many, got, e)
			}
		}
	}
}

// noPlaces are places and counts that are not there, of three sectors.
var noPlaces = [][2]int{
	{0, 193}, {1, 192}, {192, 1}, {191, 2}, {190, 3}, {193, 0}, {193, -1}, {64, 129}, {0, -1}, {5, -5}, {192, -1}, {-1, 0}, {-1, 1}, {-1, 2}, {-1, 193},
	{-64, 64}, {-64, 128}, {-1, -1}, {0, 100000}, {math.MaxInt, 0}, {math.MaxInt, 1}, {1, math.MaxInt}, {0, math.MaxInt},
	{math.MaxInt, math.MaxInt}, {math.MinInt, 0}, {math.MinInt, 1}, {0, math.MinInt}, {math.MinInt, math.MinInt}, {math.MinInt, math.MaxInt}, {-1, math.MaxInt},
}

// P5.2, P5.3: what has no place is refused, and nothing is done; there are sectors of the flash on both sides of the drive.
func TestNoPlace(t *testing.T) {
	n := filled(t)
	d := opened(t, n, 2, 3)
	n.Arm(2)
	for _, x := range noPlaces {
		if l, e := d.Read(x[0], x[1]); l != nil || e != api.ErrArg {
			t.Errorf("Read(%d, %d): %v %d", x[0], x[1], l, e)
		}
		if d.Blank(x[0], x[1]) {
			t.Errorf("Blank(%d, %d)", x[0], x[1])
		}
		if 0 <= x[1] && x[1] <= 100000 {
			if e := d.Write(x[0], make([]uint32, x[1])); e != api.ErrArg {
				t.Errorf("Write(%d) of %d words: %d", x[0], x[1], e)
			}
		}
	}
	for _, sector := range []int{-1, 3, 4, -2, math.MinInt, math.MaxInt} {
		want(t, "Erase of no sector of its", d.Erase(sector), api.ErrArg)
	}
	if !slices.Equal(all(t, n), marks(0, 1, 2, 3, 4, 5)) {
		t.Error("something has changed")
	}
	if done := stepsLeft(n, 9); done != 2 {
		t.Errorf("%d steps were left, not 2", done)
	}
}

// P5.2, P5.3: no words are there from each place on, and behind the last one; they take no step.
func TestNoWords(t *testing.T) {
	n := filled(t)
	d := opened(t, n, 1, 3)
	n.Arm(0)
	for _, at := range []int{0, 1, 63, 64, 65, 128, 191, 192} {
		if l, e := d.Read(at, 0); len(l) != 0 || e != api.OK {
			t.Errorf("Read(%d, 0): %v %d", at, l, e)
		}
		if !d.Blank(at, 0) {
			t.Errorf("Blank(%d, 0): false", at)
		}
		want(t, "Write of none", d.Write(at, nil), api.OK)
		want(t, "Write of no words", d.Write(at, []uint32{}), api.OK)
	}
	if n.Down() || !slices.Equal(all(t, n), marks(0, 1, 2, 3, 4, 5)) {
		t.Error("something was done")
	}
	fail(t, n)
	if l, e := d.Read(192, 0); l != nil || e != api.ErrDown {
		t.Errorf("Read(192, 0), down: %v %d", l, e)
	}
	want(t, "Write of none, down", d.Write(192, nil), api.ErrDown)
	if d.Blank(192, 0) {
		t.Error("Blank(192, 0), down")
	}
}

// P5.2: blank is what is of ones, up to both ends of what is asked; a single bit makes it not so.
func TestBlank(t *testing.T) {
	for _, place := range []int{0, 1, 63, 64, 100, 127, 128, 191} {
		n := flash(t, 5, 0)
		d := opened(t, n, 1, 3)
		if !d.Blank(0, 192) {
			t.Error("at first: not blank")
		}
		for _, sector := range []int{0, 4} { // the drive's neighbours are not asked
			want(t, "Program", n.Program(sector, 0, repeat(0, 64)), api.OK)
		}
		want(t, "Write", d.Write(place, []uint32{ones - 1<<(place%32)}), api.OK)
		for at := range 193 {
			for _, many := range []int{0, 1, 2, 64, 65, 128, 192 - at} {
				is := at+many <= 192 && !(at <= place && place < at+many)
				if d.Blank(at, many) != is {
					t.Errorf("a bit at %d, Blank(%d, %d): not %v", place, at, many, is)
				}
			}
		}
		want(t, "Erase", d.Erase(place/64), api.OK)
		if !d.Blank(0, 192) {
			t.Error("erased: not blank")
		}
	}
	n := filled(t)
	d := opened(t, n, 1, 2)
	want(t, "Write noughts", d.Write(0, repeat(0, 128)), api.OK)
	if d.Blank(0, 1) || d.Blank(0, 128) || d.Blank(127, 1) {
		t.Error("noughts are blank")
	}
}

// P5.3: words over no end of a sector, over one, and over two; no other word is another one; what is written may be written again, and less of its bits.
func TestWrite(t *testing.T) {
	for first := range 3 {
		for _, x := range [][2]int{{0, 1}, {0, 64}, {0, 65}, {0, 192}, {1, 62}, {1, 63}, {62, 3}, {63, 1}, {63, 2}, {64, 64}, {63, 66}, {50, 100}, {127, 65}, {191, 1}} {
			n := flash(t, 5, 2)
			d := opened(t, n, first, 3)
			l := counted(1000, x[1])
			is := repeat(ones, 5*64)
			copy(is[64*first+x[0]:], l)
			want(t, "Write", d.Write(x[0], l), api.OK)
			reads(t, d, x[0], l...)
			if !slices.Equal(all(t, n), is) {
				t.Errorf("Open(%d, 3): Write(%d) of %d words: not these alone", first, x[0], x[1])
			}
			want(t, "Write again", d.Write(x[0], l), api.OK)
			if !slices.Equal(l, counted(1000, x[1])) {
				t.Error("Write has changed what was handed in")
			}
			for i := range l {
				l[i] &= 0x5555
			}
			copy(is[64*first+x[0]:], l)
			want(t, "Write of less bits", d.Write(x[0], l), api.OK)
			if !slices.Equal(all(t, n), is) {
				t.Errorf("Open(%d, 3): Write(%d) of %d words with less bits: not these alone", first, x[0], x[1])
			}
		}
	}
}

// P5.3: each bit of a word may fall, and none may rise.
func TestWriteBits(t *testing.T) {
	d := opened(t, flash(t, 2, 0), 0, 2)
	for bit := range 32 {
		want(t, "Write without the bit", d.Write(bit, []uint32{ones - 1<<bit}), api.OK)
		want(t, "Write with it", d.Write(bit, []uint32{1 << bit}), api.ErrSet)
		want(t, "Write of ones", d.Write(bit, []uint32{ones}), api.ErrSet)
		reads(t, d, bit, ones-1<<bit)
		want(t, "Write of the others", d.Write(bit, []uint32{ones - 1<<bit}), api.OK)
		want(t, "Write of nought", d.Write(bit, []uint32{0}), api.OK)
		reads(t, d, bit, 0)
		want(t, "Write of the bit alone", d.Write(bit, []uint32{1 << bit}), api.ErrSet)
		reads(t, d, bit, 0)
	}
}

// P5.3: one word that would have to set a bit, wherever it is, and nothing is written, and no step is taken.
func TestWriteSets(t *testing.T) {
	n := flash(t, 5, 0)
	d := opened(t, n, 1, 3)
	for _, x := range [][2]int{{0, 1}, {0, 5}, {60, 8}, {62, 3}, {0, 64}, {60, 80}, {0, 192}} {
		for i := range x[1] {
			for sector := range 3 {
				want(t, "Erase", d.Erase(sector), api.OK)
			}
			want(t, "Write", d.Write(x[0]+i, []uint32{ones - 8}), api.OK)
			before := all(t, n)
			l := repeat(8, x[1])
			n.Arm(1)
			want(t, "Write of a bit", d.Write(x[0], l), api.ErrSet)
			if !slices.Equal(all(t, n), before) || !slices.Equal(l, repeat(8, x[1])) {
				t.Fatalf("Write(%d) of %d words, not the one at %d: something is written", x[0], x[1], i)
			}
			if done := stepsLeft(n, 9); done != 1 {
				t.Fatalf("Write(%d) of %d words, not the one at %d: %d steps were left, not 1", x[0], x[1], i, done)
			}
			n.Crash(nil)
			l[i] -= 8
			want(t, "Write without it", d.Write(x[0], l), api.OK)
			reads(t, d, x[0], l...)
		}
	}
}

// P5.3, P5.4: the power fails at each step of a Write: a beginning is there, and the others are as they were. Each word is a step, also one that is there already.
func TestWriteFails(t *testing.T) {
	for _, x := range [][2]int{{62, 3}, {60, 9}, {0, 1}, {10, 5}, {60, 70}, {0, 192}} {
		for steps := range x[1] + 2 {
			for _, again := range []bool{false, true} {
				n := flash(t, 5, 2)
				d := opened(t, n, 1, 3)
				l := counted(7, x[1])
				if again {
					want(t, "Write", d.Write(x[0], l), api.OK)
				}
				is := all(t, n)
				n.Arm(steps)
				if steps >= x[1] {
					want(t, "Write with the steps it takes", d.Write(x[0], l), api.OK)
					copy(is[64+x[0]:], l)
					if done := stepsLeft(n, 9); done != steps-x[1] {
						t.Fatalf("Write(%d) of %d words, armed with %d: %d steps were left", x[0], x[1], steps, done)
					}
				} else {
					want(t, "Write with less steps than it takes", d.Write(x[0], l), api.ErrDown)
					copy(is[64+x[0]:], l[:steps])
				}
				if !n.Down() {
					t.Fatalf("Write(%d) of %d words, armed with %d: not down", x[0], x[1], steps)
				}
				n.Crash(slices.Repeat([]bool{true}, 64))
				if !slices.Equal(all(t, n), is) {
					t.Fatalf("Write(%d) of %d words, armed with %d: not the first ones alone", x[0], x[1], steps)
				}
				want(t, "Write behind the crash", d.Write(x[0], l), api.OK)
				reads(t, d, x[0], l...)
			}
		}
	}
}

// P5.3: each sector of the drive's is erased, whole and alone, protected or not, as one step.
func TestErase(t *testing.T) {
	for first := range 4 {
		for sector := range 3 {
			n := filled(t)
			d := opened(t, n, first, 3)
			is := marks(0, 1, 2, 3, 4, 5)
			copy(is[64*(first+sector):], repeat(ones, 64))
			n.Arm(1)
			want(t, "Erase", d.Erase(sector), api.OK)
			if n.Down() || !slices.Equal(all(t, n), is) {
				t.Errorf("Open(%d, 3): Erase(%d): not this one alone", first, sector)
			}
			if done := stepsLeft(n, 9); done != 0 {
				t.Errorf("%d steps were left, not 0", done)
			}
			n.Crash(nil)
			want(t, "Write", d.Write(64*sector, []uint32{ones}), api.OK)
		}
	}
}

// P5.3, P5.4: the power fails in an Erase: words of that sector are erased, as the crash tells, and no other ones.
func TestEraseFails(t *testing.T) {
	for sector := range 3 {
		for _, step := range []int{0, 1, 2, 3, 7} {
			n := filled(t)
			d := opened(t, n, 2, 3)
			keeps := make([]bool, 64)
			is := marks(0, 1, 2, 3, 4, 5)
			for i := range keeps {
				if step > 0 && i%step == 0 {
					keeps[i] = true
					is[64*(2+sector)+i] = ones
				}
			}
			n.Arm(0)
			want(t, "Erase without power", d.Erase(sector), api.ErrDown)
			want(t, "Erase, down", d.Erase((sector+1)%3), api.ErrDown)
			if !n.Down() {
				t.Fatal("not down")
			}
			n.Crash(keeps)
			if !slices.Equal(all(t, n), is) {
				t.Errorf("sector %d, every %d: not as the crash told", sector, step)
			}
			want(t, "Erase behind the crash", d.Erase(sector), api.OK)
			reads(t, d, 64*sector, repeat(ones, 64)...)
		}
	}
}

// Errors: ErrArg ahead of ErrDown, ErrDown ahead of ErrSet; nothing has changed by any of it.
func TestDown(t *testing.T) {
	n := filled(t)
	d := opened(t, n, 2, 3)
	fail(t, n)
	for _, x := range noPlaces {
		if l, e := d.Read(x[0], x[1]); l != nil || e != api.ErrArg {
			t.Errorf("Read(%d, %d), down: %v %d", x[0], x[1], l, e)
		}
		if 0 <= x[1] && x[1] <= 100000 {
			want(t, "Write without place, down", d.Write(x[0], make([]uint32, x[1])), api.ErrArg)
		}
	}
	for _, x := range [][2]int{{0, 0}, {0, 1}, {62, 3}, {0, 192}, {191, 1}} {
		if l, e := d.Read(x[0], x[1]); l != nil || e != api.ErrDown {
			t.Errorf("Read(%d, %d), down: %v %d", x[0], x[1], l, e)
		}
		if d.Blank(x[0], x[1]) {
			t.Errorf("Blank(%d, %d), down", x[0], x[1])
		}
		want(t, "Write, down", d.Write(x[0], repeat(0, x[1])), api.ErrDown)
		want(t, "Write of bits that are not there, down", d.Write(x[0], repeat(ones, x[1])), api.ErrDown)
	}
	for _, sector := range []int{-1, 3, math.MinInt, math.MaxInt} {
		want(t, "Erase of no sector, down", d.Erase(sector), api.ErrArg)
	}
	for sector := range 3 {
		want(t, "Erase, down", d.Erase(sector), api.ErrDown)
	}
	n.Crash(slices.Repeat([]bool{true}, 64))
	if !slices.Equal(all(t, n), marks(0, 1, 2, 3, 4, 5)) {
		t.Error("something has changed")
	}
	reads(t, d, 0, marks(2, 3, 4)...)
}

// P5.2 to P5.4: what another hand has written is read, whatever it is, and counts for what may be written; with or without power.
func TestAnotherHand(t *testing.T) {
	n := flash(t, 4, 1)
	d := opened(t, n, 0, 3)
	want(t, "Write", d.Write(60, []uint32{1, 2, 3, 4, 5, 6, 7}), api.OK)
	want(t, "Rewrite, protected", n.Rewrite(0, 62, []uint32{0}), api.ErrGuard)
	want(t, "Rewrite", n.Rewrite(1, 0, []uint32{ones, 8, 0, 0xABCD}), api.OK)
	reads(t, d, 60, 1, 2, 3, 4, ones, 8, 0, 0xABCD, ones)
	if !d.Blank(64, 1) || d.Blank(64, 2) || d.Blank(67, 1) || !d.Blank(68, 124) {
		t.Error("Blank does not tell of the words that are there now")
	}
	want(t, "Write over them", d.Write(63, []uint32{4, 5, 6}), api.ErrSet)
	reads(t, d, 63, 4, ones, 8)
	want(t, "Write over them, less", d.Write(63, []uint32{4, 5, 0, 0, 0xABC0}), api.OK)
	reads(t, d, 63, 4, 5, 0, 0, 0xABC0)
	fail(t, n)
	want(t, "Rewrite, down", n.Rewrite(2, 63, []uint32{77}), api.OK)
	want(t, "Rewrite of what is not the drive's", n.Rewrite(3, 0, []uint32{78}), api.OK)
	n.Crash(nil)
	reads(t, d, 191, 77)
	want(t, "Erase", d.Erase(2), api.OK)
	reads(t, d, 191, ones)
}

// P5.1: drives of one flash share it: where they meet, what one does the other one reads, and else it does not.
func TestTwoDrives(t *testing.T) {
	n := flash(t, 6, 0)
	low, high := opened(t, n, 0, 3), opened(t, n, 2, 3)
	same, p := opened(t, n, 0, 3), part(t, high, 1, 2)
	want(t, "Write", low.Write(126, []uint32{1, 2, 3, 4}), api.OK)
	reads(t, same, 126, 1, 2, 3, 4)
	reads(t, high, 0, 3, 4, ones)
	want(t, "Write of the other one", high.Write(0, []uint32{5}), api.ErrSet)
	want(t, "Write of the other one", high.Write(1, []uint32{4, 9}), api.OK)
	reads(t, low, 126, 1, 2, 3, 4, 9, ones)
	want(t, "Write behind where they meet", high.Write(63, []uint32{10, 11}), api.OK)
	reads(t, p, 0, 11, ones)
	reads(t, low, 191, 10)
	want(t, "Erase", high.Erase(0), api.OK)
	reads(t, low, 126, 1, 2, ones, ones, ones)
	reads(t, p, 0, 11)
	want(t, "Erase of the part", p.Erase(0), api.OK)
	if !high.Blank(0, 192) || low.Blank(126, 2) {
		t.Error("the erasings are not those two")
	}
	n.Arm(1)
	want(t, "Write", low.Write(0, []uint32{1, 2}), api.ErrDown)
	for _, d := range []*drive.Drive{low, high, same, p} {
		if _, e := d.Read(0, 1); e != api.ErrDown {
			t.Errorf("Read, down by another one: %d", e)
		}
	}
	other := opened(t, flash(t, 6, 0), 0, 3)
	if !other.Blank(0, 192) {
		t.Error("two flashes share words")
	}
}

// P5.3: the driver is no other hand: it reaches protected sectors, too.
func TestProtected(t *testing.T) {
	n := flash(t, 3, 3)
	d := opened(t, n, 0, 3)
	want(t, "Write", d.Write(60, counted(1, 100)), api.OK)
	reads(t, d, 60, counted(1, 100)...)
	want(t, "Erase", d.Erase(1), api.OK)
	reads(t, d, 60, 1, 2, 3, 4, ones)
	if !d.Blank(64, 64) {
		t.Error("not erased")
	}
}

// R3: what is told is the caller's alone, and what is handed in is neither kept nor changed, its spare room neither.
func TestOwnMemory(t *testing.T) {
	n := filled(t)
	d := opened(t, n, 1, 3)
	one, _ := d.Read(60, 70)
	two, _ := d.Read(60, 70)
	for i := range one {
		one[i] = 1
	}
	one = append(one, 1)
	reads(t, d, 60, marks(1, 2, 3)[60:130]...)
	if !slices.Equal(two, marks(1, 2, 3)[60:130]) {
		t.Error("two answers share memory")
	}
	room := counted(0, 100)
	for sector := range 3 {
		want(t, "Erase", d.Erase(sector), api.OK)
	}
	want(t, "Write", d.Write(50, room[10:80]), api.OK)
	if !slices.Equal(room, counted(0, 100)) {
		t.Error("what was handed in is changed, or what is beside it")
	}
	for i := range room {
		room[i] = 0
	}
	reads(t, d, 50, counted(10, 70)...)
}

// R5: drives that Open and Part did not answer; nothing is done by them.
func TestNoDrive(t *testing.T) {
	n := filled(t)
	copied := *opened(t, n, 1, 3)
	var none drive.Drive
	for i, d := range []*drive.Drive{nil, {}, &none, &copied} {
		n.Arm(1)
		for _, x := range append(noSectors(3), [2]int{0, 1}, [2]int{1, 2}) {
			if p, e := d.Part(x[0], x[1]); p != nil || e != api.ErrNil {
				t.Errorf("none (%d), Part(%d, %d): %v %d", i, x[0], x[1], p, e)
			}
		}
		if d.Sectors() != 0 || d.Size() != 0 {
			t.Errorf("none (%d): %d sectors, %d words", i, d.Sectors(), d.Size())
		}
		for _, x := range append(noPlaces, [2]int{0, 0}, [2]int{0, 1}, [2]int{62, 3}) {
			if l, e := d.Read(x[0], x[1]); l != nil || e != api.ErrNil {
				t.Errorf("none (%d), Read(%d, %d): %v %d", i, x[0], x[1], l, e)
			}
			if d.Blank(x[0], x[1]) {
				t.Errorf("none (%d): Blank(%d, %d)", i, x[0], x[1])
			}
			want(t, "Write of none", d.Write(x[0], []uint32{0}), api.ErrNil)
			want(t, "Write of no words of none", d.Write(x[0], nil), api.ErrNil)
		}
		for _, sector := range []int{-1, 0, 1, 3, math.MinInt, math.MaxInt} {
			want(t, "Erase of none", d.Erase(sector), api.ErrNil)
		}
		if done := stepsLeft(n, 9); done != 1 {
			t.Errorf("none (%d): %d steps were left, not 1", i, done)
		}
		if _, e := d.Read(0, 1); e != api.ErrNil {
			t.Errorf("none (%d), Read, down: %d", i, e)
		}
		want(t, "Write of none, down", d.Write(0, []uint32{ones}), api.ErrNil)
		want(t, "Erase of none, down", d.Erase(0), api.ErrNil)
		n.Crash(nil)
	}
	if !slices.Equal(all(t, n), marks(0, 1, 2, 3, 4, 5)) {
		t.Error("something has changed")
	}
}

// R1, R5: a drive whose flash is none any more tells that of it.
func TestFlashThatIsGone(t *testing.T) {
	n := filled(t)
	d := opened(t, n, 1, 3)
	*n = nor.Nor{}
	if l, e := d.Read(62, 3); l != nil || e != api.ErrNil {
		t.Errorf("Read: %v %d", l, e)
	}
	if d.Blank(62, 3) {
		t.Error("Blank")
	}
	want(t, "Write", d.Write(62, []uint32{1, 2, 3}), api.ErrNil)
	want(t, "Erase", d.Erase(1), api.ErrNil)
}

// view is what a model knows of a drive: which of the flash's words are its.
type view struct {
	d          *drive.Drive
	from, many int
}

// model is what is known of a flash with several drives, written out a second time: all its words, how many steps are left (below 0: it is not armed), the sector that is half erased (below 0: none).
type model struct {
	words      []uint32
	views      []view
	left, half int
	down       bool
}

// takes tells whether a step is done.
func (m *model) takes() bool {
	if m.left == 0 {
		m.left, m.down = -1, true
		return false
	}
	if m.left > 0 {
		m.left--
	}
	return true
}

// spot is where the words of a view from the place on are; the error of a call that wants them.
func (m *model) spot(v view, at, many int) (int, api.Errno) {
	if at < 0 || many < 0 || at+many > v.many {
		return 0, api.ErrArg
	}
	if m.down {
		return 0, api.ErrDown
	}
	return v.from + at, api.OK
}

func (m *model) write(v view, at int, l []uint32) api.Errno {
	k, e := m.spot(v, at, len(l))
	if e != api.OK {
		return e
	}
	for i, w := range l {
		if m.words[k+i]|w != m.words[k+i] {
			return api.ErrSet
		}
	}
	for i, w := range l {
		if !m.takes() {
			return api.ErrDown
		}
		m.words[k+i] = w
	}
	return api.OK
}

func (m *model) erase(v view, sector int) api.Errno {
	k, e := m.spot(v, 64*sector, 64)
	if e != api.OK {
		return e
	}
	if !m.takes() {
		m.half = k / 64
		return api.ErrDown
	}
	copy(m.words[k:], repeat(ones, 64))
	return api.OK
}

func (m *model) crash(keeps []bool) {
	for i, keep := range keeps {
		if m.half >= 0 && keep {
			m.words[64*m.half+i] = ones
		}
	}
	m.left, m.half, m.down = -1, -1, false
}

// someWords are up to most words, of chance, that mostly may be written over those that are there.
func someWords(chance *rand.Rand, is []uint32, most int) []uint32 {
	l := make([]uint32, chance.Intn(most+1))
	for i := range l {
		l[i] = chance.Uint32() | chance.Uint32() | chance.Uint32()
		if i < len(is) {
			l[i] &= is[i]
		}
	}
	if len(l) > 0 && chance.Intn(8) == 0 {
		l[chance.Intn(len(l))] |= 1 << chance.Intn(32)
	}
	return l
}

// act does the same to a drive and to the model.
func act(t *testing.T, chance *rand.Rand, n *nor.Nor, m *model) {
	t.Helper()
	v := m.views[chance.Intn(len(m.views))]
	at := chance.Intn(v.many+4) - 2
	switch chance.Intn(8) {
	case 0, 1, 2:
		l := someWords(chance, m.words[min(max(v.from+at, 0), len(m.words)):], 150)
		want(t, "Write", v.d.Write(at, l), m.write(v, at, l))
	case 3:
		sector := chance.Intn(v.many/64+2) - 1
		want(t, "Erase", v.d.Erase(sector), m.erase(v, sector))
	case 4:
		sector, w := chance.Intn(n.Sectors()), chance.Uint32()
		if n.Rewrite(sector, 5, []uint32{w}) == api.OK {
			m.words[64*sector+5] = w
		}
	case 5:
		steps := chance.Intn(160)
		n.Arm(steps)
		if !m.down {
			m.left = steps
		}
	case 6:
		keeps := make([]bool, 64)
		for i := range keeps {
			keeps[i] = chance.Intn(2) == 0
		}
		n.Crash(keeps)
		m.crash(keeps)
	case 7:
		many := chance.Intn(v.many+4) - 2
		k, e := m.spot(v, at, many)
		l, got := v.d.Read(at, many)
		want(t, "Read", got, e)
		if e != api.OK {
			return
		}
		if !slices.Equal(l, m.words[k:k+many]) {
			t.Errorf("Read(%d, %d): not as the model has it", at, many)
		}
		if v.d.Blank(at, many) != slices.Equal(l, repeat(ones, many)) {
			t.Errorf("Blank(%d, %d): not as the model has it", at, many)
		}
	}
}

// P5.1 to P5.4: drives of chance, some of them parts, of one flash, call by call, against the model.
func TestAgainstModel(t *testing.T) {
	chance := rand.New(rand.NewSource(51))
	for range 60 {
		sectors := 1 + chance.Intn(6)
		n := flash(t, sectors, chance.Intn(sectors+1))
		m := &model{words: repeat(ones, 64*sectors), left: -1, half: -1}
		for range 4 {
			first := chance.Intn(sectors)
			many := 1 + chance.Intn(sectors-first)
			d := opened(t, n, first, many)
			m.views = append(m.views, view{d: d, from: 64 * first, many: 64 * many})
			in := chance.Intn(many)
			p := part(t, d, in, many-in)
			m.views = append(m.views, view{d: p, from: 64 * (first + in), many: 64 * (many - in)})
		}
		for range 150 {
			act(t, chance, n, m)
			if n.Down() != m.down {
				t.Fatalf("down: %v, not %v", n.Down(), m.down)
			}
			if !m.down && !slices.Equal(all(t, n), m.words) {
				t.Fatal("the words are not as the model has them")
			}
		}
	}
}
