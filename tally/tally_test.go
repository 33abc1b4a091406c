package tally_test

import (
	"math"
	"math/rand"
	"slices"
	"testing"

	"blockhouse/api"
	"blockhouse/drive"
	"blockhouse/nor"
	"blockhouse/tally"
)

const (
	ones = math.MaxUint32
	most = 62 * 32 // bits of a sector that count
)

func want(t *testing.T, what string, got, want api.Errno) {
	t.Helper()
	if got != want {
		t.Errorf("%s: error %d, not %d", what, got, want)
	}
}

// repeat is the same word so many times.
func repeat(w uint32, many int) []uint32 {
	return slices.Repeat([]uint32{w}, many)
}

// keeps is the same choice for all words of a sector.
func keeps(erased bool) []bool {
	return slices.Repeat([]bool{erased}, 64)
}

// spent are 62 words of which so many bits are 0, the highest one of the first word first.
func spent(zeros int) []uint32 {
	l := repeat(ones, 62)
	for i := range zeros {
		l[i/32] -= 1 << (31 - i%32)
	}
	return l
}

// counting is a sector of a base of which so many bits are 0.
func counting(base uint32, zeros int) []uint32 {
	return append([]uint32{base, ones - base}, spent(zeros)...)
}

// blank is an erased sector.
func blank() []uint32 {
	return repeat(ones, 64)
}

// strange is a sector that does not count, and in part is not blank.
func strange() []uint32 {
	l := repeat(0xF0F0F0F0, 64)
	l[0], l[1], l[9], l[63] = 77, ones-78, 0, ones
	return l
}

// pair is a flash of five sectors without protected ones, and a drive of the third and the fourth one, that have these words; the others have their own.
func pair(t *testing.T, one, two []uint32) (*nor.Nor, *drive.Drive) {
	t.Helper()
	n, e := nor.New(5, 0)
	if e != api.OK {
		t.Fatalf("New: %d", e)
	}
	for sector, l := range [][]uint32{repeat(0xABCD, 64), counting(900, 1), one, two, repeat(0x1234, 64)} {
		if e := n.Rewrite(sector, 0, l); e != api.OK {
			t.Fatalf("Rewrite: %d", e)
		}
	}
	d, e := drive.Open(n, 2, 2)
	if e != api.OK {
		t.Fatalf("drive.Open: %d", e)
	}
	return n, d
}

// opened is a tally of a drive that may be.
func opened(t *testing.T, d *drive.Drive) *tally.Tally {
	t.Helper()
	c, e := tally.Open(d)
	if e != api.OK || c == nil {
		t.Fatalf("Open: %d", e)
	}
	return c
}

// counter is all of it at once.
func counter(t *testing.T, one, two []uint32) (*nor.Nor, *drive.Drive, *tally.Tally) {
	t.Helper()
	n, d := pair(t, one, two)
	return n, d, opened(t, d)
}

// has tells of the drive's words, and that those beside it are as they were.
func has(t *testing.T, n *nor.Nor, one, two []uint32) {
	t.Helper()
	for sector, l := range [][]uint32{repeat(0xABCD, 64), counting(900, 1), one, two, repeat(0x1234, 64)} {
		for at, w := range l {
			if is, e := n.Read(sector, at); e != api.OK || is != w {
				t.Fatalf("sector %d has %d (%d) at %d, not %d", sector-2, is, e, at, w)
			}
		}
	}
}

// counts tells of the count, twice, and of another tally's of that drive.
func counts(t *testing.T, d *drive.Drive, c *tally.Tally, want int) {
	t.Helper()
	if is := c.Count(); is != want {
		t.Fatalf("Count: %d, not %d", is, want)
	}
	if again := c.Count(); again != want {
		t.Fatalf("Count, once more: %d, not %d", again, want)
	}
	if other := opened(t, d).Count(); other != want {
		t.Fatalf("Count of one that is opened anew: %d, not %d", other, want)
	}
}

// steps are done, so many.
func steps(t *testing.T, c *tally.Tally, many int) {
	t.Helper()
	for range many {
		if e := c.Step(); e != api.OK {
			t.Fatalf("Step: %d", e)
		}
	}
}

// fail lets the power of the flash fail without a step that is done.
func fail(t *testing.T, n *nor.Nor) {
	t.Helper()
	n.Arm(0)
	want(t, "Program without power", n.Program(0, 0, []uint32{0}), api.ErrDown)
}

// stepsLeft is how many steps of the flash are done before the power fails; at most many.
func stepsLeft(n *nor.Nor, many int) int {
	for done := range many {
		if n.Program(0, 0, []uint32{ones}) != api.OK {
			return done
		}
	}
	return many
}

// The chapter's examples.
func TestExamples(t *testing.T) {
	n, d, c := counter(t, blank(), blank())
	counts(t, d, c, 0)
	steps(t, c, 1)
	has(t, n, append([]uint32{1, 4294967294}, repeat(ones, 62)...), blank())
	counts(t, d, c, 1)
	steps(t, c, 1)
	has(t, n, append([]uint32{1, 4294967294, 2147483647}, repeat(ones, 61)...), blank())
	counts(t, d, c, 2)
	steps(t, c, 1983)
	full := append([]uint32{1, 4294967294}, repeat(0, 62)...)
	has(t, n, full, blank())
	counts(t, d, c, 1985)
	steps(t, c, 1)
	has(t, n, full, append([]uint32{1986, 4294965309}, repeat(ones, 62)...))
	counts(t, d, c, 1986)
}

// P6.1: drives of two sectors alone, wherever they are.
func TestOpen(t *testing.T) {
	n, _ := pair(t, blank(), blank())
	for first := range 5 {
		for many := 1; first+many <= 5; many++ {
			d, e := drive.Open(n, first, many)
			want(t, "drive.Open", e, api.OK)
			c, e := tally.Open(d)
			if many == 2 {
				if c == nil || e != api.OK || c.Over() {
					t.Errorf("two sectors from %d on: %d", first, e)
				}
				continue
			}
			if c != nil || e != api.ErrArg {
				t.Errorf("%d sectors: %v %d", many, c, e)
			}
		}
	}
	large, _ := nor.New(1024, 0)
	all, _ := drive.Open(large, 0, 1024)
	if c, e := tally.Open(all); c != nil || e != api.ErrArg {
		t.Errorf("1024 sectors: %v %d", c, e)
	}
	part, _ := all.Part(1022, 2)
	steps(t, opened(t, part), 3)
	counts(t, part, opened(t, part), 3)
}

// P6.1, R5: no drive, also without power.
func TestOpenOfNoDrive(t *testing.T) {
	n, d := pair(t, blank(), blank())
	copied := *d
	for range 2 {
		for i, none := range []*drive.Drive{nil, {}, new(drive.Drive), &copied} {
			if c, e := tally.Open(none); c != nil || e != api.ErrNil {
				t.Errorf("no drive (%d): %v %d", i, c, e)
			}
		}
		fail(t, n)
	}
}

// P6.1, Errors: a flash that is down, and ErrArg ahead of it.
func TestOpenWhileDown(t *testing.T) {
	n, d := pair(t, counting(5, 2), blank())
	one, _ := drive.Open(n, 2, 1)
	three, _ := drive.Open(n, 2, 3)
	fail(t, n)
	if c, e := tally.Open(d); c != nil || e != api.ErrDown {
		t.Errorf("down: %v %d", c, e)
	}
	for _, x := range []*drive.Drive{one, three} {
		if c, e := tally.Open(x); c != nil || e != api.ErrArg {
			t.Errorf("down, of %d sectors: %v %d", x.Sectors(), c, e)
		}
	}
	n.Crash(nil)
	has(t, n, counting(5, 2), blank())
	counts(t, d, opened(t, d), 7)
}

// P6.1: neither Open nor Count nor Over writes anything, whatever is there.
func TestNothingIsWritten(t *testing.T) {
	for _, x := range [][2][]uint32{{blank(), blank()}, {strange(), strange()}, {counting(1, 1984), blank()}, {counting(4, 9), counting(4, 9)}} {
		n, d := pair(t, x[0], x[1])
		n.Arm(0)
		c := opened(t, d)
		c.Count()
		if c.Over() || n.Down() {
			t.Error("something was done")
		}
		has(t, n, x[0], x[1])
	}
}

// P6.1: what two sectors count.
func TestCount(t *testing.T) {
	for i, x := range []struct {
		one, two []uint32
		want     int
	}{
		{blank(), blank(), 0},
		{strange(), strange(), 0},
		{repeat(0, 64), repeat(0, 64), 0},
		{counting(0, 0), blank(), 0},
		{counting(0, 1), blank(), 1},
		{counting(0, most), blank(), most},
		{counting(1, 0), blank(), 1},
		{blank(), counting(1, 0), 1},
		{strange(), counting(9, 5), 14},
		{counting(9, 5), strange(), 14},
		{counting(1, most), counting(1986, 0), 1986},
		{counting(1986, 0), counting(1, most), 1986},
		{counting(1, most), counting(1985, 0), 1985},
		{counting(10, 5), counting(15, 0), 15},
		{counting(10, 5), counting(15, 1), 16},
		{counting(10, 6), counting(15, 0), 16},
		{counting(10, 7), counting(8, 8), 17},
		{counting(8, 8), counting(10, 7), 17},
		{counting(api.MaxTally, 0), blank(), api.MaxTally},
		{blank(), counting(api.MaxTally, 0), api.MaxTally},
		{counting(api.MaxTally, most), blank(), api.MaxTally + most},
		{counting(api.MaxTally+1, 0), blank(), 0},
		{counting(api.MaxTally+1, 3), counting(2, 3), 5},
		{counting(api.MaxTally-1, 1), counting(api.MaxTally, 1), api.MaxTally + 1},
		{counting(ones, 3), blank(), 0},
		{counting(ones-1, 3), blank(), 0},
	} {
		_, d, c := counter(t, x.one, x.two)
		if c.Count() != x.want {
			t.Errorf("%d: Count: %d, not %d", i, c.Count(), x.want)
		}
		counts(t, d, c, x.want)
	}
}

// P6.1: each bit of the base, once and turned, is held against the other one.
func TestBaseTurned(t *testing.T) {
	for _, base := range []uint32{0, 1, 1986, 0x55555555, 0x7FFFFFFF, 0x80000000} {
		_, d, c := counter(t, counting(base, 4), blank())
		counts(t, d, c, int(base)+4)
		for bit := range 32 {
			for word := range 2 {
				l := counting(base, 4)
				l[word] ^= 1 << bit
				_, d, c := counter(t, l, counting(0, 2))
				counts(t, d, c, 2)
			}
		}
		l := counting(base, 4)
		l[1] = base
		_, d, c = counter(t, blank(), l)
		counts(t, d, c, 0)
	}
}

// P6.1: each bit of all the other words counts one, wherever it is, in both sectors.
func TestEachBit(t *testing.T) {
	n, d, c := counter(t, counting(7, 0), counting(7, 0))
	for sector := range 2 {
		for at := 2; at < 64; at++ {
			for bit := range 32 {
				want(t, "Rewrite", n.Rewrite(2+sector, at, []uint32{ones - 1<<bit}), api.OK)
				if c.Count() != 8 {
					t.Fatalf("the bit %d of the word %d of sector %d: Count: %d", bit, at, sector, c.Count())
				}
			}
			want(t, "Rewrite", n.Rewrite(2+sector, at, []uint32{0x00FF00FF}), api.OK)
			counts(t, d, c, 23)
			want(t, "Rewrite", n.Rewrite(2+sector, at, []uint32{ones}), api.OK)
			counts(t, d, c, 7)
		}
	}
}

// P6.2: within a sector each Step lets the highest bit fall of the first word that has one; it is one step of the flash.
func TestStepWithin(t *testing.T) {
	for _, second := range []bool{false, true} {
		sides := func(own, other []uint32) ([]uint32, []uint32) {
			if second {
				return other, own
			}
			return own, other
		}
		one, two := sides(counting(3000, 0), counting(1000, most))
		n, d, c := counter(t, one, two)
		for zeros := range most {
			n.Arm(1)
			steps(t, c, 1)
			if left := stepsLeft(n, 5); left != 0 {
				t.Fatalf("%d bits: %d steps were left, not 0", zeros, left)
			}
			n.Crash(nil)
			one, two = sides(counting(3000, zeros+1), counting(1000, most))
			has(t, n, one, two)
			counts(t, d, c, 3001+zeros)
		}
		if c.Over() {
			t.Error("over")
		}
	}
}

// P6.2: the bits that are 0 may be any: of the first word that is not 0 the highest one that is left falls.
func TestStepAmongOthers(t *testing.T) {
	n, d, c := counter(t, blank(), append([]uint32{5, ones - 5, 0, 0, 0x00100401, ones, 0}, repeat(0x80000000, 57)...))
	before := c.Count()
	for i, w := range []uint32{0x00000401, 0x00000001, 0} {
		steps(t, c, 1)
		has(t, n, blank(), append([]uint32{5, ones - 5, 0, 0, w, ones, 0}, repeat(0x80000000, 57)...))
		counts(t, d, c, before+i+1)
	}
	steps(t, c, 32)
	has(t, n, blank(), append([]uint32{5, ones - 5, 0, 0, 0, 0, 0}, repeat(0x80000000, 57)...))
	steps(t, c, 56)
	has(t, n, blank(), append([]uint32{5, ones - 5}, append(repeat(0, 61), 0x80000000)...))
	counts(t, d, c, 5+most-1)
	steps(t, c, 1)
	has(t, n, blank(), counting(5, most))
	steps(t, c, 1)
	has(t, n, counting(5+most+1, 0), counting(5, most))
	counts(t, d, c, 5+most+1)
}

// P6.2: a full sector goes on in the other one, whatever that has; without one of the tally's it is the first one. It is an erasing, and two words.
func TestStepOn(t *testing.T) {
	for i, x := range []struct {
		one, two, first, second []uint32
	}{
		{blank(), blank(), counting(1, 0), blank()},
		{strange(), strange(), counting(1, 0), strange()},
		{repeat(0, 64), repeat(0, 64), counting(1, 0), repeat(0, 64)},
		{counting(api.MaxTally+1, 0), counting(ones, 9), counting(1, 0), counting(ones, 9)},
		{counting(1, most), blank(), counting(1, most), counting(1986, 0)},
		{blank(), counting(1, most), counting(1986, 0), counting(1, most)},
		{counting(3970, most), counting(1986, most), counting(3970, most), counting(5955, 0)},
		{counting(1986, most), counting(3970, most), counting(5955, 0), counting(3970, most)},
		{counting(0, most), counting(1984, 0), counting(0, most), counting(1985, 0)},
		{counting(60, most), counting(60, most), counting(60, most), counting(2045, 0)},
		{counting(60, most), counting(7, 9), counting(60, most), counting(2045, 0)},
		{strange(), counting(60, most), counting(2045, 0), counting(60, most)},
		{counting(60, most), strange(), counting(60, most), counting(2045, 0)},
	} {
		n, d, c := counter(t, x.one, x.two)
		before := c.Count()
		n.Arm(3)
		steps(t, c, 1)
		if left := stepsLeft(n, 5); left != 0 {
			t.Errorf("%d: %d steps were left, not 0", i, left)
		}
		n.Crash(nil)
		has(t, n, x.first, x.second)
		counts(t, d, c, before+1)
		steps(t, c, 1)
		counts(t, d, c, before+2)
	}
}

// P6.2: of both that count the same the first one steps, else the one that counts more; one bit less than full is not full.
func TestStepWhere(t *testing.T) {
	for _, x := range []struct {
		one, two, first, second []uint32
	}{
		{counting(10, 5), counting(15, 0), counting(10, 6), counting(15, 0)},
		{counting(15, 0), counting(10, 5), counting(15, 1), counting(10, 5)},
		{counting(10, 5), counting(15, 1), counting(10, 5), counting(15, 2)},
		{counting(10, 6), counting(15, 0), counting(10, 7), counting(15, 0)},
		{counting(9, 0), counting(0, 0), counting(9, 1), counting(0, 0)},
		{counting(0, 0), counting(0, 0), counting(0, 1), counting(0, 0)},
		{counting(1984, 0), counting(0, most), counting(1984, 1), counting(0, most)},
		{blank(), counting(0, 0), blank(), counting(0, 1)},
		{counting(1, most-1), blank(), counting(1, most), blank()},
		{blank(), counting(1, most-1), blank(), counting(1, most)},
		{counting(1, most-1), counting(1, most-1), counting(1, most), counting(1, most-1)},
	} {
		n, d, c := counter(t, x.one, x.two)
		before := c.Count()
		n.Arm(1)
		steps(t, c, 1)
		if left := stepsLeft(n, 5); left != 0 {
			t.Errorf("%d steps were left, not 0", left)
		}
		n.Crash(nil)
		has(t, n, x.first, x.second)
		counts(t, d, c, before+1)
	}
}

// P6.2: through both sectors, over and over; a tally that is opened anew goes on.
func TestLong(t *testing.T) {
	n, d, c := counter(t, blank(), blank())
	for i := range 5 * 1985 {
		if i%97 == 0 {
			c = opened(t, d)
		}
		steps(t, c, 1)
		if c.Count() != i+1 {
			t.Fatalf("Count: %d, not %d", c.Count(), i+1)
		}
	}
	has(t, n, counting(4*1985+1, most), counting(3*1985+1, most))
	counts(t, d, c, 5*1985)
}

// P6.2: behind MaxTally there is no Step, and it is not over by that; the last one is done, by a bit or by a base.
func TestFull(t *testing.T) {
	for _, x := range []struct{ base, zeros int }{{api.MaxTally - 1, 0}, {api.MaxTally - 2, 1}, {api.MaxTally - most, most - 1}, {api.MaxTally - most - 1, most}} {
		n, d, c := counter(t, counting(uint32(x.base), x.zeros), blank())
		counts(t, d, c, api.MaxTally-1)
		steps(t, c, 1)
		counts(t, d, c, api.MaxTally)
		n.Arm(0)
		for range 3 {
			want(t, "Step of a count of MaxTally", c.Step(), api.ErrFull)
			want(t, "Step of another one", opened(t, d).Step(), api.ErrFull)
		}
		if c.Over() || n.Down() {
			t.Error("over, or something was done")
		}
		counts(t, d, c, api.MaxTally)
		if x.zeros < most {
			has(t, n, counting(uint32(x.base), x.zeros+1), blank())
		} else {
			has(t, n, counting(uint32(x.base), most), counting(api.MaxTally, 0))
		}
	}
	for _, x := range []struct{ base, zeros int }{{api.MaxTally, 0}, {api.MaxTally, 1}, {api.MaxTally, most}, {api.MaxTally - 3, 4}} {
		n, d, c := counter(t, strange(), counting(uint32(x.base), x.zeros))
		n.Arm(0)
		want(t, "Step of a count of more", c.Step(), api.ErrFull)
		counts(t, d, c, x.base+x.zeros)
		if c.Over() || n.Down() {
			t.Error("over, or something was done")
		}
		has(t, n, strange(), counting(uint32(x.base), x.zeros))
	}
	_, _, c := counter(t, counting(api.MaxTally+1, 0), counting(api.MaxTally-2, 1))
	steps(t, c, 1)
	want(t, "Step of what another base stands beside", c.Step(), api.ErrFull)
}

// isOver tells that a tally is: no Step does anything any more, with power or without.
func isOver(t *testing.T, n *nor.Nor, c *tally.Tally) {
	t.Helper()
	if !c.Over() {
		t.Fatal("not over")
	}
	if !n.Down() {
		n.Arm(0)
	}
	down := n.Down()
	want(t, "Step of one that is over", c.Step(), api.ErrEnded)
	if n.Down() != down || !c.Over() {
		t.Fatal("Step of one that is over does something")
	}
}

// P6.2, P6.3: the power fails in a Step within a sector, wherever it has come to: nothing has changed.
func TestFailsWithin(t *testing.T) {
	for zeros := range most {
		n, d, c := counter(t, counting(4000, zeros), counting(1985, most))
		n.Arm(0)
		want(t, "Step without power", c.Step(), api.ErrDown)
		if c.Count() != 4000+zeros {
			t.Fatalf("down: Count: %d, not %d", c.Count(), 4000+zeros)
		}
		isOver(t, n, c)
		n.Crash(keeps(true))
		has(t, n, counting(4000, zeros), counting(1985, most))
		counts(t, d, c, 4000+zeros)
		isOver(t, n, c)
		n.Crash(nil)
		next := opened(t, d)
		steps(t, next, 1)
		counts(t, d, next, 4001+zeros)
		isOver(t, n, c)
	}
}

// choices are which words are erased of what was half erased: all four of the first two, with none, all, each one alone, all but one, a beginning and an end of the others; and some of chance.
func choices(chance *rand.Rand) [][]bool {
	var l [][]bool
	add := func(erased func(i int) bool) {
		for first := range 4 {
			k := make([]bool, 64)
			for i := range k {
				k[i] = erased(i)
			}
			k[0], k[1] = first&1 != 0, first&2 != 0
			l = append(l, k)
		}
	}
	for at := 2; at <= 64; at++ {
		add(func(i int) bool { return i == at })
		add(func(i int) bool { return i != at })
		add(func(i int) bool { return i < at })
		add(func(i int) bool { return i >= at })
		add(func(i int) bool { return chance.Intn(2) == 0 })
	}
	return append(l, nil, []bool{true}, []bool{false, true}, slices.Repeat([]bool{true}, 100))
}

// erasedBy is a sector of which these words are erased.
func erasedBy(l []uint32, erased []bool) []uint32 {
	told := slices.Clone(l)
	for i := range told {
		if i < len(erased) && erased[i] {
			told[i] = ones
		}
	}
	return told
}

// going are pairs of sectors of which a Step goes on in the other one.
var going = []struct {
	own, other []uint32
	count      int
}{
	{counting(1, most), blank(), 1985},
	{counting(1986, most), counting(1, most), 3970},
	{counting(1986, most), counting(1, 700), 3970},
	{counting(1986, most), counting(1, 0), 3970},
	{counting(0, most), counting(1984, 0), 1984},
	{counting(0, most), counting(0, most), 1984},
	{counting(5000, most), strange(), 6984},
	{counting(5000, most), repeat(0, 64), 6984},
	{counting(5000, most), append([]uint32{0, 5}, repeat(0, 62)...), 6984},
	{counting(0, most), append([]uint32{0, 5}, repeat(0, 62)...), 1984},
	{counting(api.MaxTally-1-most, most), counting(api.MaxTally-2-2*most, most), api.MaxTally - 1},
}

// P6.2, P6.3: the power fails in the erasing of the other sector: whichever words are erased, the count is what it was, and goes on.
func TestFailsErasing(t *testing.T) {
	chance := rand.New(rand.NewSource(61))
	all := choices(chance)
	for i, x := range going {
		for _, k := range all {
			for _, again := range []bool{false, true} {
				n, d, c := counter(t, x.own, x.other)
				n.Arm(0)
				want(t, "Step without power", c.Step(), api.ErrDown)
				if !n.Down() || c.Count() != x.count {
					t.Fatalf("%d, down: Count: %d, not %d", i, c.Count(), x.count)
				}
				n.Crash(k)
				is := erasedBy(x.other, k)
				has(t, n, x.own, is)
				counts(t, d, c, x.count)
				isOver(t, n, c)
				n.Crash(nil)
				if again {
					n.Arm(0)
					want(t, "Step without power once more", opened(t, d).Step(), api.ErrDown)
					k = all[chance.Intn(len(all))]
					n.Crash(k)
					has(t, n, x.own, erasedBy(is, k))
				}
				next := opened(t, d)
				counts(t, d, next, x.count)
				steps(t, next, 1)
				has(t, n, x.own, counting(uint32(x.count+1), 0))
				counts(t, d, next, x.count+1)
			}
		}
	}
}

// P6.2, P6.3: the power fails at each step of a Step that goes on in the other sector, the first one or the second one: behind the erasing, behind the base; the count is what it was, till the base stands there turned, too.
func TestFailsGoingOn(t *testing.T) {
	for _, x := range going {
		for _, second := range []bool{false, true} {
			if second && x.count == 1984 {
				continue // of both the same the first one is the tally's
			}
			for done := range 4 {
				one, two := x.own, x.other
				is := [][]uint32{x.other, blank(), append([]uint32{uint32(x.count + 1)}, repeat(ones, 63)...), counting(uint32(x.count+1), 0)}[done]
				first, last := x.own, is
				if second {
					one, two, first, last = two, one, last, first
				}
				n, d, c := counter(t, one, two)
				n.Arm(done)
				e := c.Step()
				if done < 3 {
					want(t, "Step with less steps than it takes", e, api.ErrDown)
					if c.Count() != x.count {
						t.Fatalf("down behind %d steps: Count: %d, not %d", done, c.Count(), x.count)
					}
					n.Crash(nil)
					has(t, n, first, last)
					counts(t, d, c, x.count)
					isOver(t, n, c)
					n.Crash(nil)
					steps(t, opened(t, d), 1)
					counts(t, d, c, x.count+1)
					continue
				}
				want(t, "Step with the steps it takes", e, api.OK)
				n.Crash(nil)
				has(t, n, first, last)
				counts(t, d, c, x.count+1)
			}
		}
	}
}

// P6.2, P6.3: the power fails at each step of the first Step of all.
func TestFailsAtFirst(t *testing.T) {
	chance := rand.New(rand.NewSource(62))
	for _, other := range [][]uint32{blank(), strange(), counting(api.MaxTally+5, 3)} {
		for done := range 3 {
			for _, k := range choices(chance) {
				n, d, c := counter(t, strange(), other)
				n.Arm(done)
				want(t, "Step with less steps than it takes", c.Step(), api.ErrDown)
				if c.Count() != 0 {
					t.Fatalf("down: Count: %d", c.Count())
				}
				n.Crash(k)
				has(t, n, [][]uint32{erasedBy(strange(), k), blank(), append([]uint32{1}, repeat(ones, 63)...)}[done], other)
				counts(t, d, c, 0)
				isOver(t, n, c)
				n.Crash(nil)
				next := opened(t, d)
				steps(t, next, 2)
				counts(t, d, next, 2)
			}
		}
	}
}

// P6.3: a life of crashes of chance: each Step that told OK counts, each one that did not at most once, and none goes back.
func TestLifeOfCrashes(t *testing.T) {
	chance := rand.New(rand.NewSource(63))
	all := choices(chance)
	for range 40 {
		// Near the end of a sector there are more steps of the flash a Step takes.
		n, d, c := counter(t, counting(1, most-20), blank())
		count := c.Count()
		for range 300 {
			if chance.Intn(8) == 0 {
				n.Arm(chance.Intn(6))
			}
			e := c.Step()
			if e == api.OK {
				count++
			} else if e != api.ErrDown {
				t.Fatalf("Step: %d", e)
			}
			if c.Count() != count {
				t.Fatalf("Count: %d, not %d", c.Count(), count)
			}
			if c.Over() != (e != api.OK) {
				t.Fatalf("Step: %d, over: %v", e, c.Over())
			}
			if n.Down() {
				n.Crash(all[chance.Intn(len(all))])
				c = opened(t, d)
				if is := c.Count(); is != count && is != count+1 {
					t.Fatalf("behind a crash: Count: %d, not %d, nor one more", is, count)
				}
				count = c.Count()
			}
			if chance.Intn(50) == 0 { // on to the end of a sector
				n.Crash(nil)
				for c.Count()%1985 < 1980 {
					steps(t, c, 1)
				}
				count = c.Count()
			}
		}
	}
}

// Errors: ErrNil, ErrEnded, ErrFull, the drive's, in this order; ErrFull ends nothing.
func TestOrderOfErrors(t *testing.T) {
	n, _, c := counter(t, counting(api.MaxTally, 0), blank())
	fail(t, n)
	want(t, "Step of a full count, down", c.Step(), api.ErrFull)
	if c.Over() {
		t.Error("over behind ErrFull")
	}
	n, _, c = counter(t, counting(api.MaxTally-1, 0), blank())
	fail(t, n)
	want(t, "Step, down", c.Step(), api.ErrDown)
	want(t, "Step of one that is over, down", c.Step(), api.ErrEnded)
	n.Crash(nil)
	want(t, "Rewrite", n.Rewrite(2, 2, []uint32{0}), api.OK)
	want(t, "Step of one that is over, of a full count", c.Step(), api.ErrEnded)
	fail(t, n)
	want(t, "Step of one that is over, of a full count, down", c.Step(), api.ErrEnded)
	copied := *c
	want(t, "Step of none, that is over, of a full count, down", copied.Step(), api.ErrNil)
}

// P6.1, P6.3: without power the count is what it was when it was known last: it is never less. Count ends nothing.
func TestCountWhileDown(t *testing.T) {
	for _, x := range []struct {
		one, two []uint32
		want     int
	}{{blank(), blank(), 0}, {counting(4, 5), blank(), 9}, {counting(1, most), counting(1986, 3), 1989}, {counting(api.MaxTally, 7), strange(), api.MaxTally + 7}} {
		n, d, c := counter(t, x.one, x.two)
		fail(t, n)
		for range 3 {
			if c.Count() != x.want || c.Over() {
				t.Errorf("down: Count: %d, not %d; over: %v", c.Count(), x.want, c.Over())
			}
		}
		n.Crash(nil)
		counts(t, d, c, x.want)
		if x.want < api.MaxTally {
			steps(t, c, 1)
			fail(t, n)
			if c.Count() != x.want+1 {
				t.Errorf("down behind a Step: Count: %d, not %d", c.Count(), x.want+1)
			}
		}
	}
}

// P6.1, P6.2: what another hand has written is what counts, and what is gone on from.
func TestAnotherHand(t *testing.T) {
	n, d, c := counter(t, counting(1, 3), blank())
	counts(t, d, c, 4)
	want(t, "Rewrite", n.Rewrite(3, 0, counting(40, 2)), api.OK)
	counts(t, d, c, 42)
	steps(t, c, 1)
	has(t, n, counting(1, 3), counting(40, 3))
	want(t, "Rewrite", n.Rewrite(3, 1, []uint32{0}), api.OK)
	counts(t, d, c, 4)
	steps(t, c, 1)
	counts(t, d, c, 5)
	want(t, "Rewrite", n.Rewrite(2, 0, blank()), api.OK)
	counts(t, d, c, 0)
	steps(t, c, 1)
	is := counting(40, 3)
	is[1] = 0
	has(t, n, counting(1, 0), is)
	want(t, "Rewrite", n.Rewrite(2, 2, repeat(0, 62)), api.OK)
	counts(t, d, c, 1985)
	steps(t, c, 1)
	has(t, n, counting(1, most), counting(1986, 0))
	want(t, "Rewrite", n.Rewrite(3, 0, counting(api.MaxTally, 1)), api.OK)
	want(t, "Step of what is full by another hand", c.Step(), api.ErrFull)
	want(t, "Rewrite", n.Rewrite(3, 0, counting(ones, 1)), api.OK)
	fail(t, n)
	want(t, "Rewrite, down", n.Rewrite(2, 0, counting(50, 1)), api.OK)
	n.Crash(nil)
	counts(t, d, c, 51)
	steps(t, c, 1)
	has(t, n, counting(50, 2), counting(ones, 1))
}

// P6.1: tallies of one drive share it: each Step of each of them counts; one is over alone.
func TestTwoTallies(t *testing.T) {
	n, d, c := counter(t, counting(1, most-10), blank())
	other := opened(t, d)
	for i := range 20 {
		steps(t, c, 1)
		steps(t, other, 1)
		if c.Count() != 1+most-10+2*(i+1) || other.Count() != c.Count() {
			t.Fatalf("%d Steps each: Count: %d and %d", i+1, c.Count(), other.Count())
		}
	}
	fail(t, n)
	want(t, "Step, down", c.Step(), api.ErrDown)
	n.Crash(nil)
	if !c.Over() || other.Over() {
		t.Error("over: not the one alone")
	}
	steps(t, other, 5)
	counts(t, d, c, other.Count())
	isOver(t, n, c)
	_, d, alone := counter(t, blank(), blank())
	counts(t, d, alone, 0)
}

// P6.2: protected sectors are no other ones to a tally.
func TestProtected(t *testing.T) {
	n, e := nor.New(2, 2)
	want(t, "New", e, api.OK)
	d, e := drive.Open(n, 0, 2)
	want(t, "drive.Open", e, api.OK)
	c := opened(t, d)
	steps(t, c, 2*1985+1)
	counts(t, d, c, 2*1985+1)
}

// R5: tallies that Open did not answer; nothing is done by them.
func TestNoTally(t *testing.T) {
	n, _, c := counter(t, counting(4, 5), blank())
	copied := *c
	var none tally.Tally
	m, _, ended := counter(t, counting(4, 5), blank())
	fail(t, m)
	want(t, "Step, down", ended.Step(), api.ErrDown)
	over := *ended
	for _, down := range []bool{false, true} {
		if down {
			fail(t, n)
		} else {
			n.Arm(0)
		}
		for i, x := range []*tally.Tally{nil, {}, &none, &copied, &over} {
			want(t, "Step of none", x.Step(), api.ErrNil)
			if x.Count() != 0 || x.Over() {
				t.Errorf("none (%d): Count %d, over: %v", i, x.Count(), x.Over())
			}
			want(t, "Step of none once more", x.Step(), api.ErrNil)
		}
		if n.Down() != down {
			t.Fatal("something was done")
		}
	}
	n.Crash(keeps(true))
	has(t, n, counting(4, 5), blank())
	steps(t, c, 1)
}

// R1, R5: a drive, or a flash, that is none any more has an error of its own.
func TestDriveThatIsGone(t *testing.T) {
	n, d, c := counter(t, counting(4, 5), blank())
	*n = nor.Nor{}
	if x, e := tally.Open(d); x != nil || e != api.ErrNil {
		t.Errorf("Open: %v %d", x, e)
	}
	if c.Count() != 9 || c.Over() {
		t.Errorf("Count: %d, over: %v", c.Count(), c.Over())
	}
	want(t, "Step", c.Step(), api.ErrNil)
	want(t, "Step once more", c.Step(), api.ErrEnded)
	_, d, c = counter(t, counting(4, 5), blank())
	*d = drive.Drive{}
	want(t, "Step", c.Step(), api.ErrNil)
	if c.Count() != 9 || !c.Over() {
		t.Errorf("Count: %d, over: %v", c.Count(), c.Over())
	}
}

// model is the chapter's words, written out a second time, bit by bit, of both sectors.
type model [2][]uint32

// tells is the tally's sector (below 0: none), and its count.
func (m *model) tells() (int, int) {
	sector, count := -1, 0
	for i := 1; i >= 0; i-- {
		base := m[i][0]
		if base > 1<<31 || base+m[i][1] != ones || base&m[i][1] != 0 {
			continue
		}
		n := int(base)
		for _, w := range m[i][2:] {
			for bit := range 32 {
				if w>>bit&1 == 0 {
					n++
				}
			}
		}
		if sector < 0 || n >= count {
			sector, count = i, n
		}
	}
	return sector, count
}

// step does a Step with power.
func (m *model) step() api.Errno {
	sector, count := m.tells()
	if count >= 1<<31 {
		return api.ErrFull
	}
	if sector >= 0 {
		for at := 2; at < 64; at++ {
			for bit := 31; bit >= 0; bit-- {
				if m[sector][at]>>bit&1 == 1 {
					m[sector][at] -= 1 << bit
					return api.OK
				}
			}
		}
	}
	other := 0
	if sector == 0 {
		other = 1
	}
	m[other] = counting(uint32(count+1), 0)
	return api.OK
}

// someSector is one of chance, mostly one that counts.
func someSector(chance *rand.Rand) []uint32 {
	l := counting(uint32(chance.Intn(3)*1000+chance.Intn(50)), chance.Intn(3)*(most-40)/2+chance.Intn(40))
	switch chance.Intn(10) {
	case 0:
		return blank()
	case 1:
		l[chance.Intn(64)] = chance.Uint32()
	case 2:
		copy(l, counting(uint32(api.MaxTally-most-40+chance.Intn(80)), 0)[:2])
	case 3:
		return counting(uint32(api.MaxTally-2+chance.Intn(4)), chance.Intn(3))
	case 4:
		for i := range 62 {
			l[2+i] = chance.Uint32() & chance.Uint32() & chance.Uint32()
		}
	case 5:
		copy(l[2:], repeat(0, 61))
	}
	return l
}

// P6.1, P6.2: sectors of chance against the model, Step by Step.
func TestAgainstModel(t *testing.T) {
	chance := rand.New(rand.NewSource(64))
	for range 1500 {
		m := model{someSector(chance), someSector(chance)}
		n, d, c := counter(t, m[0], m[1])
		for range 40 {
			_, count := m.tells()
			counts(t, d, c, count)
			if e := m.step(); c.Step() != e {
				t.Fatalf("Step of a count of %d: not %d", count, e)
			}
			has(t, n, m[0], m[1])
			if chance.Intn(20) == 0 {
				at := chance.Intn(2)
				m[at] = someSector(chance)
				want(t, "Rewrite", n.Rewrite(2+at, 0, m[at]), api.OK)
			}
		}
	}
}
