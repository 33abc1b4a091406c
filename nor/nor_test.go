package nor_test

import (
	"math"
	"math/rand"
	"slices"
	"testing"

	"blockhouse/api"
	"blockhouse/nor"
)

const ones = math.MaxUint32

// made is a flash that may be.
func made(t *testing.T, sectors, guard int) *nor.Nor {
	t.Helper()
	n, e := nor.New(sectors, guard)
	if e != api.OK || n == nil {
		t.Fatalf("New(%d, %d): %d", sectors, guard, e)
	}
	return n
}

func want(t *testing.T, what string, got, want api.Errno) {
	t.Helper()
	if got != want {
		t.Errorf("%s: error %d, not %d", what, got, want)
	}
}

// reads are the words of the sector from the place on.
func reads(t *testing.T, n *nor.Nor, sector, at int, want ...uint32) {
	t.Helper()
	for i, w := range want {
		if got, e := n.Read(sector, at+i); got != w || e != api.OK {
			t.Errorf("Read(%d, %d): %d %d, not %d", sector, at+i, got, e, w)
		}
	}
}

// all are all words of a flash that is not down, sector by sector.
func all(t *testing.T, n *nor.Nor) []uint32 {
	t.Helper()
	var l []uint32
	for sector := range n.Sectors() {
		for at := range api.Words {
			w, e := n.Read(sector, at)
			if e != api.OK {
				t.Fatalf("Read(%d, %d): %d", sector, at, e)
			}
			l = append(l, w)
		}
	}
	return l
}

// repeat is the same word so many times.
func repeat(w uint32, many int) []uint32 {
	return slices.Repeat([]uint32{w}, many)
}

// filled is a flash of three sectors, the first one protected, whose words tell where they are.
func filled(t *testing.T) *nor.Nor {
	t.Helper()
	n := made(t, 3, 1)
	for sector := range 3 {
		l := make([]uint32, api.Words)
		for at := range l {
			l[at] = mark(sector, at)
		}
		want(t, "Program", n.Program(sector, 0, l), api.OK)
	}
	return n
}

// mark is what filled has at a place.
func mark(sector, at int) uint32 {
	return uint32(1000*(sector+1) + at)
}

// marks are the words of filled, but for those of one sector that were erased.
func marks(erased int, which func(at int) bool) []uint32 {
	var l []uint32
	for sector := range 3 {
		for at := range api.Words {
			if sector == erased && which(at) {
				l = append(l, ones)
			} else {
				l = append(l, mark(sector, at))
			}
		}
	}
	return l
}

func never(int) bool { return false }

func always(int) bool { return true }

// fail lets the power fail without a step that is done.
func fail(t *testing.T, n *nor.Nor) {
	t.Helper()
	n.Arm(0)
	want(t, "Program without power", n.Program(0, 0, []uint32{0}), api.ErrDown)
	if !n.Down() {
		t.Fatal("not down")
	}
}

// failErasing lets the power fail in the erasing of the sector.
func failErasing(t *testing.T, n *nor.Nor, sector int) {
	t.Helper()
	n.Arm(0)
	want(t, "Erase without power", n.Erase(sector), api.ErrDown)
	if !n.Down() {
		t.Fatal("not down")
	}
}

// stepsLeft is how many steps are done before the power fails; at most most.
func stepsLeft(t *testing.T, n *nor.Nor, most int) int {
	t.Helper()
	for done := range most {
		if n.Program(0, 0, []uint32{ones}) != api.OK {
			return done
		}
	}
	return most
}

// The chapter's examples.
func TestExamples(t *testing.T) {
	n := made(t, 4, 2)
	want(t, "Program 12", n.Program(1, 0, []uint32{12}), api.OK)
	reads(t, n, 1, 0, 12)
	want(t, "Program 10", n.Program(1, 0, []uint32{10}), api.OK)
	reads(t, n, 1, 0, 8)
	want(t, "Erase", n.Erase(1), api.OK)
	reads(t, n, 1, 0, 4294967295)
	want(t, "Program 12", n.Program(1, 0, []uint32{12}), api.OK)
	n.Arm(1)
	want(t, "Program 1 2 3", n.Program(1, 5, []uint32{1, 2, 3}), api.ErrDown)
	n.Crash(nil)
	reads(t, n, 1, 5, 1, 4294967295, 4294967295)
	n.Arm(0)
	want(t, "Erase", n.Erase(1), api.ErrDown)
	n.Crash([]bool{false, false, false, false, false, true})
	reads(t, n, 1, 0, 12)
	reads(t, n, 1, 5, 4294967295)
	want(t, "Rewrite(1)", n.Rewrite(1, 0, []uint32{7}), api.ErrGuard)
	want(t, "Rewrite(2)", n.Rewrite(2, 0, []uint32{7}), api.OK)
	reads(t, n, 2, 0, 7)
}

// P4.1: which flashes may be.
func TestNew(t *testing.T) {
	for _, sectors := range []int{1, 2, 3, 12, 1023, 1024} {
		for _, guard := range []int{0, 1, sectors - 1, sectors} {
			n := made(t, sectors, guard)
			if n.Sectors() != sectors || n.Guard() != guard {
				t.Errorf("New(%d, %d): %d sectors, %d protected", sectors, guard, n.Sectors(), n.Guard())
			}
			if n.Down() {
				t.Errorf("New(%d, %d): down", sectors, guard)
			}
		}
		for _, guard := range []int{-1, sectors + 1, math.MinInt, math.MaxInt} {
			if n, e := nor.New(sectors, guard); n != nil || e != api.ErrArg {
				t.Errorf("New(%d, %d): %v %d", sectors, guard, n, e)
			}
		}
	}
	for _, sectors := range []int{0, -1, 1025, math.MinInt, math.MaxInt} {
		for _, guard := range []int{0, 1, sectors} {
			if n, e := nor.New(sectors, guard); n != nil || e != api.ErrArg {
				t.Errorf("New(%d, %d): %v %d", sectors, guard, n, e)
			}
		}
	}
}

// P4.1, Words: at first all words are of ones, and no flash is armed.
func TestNewIsOfOnes(t *testing.T) {
	for _, sectors := range []int{1, 2, 1024} {
		n := made(t, sectors, sectors/2)
		if !slices.Equal(all(t, n), repeat(ones, 64*sectors)) {
			t.Errorf("%d sectors: not of ones", sectors)
		}
		if done := stepsLeft(t, n, 1000); done != 1000 {
			t.Errorf("%d sectors: down behind %d steps", sectors, done)
		}
	}
}

// P4.1: each place has a word of its own, and each flash its own words.
func TestReadEachPlace(t *testing.T) {
	one, two := filled(t), made(t, 3, 1)
	for sector := range 3 {
		for at := range api.Words {
			reads(t, one, sector, at, mark(sector, at))
		}
	}
	if !slices.Equal(all(t, two), repeat(ones, 3*64)) {
		t.Error("two flashes share words")
	}
	one.Arm(0)
	if done := stepsLeft(t, two, 3); done != 3 {
		t.Error("two flashes share their power")
	}
}

// P4.1: places that are not there.
func TestReadRefuses(t *testing.T) {
	n := filled(t)
	for _, x := range []struct{ sector, at int }{
		{-1, 0}, {3, 0}, {math.MinInt, 0}, {math.MaxInt, 0},
		{0, -1}, {0, 64}, {0, 65}, {2, 64}, {2, math.MaxInt}, {2, math.MinInt}, {1, -64}, {3, -1},
	} {
		if w, e := n.Read(x.sector, x.at); w != 0 || e != api.ErrArg {
			t.Errorf("Read(%d, %d): %d %d", x.sector, x.at, w, e)
		}
	}
	one := made(t, 1, 0)
	reads(t, one, 0, 63, ones)
	if w, e := one.Read(1, 0); w != 0 || e != api.ErrArg {
		t.Errorf("Read(1, 0) of one sector: %d %d", w, e)
	}
	last := made(t, 1024, 0)
	reads(t, last, 1023, 63, ones)
	if w, e := last.Read(1024, 0); w != 0 || e != api.ErrArg {
		t.Errorf("Read(1024, 0) of 1024 sectors: %d %d", w, e)
	}
}

// P4.2: a word has of its bits those that the one that is programmed has, too.
func TestProgramLetsBitsFall(t *testing.T) {
	n := made(t, 1, 0)
	chance := rand.New(rand.NewSource(4))
	for range 200 {
		want(t, "Erase", n.Erase(0), api.OK)
		is := uint32(ones)
		for range 6 {
			w := chance.Uint32() | chance.Uint32()
			want(t, "Program", n.Program(0, 7, []uint32{w}), api.OK)
			for bit := range 32 {
				if w>>bit&1 == 0 && is>>bit&1 == 1 {
					is -= 1 << bit
				}
			}
			reads(t, n, 0, 6, ones, is, ones)
		}
	}
	for bit := range 32 {
		want(t, "Erase", n.Erase(0), api.OK)
		want(t, "Program", n.Program(0, bit, []uint32{ones - 1<<bit}), api.OK)
		want(t, "Program again", n.Program(0, bit, []uint32{1 << bit}), api.OK)
		reads(t, n, 0, bit, 0)
	}
}

// P4.2: words from a place on, up to the sector's end, in protected and external sectors; no other word is touched.
func TestProgramPlaces(t *testing.T) {
	for sector := range 3 {
		for _, x := range []struct{ at, many int }{{0, 64}, {0, 1}, {1, 63}, {62, 2}, {63, 1}, {31, 5}} {
			n := made(t, 3, 1)
			l := make([]uint32, x.many)
			is := repeat(ones, 3*64)
			for i := range l {
				l[i] = uint32(7 * (i + 1))
				is[64*sector+x.at+i] = l[i]
			}
			want(t, "Program", n.Program(sector, x.at, l), api.OK)
			if !slices.Equal(all(t, n), is) {
				t.Errorf("Program(%d, %d) of %d words: not these alone", sector, x.at, x.many)
			}
		}
	}
}

// noPlaces are those at which no so many words have place, of three sectors.
var noPlaces = []struct{ sector, at, many int }{
	{0, 0, 65}, {1, 1, 64}, {2, 63, 2}, {2, 62, 3}, {0, 64, 1}, {0, 65, 0}, {1, -1, 0}, {1, -1, 1}, {1, -1, 2}, {1, -64, 64},
	{-1, 0, 1}, {3, 0, 1}, {-1, 0, 0}, {3, 0, 0}, {-1, 63, 2}, {3, 64, 1}, {math.MinInt, 0, 1}, {math.MaxInt, 0, 1},
	{1, math.MaxInt, 1}, {1, math.MaxInt, 64}, {1, math.MinInt, 1}, {1, math.MinInt, 64}, {0, 0, 100000},
}

// P4.2, P4.3: Program and Rewrite refuse what has no place; nothing has changed then, and no step was taken.
func TestNoPlace(t *testing.T) {
	n := filled(t)
	n.Arm(1)
	for _, x := range noPlaces {
		l := make([]uint32, x.many)
		if e := n.Program(x.sector, x.at, l); e != api.ErrArg {
			t.Errorf("Program(%d, %d) of %d words: %d", x.sector, x.at, x.many, e)
		}
		if e := n.Rewrite(x.sector, x.at, l); e != api.ErrArg {
			t.Errorf("Rewrite(%d, %d) of %d words: %d", x.sector, x.at, x.many, e)
		}
	}
	for _, sector := range []int{-1, 3, math.MinInt, math.MaxInt} {
		want(t, "Erase of no sector", n.Erase(sector), api.ErrArg)
	}
	if !slices.Equal(all(t, n), marks(0, never)) {
		t.Error("something has changed")
	}
	if done := stepsLeft(t, n, 9); done != 1 {
		t.Errorf("%d steps were left, not 1", done)
	}
}

// P4.2, P4.3: no words have place everywhere up to a sector's end; nothing is done, and no step is taken.
func TestNoWords(t *testing.T) {
	n := filled(t)
	n.Arm(0)
	for _, l := range [][]uint32{nil, {}} {
		for _, at := range []int{0, 5, 63, 64} {
			want(t, "Program of no words", n.Program(1, at, l), api.OK)
			want(t, "Rewrite of no words", n.Rewrite(1, at, l), api.OK)
			want(t, "Rewrite of no words, protected", n.Rewrite(0, at, l), api.ErrGuard)
		}
	}
	if n.Down() || !slices.Equal(all(t, n), marks(0, never)) {
		t.Error("something was done")
	}
	if done := stepsLeft(t, n, 9); done != 0 {
		t.Errorf("%d steps were left, not 0", done)
	}
	want(t, "Program of no words, down", n.Program(1, 0, nil), api.ErrDown)
}

// P4.2: a sector is erased, whole and alone, protected or not.
func TestErase(t *testing.T) {
	for sector := range 3 {
		n := filled(t)
		want(t, "Erase", n.Erase(sector), api.OK)
		if !slices.Equal(all(t, n), marks(sector, always)) {
			t.Errorf("Erase(%d): not this one alone", sector)
		}
		want(t, "Program", n.Program(sector, 3, []uint32{5}), api.OK)
		reads(t, n, sector, 2, ones, 5, ones)
	}
}

// P4.2, Words: of an armed flash so many words are programmed, by one call or by several, and then it is down.
func TestArmedProgram(t *testing.T) {
	for armed := range 12 {
		for _, many := range []int{1, 2, 3, 10, 11} {
			n := filled(t)
			is := all(t, n)
			n.Arm(armed)
			done := 0
			for done+many <= armed {
				want(t, "Program", n.Program(1, 20, repeat(0, many)), api.OK)
				done += many
			}
			if n.Down() {
				t.Fatalf("armed with %d: down behind %d steps", armed, done)
			}
			want(t, "Program", n.Program(2, 30, repeat(0, many)), api.ErrDown)
			if !n.Down() {
				t.Fatalf("armed with %d: not down behind %d steps", armed, done+many)
			}
			n.Crash(slices.Repeat([]bool{true}, 64))
			for i := range many {
				if done > 0 {
					is[64+20+i] = 0
				}
				if i < armed-done {
					is[2*64+30+i] = 0
				}
			}
			if !slices.Equal(all(t, n), is) {
				t.Errorf("armed with %d, %d words at once: not the first ones", armed, many)
			}
		}
	}
}

// P4.2, Words: an erasing is one step; a step that is the last one is done.
func TestArmedErase(t *testing.T) {
	n := filled(t)
	n.Arm(2)
	want(t, "Erase", n.Erase(1), api.OK)
	want(t, "Erase", n.Erase(0), api.OK)
	if n.Down() {
		t.Fatal("down behind 2 of 2 steps")
	}
	reads(t, n, 0, 0, repeat(ones, 64)...)
	reads(t, n, 1, 0, repeat(ones, 64)...)
	want(t, "Erase", n.Erase(2), api.ErrDown)
	n.Crash(nil)
	reads(t, n, 2, 0, marks(2, never)[128:]...)
	n.Arm(3)
	want(t, "Program", n.Program(2, 0, []uint32{0, 0}), api.OK)
	want(t, "Erase", n.Erase(2), api.OK)
	want(t, "Program", n.Program(2, 1, []uint32{4}), api.ErrDown)
	n.Crash(slices.Repeat([]bool{true}, 64))
	reads(t, n, 2, 0, repeat(ones, 64)...)
}

// Words: only words that are programmed and sectors that are erased are steps.
func TestWhatIsNoStep(t *testing.T) {
	n := filled(t)
	n.Arm(2)
	for range 10 {
		reads(t, n, 1, 3, mark(1, 3))
		want(t, "Rewrite", n.Rewrite(2, 0, []uint32{1, 2, 3}), api.OK)
		want(t, "Rewrite, protected", n.Rewrite(0, 0, []uint32{1}), api.ErrGuard)
		n.Sectors()
		n.Guard()
		n.Down()
	}
	if done := stepsLeft(t, n, 9); done != 2 {
		t.Errorf("%d steps were left, not 2", done)
	}
}

// P4.3: armed with 0, below 0, and again: the last number counts.
func TestArm(t *testing.T) {
	for _, x := range []struct {
		arms  []int
		steps int
	}{
		{[]int{0}, 0}, {[]int{-1}, 0}, {[]int{math.MinInt}, 0}, {[]int{1}, 1}, {[]int{63}, 63}, {[]int{64}, 64},
		{[]int{5, 2}, 2}, {[]int{2, 5}, 5}, {[]int{0, 3}, 3}, {[]int{3, -7}, 0}, {[]int{math.MaxInt}, 500},
	} {
		n := made(t, 1, 0)
		for _, steps := range x.arms {
			n.Arm(steps)
		}
		if n.Down() {
			t.Errorf("armed with %v: down at once", x.arms)
		}
		if done := stepsLeft(t, n, 500); done != x.steps {
			t.Errorf("armed with %v: down behind %d steps, not %d", x.arms, done, x.steps)
		}
	}
	n := made(t, 1, 0)
	n.Arm(3)
	stepsLeft(t, n, 2)
	n.Arm(3)
	if done := stepsLeft(t, n, 9); done != 3 {
		t.Errorf("armed again under way: down behind %d steps, not 3", done)
	}
}

// Errors: of a flash that is down, ErrDown is told ahead of ErrArg; another hand needs no power, and its errors are in their order.
func TestDown(t *testing.T) {
	n := filled(t)
	fail(t, n)
	for _, x := range noPlaces {
		l := make([]uint32, x.many)
		want(t, "Program without place, down", n.Program(x.sector, x.at, l), api.ErrDown)
		want(t, "Rewrite without place, down", n.Rewrite(x.sector, x.at, l), api.ErrArg)
	}
	for sector := -1; sector < 4; sector++ {
		for at := -1; at < 66; at++ {
			if w, e := n.Read(sector, at); w != 0 || e != api.ErrDown {
				t.Errorf("Read(%d, %d), down: %d %d", sector, at, w, e)
			}
		}
		want(t, "Erase, down", n.Erase(sector), api.ErrDown)
		want(t, "Program, down", n.Program(sector, 0, []uint32{0}), api.ErrDown)
	}
	if n.Sectors() != 3 || n.Guard() != 1 || !n.Down() {
		t.Errorf("down: %d sectors, %d protected, %v", n.Sectors(), n.Guard(), n.Down())
	}
	want(t, "Rewrite, down", n.Rewrite(1, 2, []uint32{7, ones}), api.OK)
	want(t, "Rewrite, protected, down", n.Rewrite(0, 2, []uint32{7}), api.ErrGuard)
	n.Crash(slices.Repeat([]bool{true}, 64))
	is := marks(0, never)
	is[64+2], is[64+3] = 7, ones
	if !slices.Equal(all(t, n), is) {
		t.Error("behind the crash there is not what was there, with what another hand wrote")
	}
}

// P4.3: a flash that is down is not armed, then and behind the crash.
func TestArmWhileDown(t *testing.T) {
	for _, steps := range []int{-1, 0, 1, 5} {
		n := filled(t)
		fail(t, n)
		n.Arm(steps)
		if !n.Down() {
			t.Errorf("Arm(%d): not down any more", steps)
		}
		want(t, "Program, down", n.Program(1, 0, []uint32{0}), api.ErrDown)
		n.Crash(nil)
		if done := stepsLeft(t, n, 100); done != 100 {
			t.Errorf("Arm(%d) while it was down: down again behind %d steps", steps, done)
		}
	}
}

// P4.3: whom another hand reaches: external sectors alone, whichever way bits go.
func TestRewrite(t *testing.T) {
	for guard := range 4 {
		n := made(t, 3, guard)
		for sector := range 3 {
			for _, x := range []struct{ at, many int }{{0, 64}, {63, 1}, {10, 5}} {
				before := all(t, n)
				for _, w := range []uint32{0, ones, 12, 10} {
					e := n.Rewrite(sector, x.at, repeat(w, x.many))
					if sector < guard {
						want(t, "Rewrite of a protected sector", e, api.ErrGuard)
						continue
					}
					want(t, "Rewrite", e, api.OK)
					for i := range x.many {
						before[64*sector+x.at+i] = w
					}
				}
				if !slices.Equal(all(t, n), before) {
					t.Errorf("guard %d, Rewrite(%d, %d) of %d words: not these alone", guard, sector, x.at, x.many)
				}
			}
		}
	}
}

// P4.3: of a sector that is half erased the words are of ones that are told so; keeps may be shorter, or longer.
func TestCrashHalfErased(t *testing.T) {
	pattern := func(many int) []bool {
		l := make([]bool, many)
		for i := range l {
			l[i] = i%3 == 1 || i == 63 || i == 0
		}
		return l
	}
	lists := [][]bool{nil, {}, {true}, {false}, slices.Repeat([]bool{true}, 64), slices.Repeat([]bool{true}, 1000), make([]bool, 64)}
	for _, many := range []int{2, 62, 63, 64, 65, 66, 128, 300} {
		lists = append(lists, pattern(many))
	}
	for _, keeps := range lists {
		for sector := range 3 {
			n := filled(t)
			failErasing(t, n, sector)
			n.Crash(keeps)
			if n.Down() {
				t.Fatal("down behind a crash")
			}
			is := marks(sector, func(at int) bool { return at < len(keeps) && keeps[at] })
			if !slices.Equal(all(t, n), is) {
				t.Errorf("sector %d, %d keeps: not as they tell", sector, len(keeps))
			}
		}
	}
}

// P4.3: behind a crash no sector is half erased, and the flash is not armed.
func TestCrashEndsAll(t *testing.T) {
	every := slices.Repeat([]bool{true}, 64)
	n := filled(t)
	failErasing(t, n, 1)
	n.Crash(nil)
	n.Crash(every)
	if !slices.Equal(all(t, n), marks(0, never)) {
		t.Error("half erased behind a crash, still")
	}
	if done := stepsLeft(t, n, 100); done != 100 {
		t.Errorf("down again behind %d steps", done)
	}
	fail(t, n)
	n.Crash(every)
	if !slices.Equal(all(t, n), marks(0, never)) {
		t.Error("half erased behind two crashes, still")
	}
	failErasing(t, n, 2)
	n.Crash(every)
	if !slices.Equal(all(t, n), marks(2, always)) {
		t.Error("not the sector that was erased last is half erased")
	}
}

// P4.3: a crash of a flash that is not down takes its arming, and nothing else.
func TestCrashOfOneThatIsUp(t *testing.T) {
	for _, steps := range []int{-1, 0, 1, 50} {
		n := filled(t)
		n.Arm(steps)
		n.Crash(slices.Repeat([]bool{true}, 64))
		if n.Down() || !slices.Equal(all(t, n), marks(0, never)) {
			t.Errorf("armed with %d: something has changed", steps)
		}
		if done := stepsLeft(t, n, 100); done != 100 {
			t.Errorf("armed with %d: down behind %d steps", steps, done)
		}
	}
}

// P4.3: an erasing that is not begun, for want of the sector or of power, half erases none.
func TestNotHalfErased(t *testing.T) {
	every := slices.Repeat([]bool{true}, 64)
	n := filled(t)
	n.Arm(0)
	want(t, "Erase of no sector", n.Erase(3), api.ErrArg)
	fail(t, n)
	want(t, "Erase, down", n.Erase(1), api.ErrDown)
	n.Crash(every)
	if !slices.Equal(all(t, n), marks(0, never)) {
		t.Error("half erased without power")
	}
	failErasing(t, n, 2)
	want(t, "Erase, down", n.Erase(1), api.ErrDown)
	want(t, "Erase, down", n.Erase(0), api.ErrDown)
	n.Crash(every)
	if !slices.Equal(all(t, n), marks(2, always)) {
		t.Error("not the sector whose erasing failed is half erased")
	}
}

// P4.3: what another hand writes into a sector that is half erased is one of its words: it stays, or is erased, as keeps tells.
func TestRewriteOfHalfErased(t *testing.T) {
	n := filled(t)
	failErasing(t, n, 1)
	want(t, "Rewrite", n.Rewrite(1, 0, []uint32{7, 8, ones, 9}), api.OK)
	n.Crash([]bool{true, false, false, false, true})
	reads(t, n, 1, 0, ones, 8, ones, 9, ones, mark(1, 5))
}

// power is what a model knows of a flash, written out a second time: words by their number, the steps that are left (below 0: it is not armed), the sector that is half erased (below 0: none).
type power struct {
	words      []uint32
	guard      int
	left, half int
	down       bool
}

func (p *power) fits(sector, at, many int) bool {
	return sector >= 0 && 64*(sector+1) <= len(p.words) && at >= 0 && at+many <= 64
}

// takes tells whether a step is done.
func (p *power) takes() bool {
	switch {
	case p.left < 0:
		return true
	case p.left == 0:
		p.left, p.down = -1, true
		return false
	}
	p.left--
	return true
}

func (p *power) program(sector, at int, l []uint32) api.Errno {
	if p.down {
		return api.ErrDown
	}
	if !p.fits(sector, at, len(l)) {
		return api.ErrArg
	}
	for i, w := range l {
		if !p.takes() {
			return api.ErrDown
		}
		k := 64*sector + at + i
		p.words[k] = ^(^p.words[k] | ^w)
	}
	return api.OK
}

func (p *power) erase(sector int) api.Errno {
	if p.down {
		return api.ErrDown
	}
	if !p.fits(sector, 0, 64) {
		return api.ErrArg
	}
	if !p.takes() {
		p.half = sector
		return api.ErrDown
	}
	copy(p.words[64*sector:], repeat(ones, 64))
	return api.OK
}

func (p *power) rewrite(sector, at int, l []uint32) api.Errno {
	if !p.fits(sector, at, len(l)) {
		return api.ErrArg
	}
	if sector < p.guard {
		return api.ErrGuard
	}
	copy(p.words[64*sector+at:], l)
	return api.OK
}

func (p *power) crash(keeps []bool) {
	for i, keep := range keeps {
		if p.half >= 0 && keep && i < 64 {
			p.words[64*p.half+i] = ones
		}
	}
	p.half, p.left, p.down = -1, -1, false
}

// someWords are up to most words, of chance.
func someWords(chance *rand.Rand, most int) []uint32 {
	l := make([]uint32, chance.Intn(most+1))
	for i := range l {
		l[i] = chance.Uint32() | chance.Uint32()
	}
	return l
}

// someKeeps are up to most of them, of chance.
func someKeeps(chance *rand.Rand, most int) []bool {
	l := make([]bool, chance.Intn(most+1))
	for i := range l {
		l[i] = chance.Intn(2) == 0
	}
	return l
}

// act does the same to a flash and to the model.
func act(t *testing.T, chance *rand.Rand, n *nor.Nor, p *power) {
	t.Helper()
	sector, at := chance.Intn(n.Sectors()+2)-1, chance.Intn(68)-2
	switch chance.Intn(6) {
	case 0, 1:
		l := someWords(chance, 12)
		want(t, "Program", n.Program(sector, at, l), p.program(sector, at, l))
	case 2:
		want(t, "Erase", n.Erase(sector), p.erase(sector))
	case 3:
		l := someWords(chance, 12)
		want(t, "Rewrite", n.Rewrite(sector, at, l), p.rewrite(sector, at, l))
	case 4:
		steps := chance.Intn(14) - 2
		n.Arm(steps)
		if !p.down {
			p.left = max(steps, 0)
		}
	case 5:
		if !p.down && chance.Intn(4) != 0 {
			return // so that most flashes come to be down
		}
		keeps := someKeeps(chance, 80)
		n.Crash(keeps)
		p.crash(keeps)
	}
}

// P4.1 to P4.3: many flashes of chance, call by call, against the model.
func TestAgainstModel(t *testing.T) {
	chance := rand.New(rand.NewSource(41))
	for range 60 {
		sectors := 1 + chance.Intn(4)
		guard := chance.Intn(sectors + 1)
		n := made(t, sectors, guard)
		p := &power{words: repeat(ones, 64*sectors), guard: guard, left: -1, half: -1}
		for range 200 {
			act(t, chance, n, p)
			if n.Down() != p.down {
				t.Fatalf("down: %v, not %v", n.Down(), p.down)
			}
			if !p.down && !slices.Equal(all(t, n), p.words) {
				t.Fatal("the words are not as the model has them")
			}
		}
	}
}

// P4.4: no bit rises by Program, or by a crash behind it; by Erase, done or not, bits rise in its sector alone, word by word and whole.
func TestWhatFollows(t *testing.T) {
	chance := rand.New(rand.NewSource(44))
	for range 400 {
		n := filled(t)
		before := all(t, n)
		n.Arm(chance.Intn(9))
		sector := chance.Intn(3)
		if chance.Intn(2) == 0 {
			n.Program(sector, chance.Intn(54), someWords(chance, 10))
			n.Crash(someKeeps(chance, 70))
			for k, w := range all(t, n) {
				if w|before[k] != before[k] {
					t.Fatalf("the word %d: %d has risen to %d by Program", k, before[k], w)
				}
			}
			continue
		}
		n.Arm(chance.Intn(2))
		n.Erase(sector)
		n.Crash(someKeeps(chance, 70))
		for k, w := range all(t, n) {
			if w != before[k] && (w != ones || k/64 != sector) {
				t.Fatalf("the word %d: %d has come to be %d by Erase(%d)", k, before[k], w, sector)
			}
		}
	}
}

// P4.4: whichever step of a long Program is the last one, a beginning of the words is programmed, the others are as they were.
func TestEveryStepOfProgram(t *testing.T) {
	l := make([]uint32, 64)
	for i := range l {
		l[i] = uint32(i * i)
	}
	for steps := range 66 {
		n := filled(t)
		n.Arm(steps)
		e := n.Program(1, 0, l)
		if (e == api.OK) != (steps >= 64) || e != api.OK && e != api.ErrDown || n.Down() != (e == api.ErrDown) {
			t.Errorf("armed with %d: %d", steps, e)
		}
		n.Crash(slices.Repeat([]bool{true}, 64))
		is := marks(0, never)
		for i := range min(steps, 64) {
			is[64+i] &= l[i]
		}
		if !slices.Equal(all(t, n), is) {
			t.Errorf("armed with %d: not the first %d words", steps, min(steps, 64))
		}
	}
}

// R5: a flash that is none; a copy of one is none, too.
func TestNoFlash(t *testing.T) {
	whole := filled(t)
	copied := *whole
	for i, n := range []*nor.Nor{nil, {}, new(nor.Nor), &copied} {
		n.Arm(0)
		n.Crash(nil)
		n.Crash([]bool{true, false, true})
		for _, x := range []struct{ sector, at int }{{0, 0}, {1, 1}, {-1, 0}, {0, 64}, {math.MaxInt, math.MinInt}} {
			if w, e := n.Read(x.sector, x.at); w != 0 || e != api.ErrNil {
				t.Errorf("%d: Read(%d, %d): %d %d", i, x.sector, x.at, w, e)
			}
			for _, l := range [][]uint32{nil, {1}, make([]uint32, 65)} {
				want(t, "Program", n.Program(x.sector, x.at, l), api.ErrNil)
				want(t, "Rewrite", n.Rewrite(x.sector, x.at, l), api.ErrNil)
			}
			want(t, "Erase", n.Erase(x.sector), api.ErrNil)
		}
		if n.Sectors() != 0 || n.Guard() != 0 || n.Down() {
			t.Errorf("%d: %d sectors, %d protected, %v", i, n.Sectors(), n.Guard(), n.Down())
		}
	}
	if whole.Sectors() != 3 || stepsLeft(t, whole, 9) != 9 || !slices.Equal(all(t, whole), marks(0, never)) {
		t.Error("a copy reached the flash")
	}
	fail(t, whole)
	copied = *whole
	if copied.Down() {
		t.Error("a copy of a flash that is down is down")
	}
}

// R3: lists that are handed in are neither changed nor kept, their spare room neither.
func TestListsStay(t *testing.T) {
	n := made(t, 2, 0)
	room := []uint32{1, 2, 3, 4}
	keeps := []bool{true, false, true, true}
	want(t, "Program", n.Program(0, 0, []uint32{0, 2}), api.OK)
	want(t, "Program", n.Program(0, 0, room[:3]), api.OK)
	want(t, "Rewrite", n.Rewrite(1, 0, room[:3]), api.OK)
	failErasing(t, n, 0)
	n.Crash(keeps[:2])
	if !slices.Equal(room, []uint32{1, 2, 3, 4}) || !slices.Equal(keeps, []bool{true, false, true, true}) {
		t.Error("a list has changed")
	}
	clear(room)
	clear(keeps)
	reads(t, n, 0, 0, ones, 2, 3, ones)
	reads(t, n, 1, 0, 1, 2, 3, ones)
}
