package blocks_test

import (
	"fmt"
	"math"
	"math/rand"
	"slices"
	"strconv"
	"strings"
	"testing"

	"blockhouse/api"
	"blockhouse/blocks"
)

const (
	maxTime  = int64(1) << 50
	least    = int64(-1) << 31
	greatest = int64(1)<<31 - 1
	maxUdint = int64(1)<<32 - 1
)

// kind is what the chapters say of one: the pins by the numbers of their types, and what it uses, by a letter a field (see fields).
type kind struct{ ins, outs, uses string }

var kinds = map[api.BKind]kind{
	1:  {"15", "15", "wgfeq"},
	2:  {"15", "15", "wgfeq"},
	3:  {"15", "15", "wgfeq"},
	4:  {"114", "14", "wcq"},
	5:  {"114", "14", "wcq"},
	6:  {"11114", "114", "wxcqp"},
	7:  {"1", "1", "wq"},
	8:  {"1", "1", "wq"},
	9:  {"11", "1", "q"},
	10: {"11", "1", "q"},
	11: {"111", "41", "wxrcq"},
}

// ranges are those of the types bool, dint and udint, by their numbers.
var ranges = map[rune][2]int64{'1': {0, 1}, '4': {least, greatest}, '5': {0, maxUdint}}

// fields tells of each field of a block, by its letter, its number: 0 is nothing.
func fields(b api.Block) map[rune]int64 {
	bit := func(is bool) int64 { return map[bool]int64{true: 1}[is] }
	return map[rune]int64{'w': bit(b.Was[0]), 'x': bit(b.Was[1]), 'r': bit(b.Ran), 'g': bit(b.Going), 'f': b.From, 'e': b.ET, 'c': b.CV, 'q': bit(b.Q), 'p': bit(b.P)}
}

// rightBy is the chapter's definition, written out a second time.
func rightBy(b api.Block) bool {
	k, ok := kinds[b.Kind]
	for letter, n := range fields(b) {
		ok = ok && (n == 0 || strings.ContainsRune(k.uses, letter))
	}
	ok = ok && b.From >= 0 && b.From <= maxTime && b.ET >= 0 && b.ET <= maxTime && b.CV >= least && b.CV <= greatest
	return ok && !(b.From != 0 && !b.Going)
}

// inputsBy tells whether these are inputs of that kind.
func inputsBy(k api.BKind, in []int64) bool {
	pins := kinds[k].ins
	if len(in) != len(pins) {
		return false
	}
	for n, t := range pins {
		if in[n] < ranges[t][0] || in[n] > ranges[t][1] {
			return false
		}
	}
	return true
}

// disk is the points of two tracks in the order in which they go around.
const disk = "00 10 11 01"

// placeBy is a point's on the disk.
func placeBy(a, b bool) int {
	return strings.Index(disk, strings.NewReplacer("true", "1", "false", "0", " ", "").Replace(fmt.Sprint(a, " ", b))) / 3
}

// countBy is a count and a step further, as far as that goes.
func countBy(cv, step int64) int64 {
	if step > 0 && cv != greatest {
		return cv + 1
	}
	if step < 0 && cv != least {
		return cv - 1
	}
	return cv
}

// timeBy is what the chapter says of timers.
func timeBy(b api.Block, in, risen bool, pt, now int64) api.Block {
	begins := !b.Going && (b.Kind == api.BTon && in || b.Kind == api.BTof && !in && b.Q || b.Kind == api.BTp && risen)
	if begins {
		b.Going, b.From = true, now
	}
	elapsed := now - b.From
	if now < b.From {
		elapsed = 0
	}
	et := slices.Min([]int64{elapsed, pt})
	switch {
	case b.Kind == api.BTon && !in:
		b.Going, b.From, b.ET, b.Q = false, 0, 0, false
	case b.Kind == api.BTon:
		b.ET, b.Q = et, elapsed >= pt
	case b.Kind == api.BTof && in:
		b.Going, b.From, b.ET, b.Q = false, 0, 0, true
	case b.Kind == api.BTof && b.Q:
		b.ET = et
		if elapsed >= pt {
			b.Q, b.Going, b.From = false, false, 0
		}
	case b.Kind == api.BTp:
		b.Q = b.Q || begins
		if b.Going {
			b.ET = et
			if elapsed >= pt {
				b.Going, b.From, b.Q = false, 0, false
			}
		}
		if !b.Going && !in {
			b.ET = 0
		}
	}
	return b
}

// runBy is the chapter's words of a Run, written out a second time.
func runBy(b api.Block, in []int64, now int64) (api.Block, api.Errno) {
	if !rightBy(b) {
		return b, api.ErrState
	}
	if !inputsBy(b.Kind, in) || now < 0 || now > maxTime {
		return b, api.ErrArg
	}
	var on, rose [5]bool
	for n := range in {
		on[n] = in[n] == 1
		rose[n] = on[n] && n < 2 && !b.Was[n]
	}
	fell := !on[0] && b.Was[0]
	from := placeBy(b.Was[0], b.Was[1])
	switch b.Kind {
	case api.BTon, api.BTof, api.BTp:
		b = timeBy(b, on[0], rose[0], in[1], now)
	case api.BCtu:
		if on[1] {
			b.CV = 0
		} else if rose[0] {
			b.CV = countBy(b.CV, 1)
		}
		b.Q = !(b.CV < in[2])
	case api.BCtd:
		if on[1] {
			b.CV = in[2]
		} else if rose[0] {
			b.CV = countBy(b.CV, -1)
		}
		b.Q = !(b.CV > 0)
	case api.BCtud:
		if on[2] {
			b.CV = 0
		} else if on[3] {
			b.CV = in[4]
		} else if rose[0] && !rose[1] {
			b.CV = countBy(b.CV, 1)
		} else if rose[1] && !rose[0] {
			b.CV = countBy(b.CV, -1)
		}
		b.Q, b.P = !(b.CV < in[4]), !(b.CV > 0)
	case api.BRtrig:
		b.Q = rose[0]
	case api.BFtrig:
		b.Q = fell
	case api.BSr:
		if on[0] || on[1] {
			b.Q = on[0]
		}
	case api.BRs:
		if on[0] || on[1] {
			b.Q = !on[1]
		}
	case api.BQuad:
		turned := (placeBy(on[0], on[1]) - from + 4) % 4
		if on[2] {
			b.CV, b.Q = 0, false
		} else if b.Ran {
			b.CV = countBy(b.CV, []int64{0, 1, 0, -1}[turned])
			b.Q = b.Q || turned == 2
		}
		b.Ran = true
	}
	for n, letter := range "wx" {
		if strings.ContainsRune(kinds[b.Kind].uses, letter) {
			b.Was[n] = on[n]
		}
	}
	return b, api.OK
}

// outsBy is the chapter's words of Outs, written out a second time: by a letter a pin (see fields).
func outsBy(b api.Block) []int64 {
	if !rightBy(b) {
		return nil
	}
	pins := []string{1: "qe", 2: "qe", 3: "qe", 4: "qc", 5: "qc", 6: "qpc", 7: "q", 8: "q", 9: "q", 10: "q", 11: "cq"}[b.Kind]
	var l []int64
	for _, letter := range pins {
		n := fields(b)[letter]
		if letter == 'e' && n > maxUdint {
			n = maxUdint
		}
		l = append(l, n)
	}
	return l
}

// wantAsBy wants Right, Outs and Run to answer as the second model does, and tells what Run told.
func wantAsBy(t *testing.T, b api.Block, in []int64, now int64) (api.Block, api.Errno) {
	t.Helper()
	if blocks.Right(b) != rightBy(b) {
		t.Fatalf("Right %v of %+v", blocks.Right(b), b)
	}
	if l := blocks.Outs(b); !slices.Equal(l, outsBy(b)) {
		t.Fatalf("Outs %v of %+v", l, b)
	}
	got, e := blocks.Run(b, in, now)
	want, wantE := runBy(b, in, now)
	if got != want || e != wantE {
		t.Fatalf("%+v, %d; not %+v, %d; of %+v with %v at %d", got, e, want, wantE, b, in, now)
	}
	if e == api.OK && !blocks.Right(got) {
		t.Fatalf("%+v is not right, of %+v with %v at %d", got, b, in, now)
	}
	return got, e
}

// numbers are those that a text says.
func numbers(t *testing.T, s string) []int64 {
	t.Helper()
	var l []int64
	for _, f := range strings.Fields(s) {
		n, err := strconv.ParseInt(f, 10, 64)
		if err != nil {
			t.Fatal(err)
		}
		l = append(l, n)
	}
	return l
}

// playOn runs a block by lines: "inputs @tick: outputs" (the tick 0, if none is said). It tells the block then.
func playOn(t *testing.T, b api.Block, lines ...string) api.Block {
	t.Helper()
	for k, line := range lines {
		says, outs, _ := strings.Cut(line, ":")
		says, at, _ := strings.Cut(says, "@")
		tick := append(numbers(t, at), 0)[0]
		next, e := wantAsBy(t, b, numbers(t, says), tick)
		if e != api.OK {
			t.Fatalf("line %d, %s: %d", k, line, e)
		}
		if l := blocks.Outs(next); !slices.Equal(l, numbers(t, outs)) {
			t.Fatalf("line %d, %s: %v", k, line, l)
		}
		b = next
	}
	return b
}

// play runs a new block.
func play(t *testing.T, k api.BKind, lines ...string) api.Block {
	t.Helper()
	b, e := blocks.New(k)
	if e != api.OK {
		t.Fatal(k, e)
	}
	return playOn(t, b, lines...)
}

// wantBlock wants b to be that one.
func wantBlock(t *testing.T, b, want api.Block) {
	t.Helper()
	if b != want {
		t.Fatalf("%+v, not %+v", b, want)
	}
}

// P15.1: New of each number that a kind may have.
func TestNew(t *testing.T) {
	for k := range 256 {
		want, wantE := api.Block{}, api.ErrArg
		if k >= 1 && k <= 11 {
			want, wantE = api.Block{Kind: api.BKind(k)}, api.OK
		}
		if b, e := blocks.New(api.BKind(k)); b != want || e != wantE {
			t.Errorf("New(%d): %+v, %d", k, b, e)
		}
		if blocks.Right(want) != (wantE == api.OK) || blocks.Right(api.Block{Kind: api.BKind(k)}) != (wantE == api.OK) {
			t.Errorf("Right of a new one of %d", k)
		}
	}
}

// around are the fields that are tried of a block, wrong ones, too.
var around = struct{ from, et, cv []int64 }{
	[]int64{math.MinInt64, -1, 0, 1, maxUdint, maxTime, maxTime + 1, math.MaxInt64},
	[]int64{math.MinInt64, -1, 0, 1, maxUdint, maxUdint + 1, maxTime, maxTime + 1, math.MaxInt64},
	[]int64{math.MinInt64, least - 1, least, -1, 0, 1, greatest, greatest + 1, maxUdint + 1, math.MaxInt64},
}

// flagged is b with its truths by the bits of a number.
func flagged(b api.Block, bits int) api.Block {
	for n, f := range []*bool{&b.Was[0], &b.Was[1], &b.Ran, &b.Going, &b.Q, &b.P} {
		*f = bits>>n&1 == 1
	}
	return b
}

// P15.1: Right and Outs of each kind (and of those beside them) with all fields together.
func TestRightByFields(t *testing.T) {
	count := [12]int{}
	for _, k := range []api.BKind{0, 1, 2, 3, 4, 5, 6, 7, 8, 9, 10, 11, 12, 13, 127, 128, 255} {
		for bits := range 64 {
			for _, from := range around.from {
				for _, et := range around.et {
					for _, cv := range around.cv {
						b := flagged(api.Block{Kind: k, From: from, ET: et, CV: cv}, bits)
						right := rightBy(b)
						if blocks.Right(b) != right {
							t.Fatalf("Right: %v of %+v", !right, b)
						}
						if l := blocks.Outs(b); !slices.Equal(l, outsBy(b)) || !right && l != nil {
							t.Fatalf("Outs: %v of %+v", l, b)
						}
						if right {
							count[k]++
						}
					}
				}
			}
		}
	}
	// Of timers: Was and Q, ETs, and From of one that goes on, or none.
	timers := 4 * 5 * (4 + 1)
	if want := [12]int{0, timers, timers, timers, 20, 20, 80, 4, 4, 2, 2, 80}; count != want {
		t.Errorf("%v are right, not %v", count, want)
	}
}

// P15.1: what a block may not have, by hand.
func TestRightByHand(t *testing.T) {
	for _, b := range []api.Block{
		{Kind: api.BTon, Was: [2]bool{true}, Going: true, From: maxTime, ET: maxTime, Q: true},
		{Kind: api.BTof, Going: true},
		{Kind: api.BTp, ET: 5},
		{Kind: api.BCtu, Was: [2]bool{true}, CV: greatest, Q: true},
		{Kind: api.BCtd, Was: [2]bool{true}, CV: least, Q: true},
		{Kind: api.BCtud, Was: [2]bool{true, true}, CV: -1, Q: true, P: true},
		{Kind: api.BRtrig, Was: [2]bool{true}, Q: true},
		{Kind: api.BFtrig, Was: [2]bool{true}, Q: true},
		{Kind: api.BSr, Q: true},
		{Kind: api.BRs, Q: true},
		{Kind: api.BQuad, Was: [2]bool{true, true}, Ran: true, CV: 1, Q: true},
	} {
		if !blocks.Right(b) {
			t.Errorf("%+v is right", b)
		}
		wantAsBy(t, b, make([]int64, len(kinds[b.Kind].ins)), 1)
	}
	for _, b := range []api.Block{
		{},
		{Kind: 12},
		{Kind: 255},
		{Kind: api.BTon, Going: true, From: -1},
		{Kind: api.BTon, Going: true, From: maxTime + 1},
		{Kind: api.BTon, ET: -1},
		{Kind: api.BTon, ET: maxTime + 1},
		{Kind: api.BTon, From: 1},
		{Kind: api.BTof, From: 1},
		{Kind: api.BTp, From: 1},
		{Kind: api.BTon, Was: [2]bool{false, true}},
		{Kind: api.BTof, Ran: true},
		{Kind: api.BTp, CV: 1},
		{Kind: api.BTp, P: true},
		{Kind: api.BCtu, CV: greatest + 1},
		{Kind: api.BCtd, CV: least - 1},
		{Kind: api.BCtu, P: true},
		{Kind: api.BCtu, Was: [2]bool{false, true}},
		{Kind: api.BCtd, P: true},
		{Kind: api.BCtd, ET: 1},
		{Kind: api.BCtud, CV: greatest + 1},
		{Kind: api.BCtud, Going: true},
		{Kind: api.BCtud, Going: true, From: 1},
		{Kind: api.BRtrig, Was: [2]bool{false, true}},
		{Kind: api.BRtrig, CV: 1},
		{Kind: api.BFtrig, Ran: true},
		{Kind: api.BSr, Was: [2]bool{true}},
		{Kind: api.BRs, Was: [2]bool{true}},
		{Kind: api.BSr, Was: [2]bool{false, true}},
		{Kind: api.BRs, P: true},
		{Kind: api.BQuad, P: true},
		{Kind: api.BQuad, ET: 1},
		{Kind: api.BQuad, CV: least - 1},
		{Kind: api.BQuad, Going: true},
	} {
		if blocks.Right(b) || blocks.Outs(b) != nil {
			t.Errorf("%+v is not right", b)
		}
		wantAsBy(t, b, make([]int64, len(kinds[b.Kind].ins)), 1)
	}
}

// P15.1: outputs in the order of the pins.
func TestOuts(t *testing.T) {
	for _, k := range []api.BKind{api.BTon, api.BTof, api.BTp} {
		for et, want := range map[int64]int64{0: 0, 7: 7, maxUdint - 1: maxUdint - 1, maxUdint: maxUdint, maxUdint + 1: maxUdint, maxTime: maxUdint} {
			if l := blocks.Outs(api.Block{Kind: k, Q: true, ET: et}); !slices.Equal(l, []int64{1, want}) {
				t.Error(k, et, l)
			}
			if l := blocks.Outs(api.Block{Kind: k, Going: true, From: 3, Was: [2]bool{true}, ET: et}); !slices.Equal(l, []int64{0, want}) {
				t.Error(k, et, l)
			}
		}
	}
	for _, x := range []struct {
		b    api.Block
		want []int64
	}{
		{api.Block{Kind: api.BCtu, CV: 7}, []int64{0, 7}},
		{api.Block{Kind: api.BCtu, CV: -7, Q: true}, []int64{1, -7}},
		{api.Block{Kind: api.BCtd, CV: least}, []int64{0, least}},
		{api.Block{Kind: api.BCtd, CV: greatest, Q: true}, []int64{1, greatest}},
		{api.Block{Kind: api.BCtud, CV: 7, Q: true}, []int64{1, 0, 7}},
		{api.Block{Kind: api.BCtud, CV: -7, P: true}, []int64{0, 1, -7}},
		{api.Block{Kind: api.BRtrig, Was: [2]bool{true}}, []int64{0}},
		{api.Block{Kind: api.BRtrig, Q: true}, []int64{1}},
		{api.Block{Kind: api.BFtrig, Was: [2]bool{true}}, []int64{0}},
		{api.Block{Kind: api.BFtrig, Q: true}, []int64{1}},
		{api.Block{Kind: api.BSr}, []int64{0}},
		{api.Block{Kind: api.BSr, Q: true}, []int64{1}},
		{api.Block{Kind: api.BRs}, []int64{0}},
		{api.Block{Kind: api.BRs, Q: true}, []int64{1}},
		{api.Block{Kind: api.BQuad, Ran: true, CV: -5}, []int64{-5, 0}},
		{api.Block{Kind: api.BQuad, CV: 5, Q: true}, []int64{5, 1}},
	} {
		if l := blocks.Outs(x.b); !slices.Equal(l, x.want) {
			t.Errorf("%+v: %v, not %v", x.b, l, x.want)
		}
	}
}

// wantRefused wants Run to tell that error, and b as it was.
func wantRefused(t *testing.T, b api.Block, in []int64, now int64, want api.Errno) {
	t.Helper()
	if got, e := wantAsBy(t, b, in, now); got != b || e != want {
		t.Fatalf("%+v, %d; not %d, of %+v with %v at %d", got, e, want, b, in, now)
	}
}

// busy is a right block of that kind of which all is there that it uses.
func busy(k api.BKind) api.Block {
	uses := func(letter string) int64 { return int64(strings.Count(kinds[k].uses, letter)) }
	is := func(letter string) bool { return uses(letter) == 1 }
	return api.Block{Kind: k, Was: [2]bool{is("w"), is("x")}, Ran: is("r"), Going: is("g"), From: 3 * uses("f"), ET: 2 * uses("e"), CV: 4 * uses("c"), Q: is("q"), P: is("p")}
}

// P15.2: what Run refuses, each kind by itself, new or not.
func TestRefused(t *testing.T) {
	for k, x := range kinds {
		zeros, ones := make([]int64, len(x.ins)), slices.Repeat([]int64{1}, len(x.ins))
		for _, b := range []api.Block{{Kind: k}, busy(k)} {
			for _, in := range [][]int64{zeros, ones} {
				for _, now := range []int64{0, 5, maxTime} {
					if _, e := wantAsBy(t, b, in, now); e != api.OK {
						t.Errorf("%d of %+v with %v at %d", e, b, in, now)
					}
				}
				for _, now := range []int64{math.MinInt64, -maxTime, -1, maxTime + 1, math.MaxInt64} {
					wantRefused(t, b, in, now, api.ErrArg)
				}
				wantRefused(t, b, nil, 5, api.ErrArg)
				wantRefused(t, b, []int64{}, 5, api.ErrArg)
				wantRefused(t, b, in[1:], 5, api.ErrArg)
				wantRefused(t, b, in[:len(in)-1], 5, api.ErrArg)
				wantRefused(t, b, append(slices.Clone(in), 0), 5, api.ErrArg)
				wantRefused(t, b, append(slices.Clone(in), in...), 5, api.ErrArg)
				for n, pin := range x.ins {
					for _, off := range []int64{math.MinInt64, ranges[pin][0] - 1, ranges[pin][1] + 1, ranges[pin][1] + 1<<32, math.MaxInt64} {
						wrong := slices.Clone(in)
						wrong[n] = off
						wantRefused(t, b, wrong, 5, api.ErrArg)
						wantRefused(t, b, wrong, -1, api.ErrArg)
					}
				}
			}
		}
	}
}

// P15.2: a block that is not right, with inputs that are and are not: ErrState counts first, and it is told as it was.
func TestNotRight(t *testing.T) {
	for k := range 256 {
		b := busy(api.BKind(min(k, 11)))
		b.Kind = api.BKind(k)
		if b.P {
			b.From = 1
		} else {
			b.P = true
		}
		for _, in := range [][]int64{nil, {0}, {1, 1}, {1, 1, 1}, {0, 0, 0, 0, 0}, {2, 2, 2}, {-1, -1}} {
			for _, now := range []int64{-1, 0, 5, maxTime, maxTime + 1} {
				wantRefused(t, b, in, now, api.ErrState)
			}
		}
	}
	for _, b := range []api.Block{{}, {Kind: 12, CV: greatest, Q: true}, {Kind: api.BTon, Going: true, From: maxTime + 1}, {Kind: api.BTof, ET: -1}, {Kind: api.BTp, From: 2}, {Kind: api.BCtu, CV: greatest + 1}, {Kind: api.BSr, CV: 1}, {Kind: api.BSr, Was: [2]bool{true}}} {
		wantRefused(t, b, make([]int64, len(kinds[b.Kind].ins)), 5, api.ErrState)
		wantRefused(t, b, nil, -1, api.ErrState)
	}
}

// The chapter's examples.
func TestExamples(t *testing.T) {
	play(t, api.BTon, "1 5 @10: 0 0", "1 5 @14: 0 4", "1 5 @15: 1 5", "0 5 @16: 0 0")
	play(t, api.BCtu, "1 0 2: 0 1", "0 0 2: 0 1", "1 0 2: 1 2")
	play(t, api.BQuad, "0 0 0: 0 0", "1 0 0: 1 0", "1 1 0: 2 0", "0 0 0: 2 1")
}

// P15.2: a BTon.
func TestOnLate(t *testing.T) {
	b := play(t, api.BTon, "0 5 @9: 0 0", "1 5 @10: 0 0")
	wantBlock(t, b, api.Block{Kind: api.BTon, Was: [2]bool{true}, Going: true, From: 10})
	b = playOn(t, b, "1 5 @14: 0 4", "1 5 @15: 1 5", "1 5 @16: 1 5", "1 5 @900: 1 5")
	wantBlock(t, b, api.Block{Kind: api.BTon, Was: [2]bool{true}, Going: true, From: 10, ET: 5, Q: true})
	// Q is what elapsed and PT are now, not what it was.
	b = playOn(t, b, "1 5 @14: 0 4", "1 3 @14: 1 3", "1 9 @18: 0 8", "1 8 @18: 1 8")
	b = playOn(t, b, "0 5 @19: 0 0")
	wantBlock(t, b, api.Block{Kind: api.BTon})
	// It falls ahead of its time, and begins anew.
	play(t, api.BTon, "1 5 @10: 0 0", "1 5 @14: 0 4", "0 5 @15: 0 0", "1 5 @16: 0 0", "1 5 @20: 0 4", "1 5 @21: 1 5")
	// It begins at the tick 0; many runs at one tick.
	play(t, api.BTon, "1 2: 0 0", "1 2: 0 0", "1 2 @1: 0 1", "1 2 @1: 0 1", "1 2 @2: 1 2")
	// PT 0.
	b = play(t, api.BTon, "0 0 @3: 0 0", "1 0 @4: 1 0", "1 0 @9: 1 0", "0 0 @9: 0 0")
	wantBlock(t, b, api.Block{Kind: api.BTon})
	// PT at its greatest.
	play(t, api.BTon, "1 4294967295 @7: 0 0", "1 4294967295 @4294967301: 0 4294967294", "1 4294967295 @4294967302: 1 4294967295", "1 4294967295 @1125899906842624: 1 4294967295", "1 0 @1125899906842624: 1 0")
	// A tick that is less than the one at which the time began: none has elapsed.
	b = play(t, api.BTon, "1 5 @10: 0 0", "1 5 @9: 0 0", "1 0 @9: 1 0", "1 5 @0: 0 0", "1 5 @14: 0 4", "1 5 @15: 1 5")
	wantBlock(t, b, api.Block{Kind: api.BTon, Was: [2]bool{true}, Going: true, From: 10, ET: 5, Q: true})
	// From the first tick to the last one, and back.
	play(t, api.BTon, "1 4294967295 @0: 0 0", "1 4294967295 @1125899906842624: 1 4294967295")
	play(t, api.BTon, "1 1 @1125899906842624: 0 0", "1 1 @0: 0 0")
	// What it was is not asked: that it goes on is.
	playOn(t, api.Block{Kind: api.BTon, Going: true, From: 3}, "1 5 @7: 0 4")
	b = playOn(t, api.Block{Kind: api.BTon, Was: [2]bool{true}, ET: maxTime, Q: true}, "1 5 @7: 0 0")
	wantBlock(t, b, api.Block{Kind: api.BTon, Was: [2]bool{true}, Going: true, From: 7})
}

// P15.2: a BTof.
func TestOffLate(t *testing.T) {
	b := play(t, api.BTof, "0 3 @0: 0 0", "1 3 @1: 1 0", "1 3 @4: 1 0")
	wantBlock(t, b, api.Block{Kind: api.BTof, Was: [2]bool{true}, Q: true})
	b = playOn(t, b, "0 3 @5: 1 0")
	wantBlock(t, b, api.Block{Kind: api.BTof, Going: true, From: 5, Q: true})
	b = playOn(t, b, "0 3 @7: 1 2", "0 3 @8: 0 3")
	wantBlock(t, b, api.Block{Kind: api.BTof, ET: 3})
	// Without both nothing: ET stays, whatever PT and the tick.
	b = playOn(t, b, "0 3 @9: 0 3", "0 9 @99: 0 3", "0 0 @0: 0 3")
	b = playOn(t, b, "1 3 @9: 1 0", "0 3 @10: 1 0", "0 3 @11: 1 1")
	// It is on again ahead of its time.
	b = playOn(t, b, "1 3 @12: 1 0")
	wantBlock(t, b, api.Block{Kind: api.BTof, Was: [2]bool{true}, Q: true})
	playOn(t, b, "0 3 @13: 1 0", "0 3 @15: 1 2", "0 3 @20: 0 3")
	// PT 0; another PT in the midst.
	b = play(t, api.BTof, "1 0 @4: 1 0", "0 0 @4: 0 0", "0 0 @5: 0 0")
	wantBlock(t, b, api.Block{Kind: api.BTof})
	play(t, api.BTof, "1 9 @4: 1 0", "0 9 @5: 1 0", "0 9 @9: 1 4", "0 3 @9: 0 3")
	// PT at its greatest.
	play(t, api.BTof, "1 4294967295 @6: 1 0", "0 4294967295 @7: 1 0", "0 4294967295 @4294967301: 1 4294967294", "0 4294967295 @4294967302: 0 4294967295")
	// A tick that is less than the one at which the time began.
	play(t, api.BTof, "1 3 @9: 1 0", "0 3 @10: 1 0", "0 3 @9: 1 0", "0 3 @0: 1 0", "0 3 @12: 1 2", "0 3 @13: 0 3")
	play(t, api.BTof, "1 3 @9: 1 0", "0 3 @10: 1 0", "0 0 @9: 0 0")
	// What goes on without Q is right, and left.
	b = playOn(t, api.Block{Kind: api.BTof, Was: [2]bool{true}, Going: true, From: 3, ET: 1}, "0 0 @9: 0 1")
	wantBlock(t, b, api.Block{Kind: api.BTof, Going: true, From: 3, ET: 1})
	playOn(t, b, "1 0 @9: 1 0")
}

// P15.2: a BTp.
func TestPulse(t *testing.T) {
	b := play(t, api.BTp, "0 4 @9: 0 0", "1 4 @10: 1 0")
	wantBlock(t, b, api.Block{Kind: api.BTp, Was: [2]bool{true}, Going: true, From: 10, Q: true})
	// It stays.
	b = playOn(t, b, "1 4 @13: 1 3", "1 4 @14: 0 4")
	wantBlock(t, b, api.Block{Kind: api.BTp, Was: [2]bool{true}, ET: 4})
	b = playOn(t, b, "1 4 @15: 0 4", "1 4 @99: 0 4", "1 0 @99: 0 4", "0 4 @99: 0 0")
	wantBlock(t, b, api.Block{Kind: api.BTp})
	// It falls, and rises again: no time begins anew, and none behind the end either, while it stays.
	b = play(t, api.BTp, "1 4 @10: 1 0", "0 4 @11: 1 1", "1 4 @12: 1 2", "0 4 @13: 1 3", "1 4 @14: 0 4")
	b = playOn(t, b, "1 4 @15: 0 4", "0 4 @16: 0 0", "1 4 @17: 1 0", "1 4 @20: 1 3", "1 4 @21: 0 4")
	// It falls, and is not there at the end.
	b = play(t, api.BTp, "1 4 @10: 1 0", "0 4 @11: 1 1", "0 4 @13: 1 3", "0 4 @14: 0 0")
	wantBlock(t, b, api.Block{Kind: api.BTp})
	// At the first run; at the tick 0.
	play(t, api.BTp, "1 2: 1 0", "1 2 @1: 1 1", "1 2 @2: 0 2")
	// PT 0: no pulse is ever seen.
	b = play(t, api.BTp, "1 0 @3: 0 0", "1 0 @4: 0 0")
	wantBlock(t, b, api.Block{Kind: api.BTp, Was: [2]bool{true}})
	playOn(t, b, "0 0 @4: 0 0", "1 0 @4: 0 0", "0 5 @4: 0 0", "1 5 @4: 1 0", "1 0 @4: 0 0")
	// PT at its greatest.
	play(t, api.BTp, "1 4294967295 @7: 1 0", "0 4294967295 @4294967301: 1 4294967294", "1 4294967295 @4294967302: 0 4294967295")
	// A tick that is less than the one at which the time began.
	play(t, api.BTp, "1 4 @10: 1 0", "0 4 @9: 1 0", "1 4 @0: 1 0", "1 4 @13: 1 3", "1 4 @9: 1 0", "0 4 @14: 0 0")
	play(t, api.BTp, "1 4 @10: 1 0", "1 0 @9: 0 0")
	// What is on without going on is right, and left.
	b = playOn(t, api.Block{Kind: api.BTp, Was: [2]bool{true}, ET: 9, Q: true}, "1 4 @10: 1 9", "0 4 @10: 1 0", "1 4 @10: 1 0", "1 4 @14: 0 4")
	wantBlock(t, b, api.Block{Kind: api.BTp, Was: [2]bool{true}, ET: 4})
}

// P15.2: edges; at first the input was 0.
func TestEdges(t *testing.T) {
	b := play(t, api.BRtrig, "1: 1", "1: 0", "0: 0", "1: 1", "0: 0", "0: 0", "1: 1")
	wantBlock(t, b, api.Block{Kind: api.BRtrig, Was: [2]bool{true}, Q: true})
	play(t, api.BRtrig, "0: 0", "1 @4: 1", "1 @2: 0")
	b = play(t, api.BFtrig, "0: 0", "1: 0", "0: 1", "0: 0", "1: 0", "1: 0", "0: 1")
	wantBlock(t, b, api.Block{Kind: api.BFtrig, Q: true})
	play(t, api.BFtrig, "1: 0", "0 @4: 1", "0 @2: 0")
}

// P15.2: a BCtu.
func TestCountUp(t *testing.T) {
	b := play(t, api.BCtu, "0 0 2: 0 0", "1 0 2: 0 1", "1 0 2: 0 1", "0 0 2: 0 1", "1 0 2: 1 2", "0 0 2: 1 2", "1 0 2: 1 3")
	wantBlock(t, b, api.Block{Kind: api.BCtu, Was: [2]bool{true}, CV: 3, Q: true})
	// Q is what CV and PV are now.
	b = playOn(t, b, "1 0 4: 0 3", "1 0 3: 1 3", "1 0 -5: 1 3")
	// R is ahead of an edge, which is past then.
	b = playOn(t, b, "0 0 2: 1 3", "1 1 2: 0 0", "1 0 2: 0 0", "0 1 0: 1 0", "0 1 -1: 1 0", "0 1 1: 0 0")
	wantBlock(t, b, api.Block{Kind: api.BCtu})
	// The ends of TDint.
	b = playOn(t, api.Block{Kind: api.BCtu, CV: greatest - 1}, "1 0 2147483647: 1 2147483647", "0 0 2147483647: 1 2147483647", "1 0 2147483647: 1 2147483647")
	playOn(t, b, "1 1 2147483647: 0 0")
	playOn(t, api.Block{Kind: api.BCtu, CV: least}, "0 0 -2147483648: 1 -2147483648", "1 0 -2147483648: 1 -2147483647", "0 0 -2147483646: 0 -2147483647", "1 0 -2147483646: 1 -2147483646")
}

// P15.2: a BCtd.
func TestCountDown(t *testing.T) {
	b := play(t, api.BCtd, "0 0 2: 1 0", "0 1 2: 0 2", "1 0 2: 0 1", "1 0 2: 0 1", "0 0 2: 0 1", "1 0 2: 1 0", "0 0 2: 1 0", "1 0 2: 1 -1")
	wantBlock(t, b, api.Block{Kind: api.BCtd, Was: [2]bool{true}, CV: -1, Q: true})
	// PV counts with LD alone; LD is ahead of an edge, which is past then.
	b = playOn(t, b, "0 0 9: 1 -1", "1 1 9: 0 9", "1 0 9: 0 9", "0 1 0: 1 0", "0 1 -3: 1 -3", "0 1 1: 0 1")
	wantBlock(t, b, api.Block{Kind: api.BCtd, CV: 1})
	// The ends of TDint.
	playOn(t, b, "0 1 -2147483648: 1 -2147483648", "1 0 5: 1 -2147483648", "0 1 -2147483647: 1 -2147483647", "1 0 5: 1 -2147483648", "0 0 5: 1 -2147483648", "1 0 5: 1 -2147483648")
	playOn(t, b, "0 1 2147483647: 0 2147483647", "1 0 5: 0 2147483646")
	// At its first run.
	play(t, api.BCtd, "1 0 5: 1 -1")
	play(t, api.BCtd, "1 1 5: 0 5", "1 0 5: 0 5", "0 0 5: 0 5", "1 0 5: 0 4")
}

// P15.2: a BCtud.
func TestCountBoth(t *testing.T) {
	b := play(t, api.BCtud, "0 0 0 0 2: 0 1 0", "1 0 0 0 2: 0 0 1", "0 0 0 0 2: 0 0 1", "1 0 0 0 2: 1 0 2", "1 1 0 0 2: 0 0 1", "1 0 0 0 2: 0 0 1", "1 1 0 0 2: 0 1 0", "0 0 0 0 2: 0 1 0", "0 1 0 0 2: 0 1 -1")
	wantBlock(t, b, api.Block{Kind: api.BCtud, Was: [2]bool{false, true}, CV: -1, P: true})
	// One edge, while the other input is on; both at once, and then nothing has risen any more.
	b = playOn(t, b, "1 1 0 0 2: 0 1 0", "0 0 0 0 2: 0 1 0", "1 1 0 0 2: 0 1 0", "1 1 0 0 2: 0 1 0", "0 1 0 0 2: 0 1 0", "1 1 0 0 2: 0 0 1", "1 0 0 0 2: 0 0 1", "1 1 0 0 1: 0 1 0")
	// R, LD, both; ahead of edges, which are past then.
	b = playOn(t, b, "0 0 0 1 5: 1 0 5", "0 0 1 0 5: 0 1 0", "0 0 0 1 5: 1 0 5", "0 0 1 1 5: 0 1 0", "1 0 0 1 5: 1 0 5", "1 0 0 0 5: 1 0 5", "1 1 1 0 5: 0 1 0", "1 1 0 0 5: 0 1 0")
	wantBlock(t, b, api.Block{Kind: api.BCtud, Was: [2]bool{true, true}, P: true})
	// Both outputs at once, and none of them.
	b = playOn(t, b, "0 0 1 0 0: 1 1 0", "0 0 0 1 -3: 1 1 -3", "0 0 0 0 3: 0 1 -3", "0 0 0 1 1: 1 0 1", "0 0 0 0 2: 0 0 1")
	// The ends of TDint, both edges at once there.
	b = playOn(t, b, "0 0 0 1 2147483647: 1 0 2147483647", "1 0 0 0 2147483647: 1 0 2147483647", "0 0 0 0 0: 1 0 2147483647", "1 1 0 0 0: 1 0 2147483647", "1 0 0 0 0: 1 0 2147483647", "1 1 0 0 0: 1 0 2147483646")
	playOn(t, b, "0 0 0 1 -2147483648: 1 1 -2147483648", "0 1 0 0 0: 0 1 -2147483648", "0 0 0 0 0: 0 1 -2147483648", "1 1 0 0 0: 0 1 -2147483648", "0 1 0 0 0: 0 1 -2147483648", "1 1 0 0 0: 0 1 -2147483647")
	// At its first run.
	play(t, api.BCtud, "1 1 0 0 0: 1 1 0")
	play(t, api.BCtud, "0 1 0 0 -1: 1 1 -1")
	play(t, api.BCtud, "1 0 0 0 1: 1 0 1")
}

// P15.2: latches, with both inputs, too.
func TestLatches(t *testing.T) {
	b := play(t, api.BSr, "0 0: 0", "0 1: 0", "1 0: 1", "0 0: 1", "1 0: 1", "0 1: 0", "0 0: 0", "1 1: 1", "1 1: 1", "0 0: 1", "1 1: 1", "0 1: 0", "1 1: 1")
	wantBlock(t, b, api.Block{Kind: api.BSr, Q: true})
	b = play(t, api.BRs, "0 0: 0", "0 1: 0", "1 0: 1", "0 0: 1", "1 0: 1", "0 1: 0", "0 0: 0", "1 1: 0", "1 1: 0", "0 0: 0", "1 0: 1", "1 1: 0", "1 0: 1")
	wantBlock(t, b, api.Block{Kind: api.BRs, Q: true})
}

// P15.2: a BQuad.
func TestQuad(t *testing.T) {
	// Its first run counts nothing, wherever the disk is.
	for _, line := range []string{"0 0 0: 0 0", "1 0 0: 0 0", "1 1 0: 0 0", "0 1 0: 0 0"} {
		b := play(t, api.BQuad, line)
		wantBlock(t, b, api.Block{Kind: api.BQuad, Was: [2]bool{line[0] == '1', line[2] == '1'}, Ran: true})
		playOn(t, b, line, line)
	}
	// Forth, all around, and back.
	b := play(t, api.BQuad, "0 0 0: 0 0", "1 0 0: 1 0", "1 1 0: 2 0", "0 1 0: 3 0", "0 0 0: 4 0", "1 0 0: 5 0", "1 0 0: 5 0")
	b = playOn(t, b, "0 0 0: 4 0", "0 1 0: 3 0", "1 1 0: 2 0", "1 0 0: 1 0", "0 0 0: 0 0", "0 1 0: -1 0", "1 1 0: -2 0", "1 1 0: -2 0")
	// Two steps: either way; what is counted behind them is counted on, and Q stays.
	b = playOn(t, b, "0 0 0: -2 1", "1 0 0: -1 1", "1 0 0: -1 1", "0 0 0: -2 1", "1 1 0: -2 1")
	wantBlock(t, b, api.Block{Kind: api.BQuad, Was: [2]bool{true, true}, Ran: true, CV: -2, Q: true})
	play(t, api.BQuad, "1 0 0: 0 0", "0 1 0: 0 1", "1 0 0: 0 1")
	play(t, api.BQuad, "0 1 0: 0 0", "1 0 0: 0 1", "1 1 0: 1 1")
	// R behind them; what was turned at that run is not counted.
	b = playOn(t, b, "1 1 1: 0 0", "0 1 0: 1 0", "1 0 1: 0 0", "1 1 0: 1 0", "0 1 1: 0 0", "0 1 0: 0 0", "0 0 1: 0 0")
	wantBlock(t, b, api.Block{Kind: api.BQuad, Ran: true})
	// R at the first run: it has run then.
	b = play(t, api.BQuad, "1 1 1: 0 0")
	wantBlock(t, b, api.Block{Kind: api.BQuad, Was: [2]bool{true, true}, Ran: true})
	playOn(t, b, "0 1 0: 1 0")
	// What has not run looks at no tracks, but R and what it kept.
	playOn(t, api.Block{Kind: api.BQuad, Was: [2]bool{true, true}, CV: 5, Q: true}, "0 0 0: 5 1", "1 0 0: 6 1")
	playOn(t, api.Block{Kind: api.BQuad, Was: [2]bool{true, true}, CV: 5, Q: true}, "0 0 1: 0 0")
	// The ends of TDint.
	playOn(t, api.Block{Kind: api.BQuad, Ran: true, CV: greatest - 1}, "1 0 0: 2147483647 0", "1 1 0: 2147483647 0", "0 0 0: 2147483647 1", "0 1 0: 2147483646 1")
	playOn(t, api.Block{Kind: api.BQuad, Ran: true, CV: least + 1}, "0 1 0: -2147483648 0", "1 1 0: -2147483648 0", "0 0 0: -2147483648 1", "1 0 0: -2147483647 1")
}

// P15.2: each turn from each point to each.
func TestTurns(t *testing.T) {
	points := [4][2]int64{{0, 0}, {1, 0}, {1, 1}, {0, 1}}
	for from, p := range points {
		for to, q := range points {
			for _, cv := range []int64{least, least + 1, -1, 0, 1, greatest - 1, greatest} {
				for _, was := range []bool{false, true} {
					b := api.Block{Kind: api.BQuad, Was: [2]bool{p[0] == 1, p[1] == 1}, Ran: true, CV: cv, Q: was}
					got, _ := wantAsBy(t, b, []int64{q[0], q[1], 0}, 3)
					want := b
					want.Was = [2]bool{q[0] == 1, q[1] == 1}
					switch (to - from + 4) % 4 {
					case 1:
						want.CV = min(cv+1, greatest)
					case 2:
						want.Q = true
					case 3:
						want.CV = max(cv-1, least)
					}
					wantBlock(t, got, want)
				}
			}
		}
	}
}

// rightOnes are right blocks of that kind, with all of some numbers.
func rightOnes(k api.BKind) []api.Block {
	var l []api.Block
	for bits := range 64 {
		for _, from := range []int64{0, 1, 5, maxUdint, maxTime} {
			for _, et := range []int64{0, 1, 5, maxUdint, maxTime} {
				for _, cv := range []int64{least, least + 1, -6, -1, 0, 1, 6, greatest - 1, greatest} {
					if b := flagged(api.Block{Kind: k, From: from, ET: et, CV: cv}, bits); rightBy(b) {
						l = append(l, b)
					}
				}
			}
		}
	}
	return l
}

// inputLists are right inputs of pins, with all of some numbers.
func inputLists(pins string) [][]int64 {
	l := [][]int64{nil}
	for _, pin := range pins {
		some := map[rune][]int64{'1': {0, 1}, '4': {least, least + 1, -1, 0, 1, 6, greatest}, '5': {0, 1, 4, 5, maxUdint - 1, maxUdint}}[pin]
		var longer [][]int64
		for _, in := range l {
			for _, n := range some {
				longer = append(longer, append(slices.Clone(in), n))
			}
		}
		l = longer
	}
	return l
}

// P15.1, P15.2: all right blocks of some numbers, with all inputs of some, at some ticks, against the second model.
func TestAllOfSome(t *testing.T) {
	for k, x := range kinds {
		ticks := []int64{0, 7}
		if k <= api.BTp {
			ticks = []int64{0, 1, 4, 5, 6, 9, 10, maxUdint, maxUdint + 1, maxUdint + 5, maxTime - 1, maxTime}
		}
		lists := inputLists(x.ins)
		for _, b := range rightOnes(k) {
			for _, in := range lists {
				for _, now := range ticks {
					if _, e := wantAsBy(t, b, in, now); e != api.OK {
						t.Fatalf("%d of %+v with %v at %d", e, b, in, now)
					}
				}
			}
		}
	}
}

// chanceInputs are inputs of chance, mostly right ones.
func chanceInputs(chance *rand.Rand, pins string) []int64 {
	var in []int64
	for _, pin := range pins {
		n := chance.Int63n(2)
		switch {
		case chance.Intn(100) == 0:
			n = chance.Int63() - chance.Int63()
		case pin == '1':
		case chance.Intn(20) == 0:
			n = ranges[pin][n]
		default:
			n = chance.Int63n(6)
		}
		in = append(in, n)
	}
	return in
}

// P15.2, P15.3: long lives of chance, with ticks that mostly rise; what is refused changes nothing.
func TestLives(t *testing.T) {
	chance := rand.New(rand.NewSource(15))
	for life := range 2200 {
		k := api.BKind(life%11 + 1)
		b, _ := blocks.New(k)
		now := chance.Int63n(20)
		for range 60 {
			next, e := wantAsBy(t, b, chanceInputs(chance, kinds[k].ins), now)
			if e != api.OK && next != b {
				t.Fatal(next, b)
			}
			b = next
			now += chance.Int63n(4)
			if chance.Intn(20) == 0 {
				now -= chance.Int63n(8)
			}
		}
	}
}

// P15.3: a BTon is Q just if IN has been 1 at all runs since one that is PT or more ago.
func TestOnLateFollows(t *testing.T) {
	chance := rand.New(rand.NewSource(1))
	seen := [2]int{}
	for range 3000 {
		var ins, ticks []int64
		b, _ := blocks.New(api.BTon)
		now := chance.Int63n(5)
		for range 30 {
			pt := chance.Int63n(8)
			ins = append(ins, min(chance.Int63n(6), 1))
			ticks = append(ticks, now)
			b, _ = blocks.Run(b, []int64{ins[len(ins)-1], pt}, now)
			want := false
			for j := len(ins) - 1; j >= 0 && ins[j] == 1; j-- {
				want = want || now-ticks[j] >= pt
			}
			if b.Q != want {
				t.Fatalf("%v with %v at %v, PT %d", b.Q, ins, ticks, pt)
			}
			seen[blocks.Outs(b)[0]]++
			now += chance.Int63n(3)
		}
	}
	if seen[0] < 10000 || seen[1] < 10000 {
		t.Error(seen)
	}
}

// P15.3: a BTp is Q for PT, whatever IN does.
func TestPulseFollows(t *testing.T) {
	chance := rand.New(rand.NewSource(2))
	for range 3000 {
		pt := chance.Int63n(12)
		began := chance.Int63n(5)
		b, _ := blocks.New(api.BTp)
		b, _ = blocks.Run(b, []int64{0, pt}, began)
		for in, now := int64(1), began; ; in, now = chance.Int63n(2), now+chance.Int63n(3) {
			b, _ = blocks.Run(b, []int64{in, pt}, now)
			if b.Q != (now-began < pt) || b.Q && b.ET != now-began {
				t.Fatalf("%+v at %d, began at %d, PT %d", b, now, began, pt)
			}
			if !b.Q {
				break
			}
		}
		// And then no more, while IN stays; a rise lets it begin anew.
		if b.Was[0] {
			for range 3 {
				if b, _ = blocks.Run(b, []int64{1, pt}, began+40); b.Q {
					t.Fatalf("%+v", b)
				}
			}
			b, _ = blocks.Run(b, []int64{0, pt}, began+50)
		}
		if b, _ = blocks.Run(b, []int64{1, pt}, began+60); b.Q != (pt > 0) {
			t.Fatalf("%+v, PT %d", b, pt)
		}
	}
}

// P15.3: a BQuad that is turned and turned back, step by step, counts what it counted.
func TestQuadFollows(t *testing.T) {
	chance := rand.New(rand.NewSource(3))
	points := [4][]int64{{0, 0, 0}, {1, 0, 0}, {1, 1, 0}, {0, 1, 0}}
	for range 500 {
		place := chance.Intn(4)
		b := api.Block{Kind: api.BQuad, CV: chance.Int63n(2000) - 1000, Q: chance.Intn(2) == 0}
		b, _ = blocks.Run(b, points[place], 0)
		first, way := b, []int{}
		for range chance.Intn(40) {
			way = append(way, chance.Intn(3)-1)
		}
		all := append(slices.Clone(way), make([]int, len(way))...)
		for n, step := range way {
			all[len(all)-1-n] = -step
		}
		sum := int64(0)
		for _, step := range all {
			place = (place + step + 4) % 4
			sum += int64(step)
			b, _ = blocks.Run(b, points[place], 0)
			if b.CV != first.CV+sum || b.Q != first.Q {
				t.Fatalf("%+v behind %v", b, all)
			}
		}
		wantBlock(t, b, first)
	}
}

// R3: what is handed in is not changed, nor its spare room, nor kept.
func TestNothingChanges(t *testing.T) {
	for k, x := range kinds {
		for _, b := range []api.Block{{Kind: k}, busy(k), {Kind: 12, CV: 5}} {
			for _, now := range []int64{0, 9, -1} {
				kept := b
				whole := append(slices.Repeat([]int64{1}, len(x.ins)), 77, 78)
				next, e := blocks.Run(b, whole[:len(x.ins)], now)
				if b != kept || !slices.Equal(whole, append(slices.Repeat([]int64{1}, len(x.ins)), 77, 78)) {
					t.Fatalf("changed: %+v, %v", b, whole)
				}
				told, outs := next, blocks.Outs(next)
				clear(whole)
				again, _ := blocks.Run(b, slices.Repeat([]int64{1}, len(x.ins)), now)
				if next != told || again != told || !slices.Equal(blocks.Outs(next), outs) {
					t.Fatalf("changed: %+v, %d", next, e)
				}
			}
		}
	}
}

// R3: what was told is its own, and later calls do not change it.
func TestAnswersAreTheirOwn(t *testing.T) {
	for k, x := range kinds {
		b := busy(k)
		want := outsBy(b)
		one, two := blocks.Outs(b), blocks.Outs(b)
		for n := range one[:cap(one)] {
			one[:cap(one)][n] = 99
		}
		if !slices.Equal(two, want) || !slices.Equal(blocks.Outs(b), want) {
			t.Fatalf("changed: %v, not %v", two, want)
		}
		told, _ := blocks.Run(b, make([]int64, len(x.ins)), 9)
		kept := told
		next, _ := blocks.Run(told, slices.Repeat([]int64{1}, len(x.ins)), 10)
		blocks.Run(next, slices.Repeat([]int64{1}, len(x.ins)), 20)
		blocks.New(k)
		if told != kept || !slices.Equal(two, want) {
			t.Fatalf("changed: %+v, %v", told, two)
		}
	}
}

// R4: what is asked again is answered again, whatever was asked between.
func TestSameAgain(t *testing.T) {
	for range 20 {
		for k := range kinds {
			b := busy(k)
			in := slices.Repeat([]int64{1}, len(kinds[k].ins))
			wantAsBy(t, b, in, 5)
			wantAsBy(t, b, in, 4)
			wantRefused(t, b, nil, 5, api.ErrArg)
			wantRefused(t, api.Block{Kind: k, From: -1}, in, 5, api.ErrState)
		}
	}
}
