package check_test

import (
	"fmt"
	"math"
	"math/rand"
	"slices"
	"strings"
	"testing"

	"blockhouse/api"
	"blockhouse/check"
)

const (
	tBool  = api.TBool
	tSint  = api.TSint
	tInt   = api.TInt
	tDint  = api.TDint
	tUdint = api.TUdint
)

var types = []api.Type{tBool, tSint, tInt, tDint, tUdint}

// pins are of each block the types of its inputs, and of its outputs, by their numbers.
var pins = [12][2]string{1: {"15", "15"}, 2: {"15", "15"}, 3: {"15", "15"}, 4: {"114", "14"}, 5: {"114", "14"}, 6: {"11114", "114"}, 7: {"1", "1"}, 8: {"1", "1"}, 9: {"11", "1"}, 10: {"11", "1"}, 11: {"111", "41"}}

// typed are the types that a text says by their numbers.
func typed(s string) []api.Type {
	var l []api.Type
	for _, r := range s {
		l = append(l, api.Type(r-'0'))
	}
	return l
}

// told is a text that says the types by their numbers.
func told(l []api.Type) string {
	var s strings.Builder
	for _, t := range l {
		s.WriteByte('0' + byte(t))
	}
	return s.String()
}

// program is of these instructions. Its variables: at the type's place less 1 one that is told, 5 behind it one that is read; its blocks: at the kind's place less 1.
func program(parts ...[]api.Ins) api.Code {
	c := api.Code{Name: "p", Ins: slices.Concat(parts...)}
	for _, class := range []api.Class{api.VOut, api.VIn} {
		for _, t := range types {
			c.Vars = append(c.Vars, api.Var{Name: fmt.Sprint(class, t), Class: class, Type: t})
		}
	}
	for k := api.BTon; k <= api.BQuad; k++ {
		c.Blocks = append(c.Blocks, k)
	}
	return c
}

func of(l ...api.Ins) []api.Ins { return l }

func push(t api.Type) api.Ins           { return api.Ins{Op: api.OPush, T: t, N: int64(t) % 2} }
func load(t api.Type) api.Ins           { return api.Ins{Op: api.OLoad, A: int(t) - 1} }
func read(t api.Type) api.Ins           { return api.Ins{Op: api.OLoad, A: int(t) + 4} }
func store(t api.Type) api.Ins          { return api.Ins{Op: api.OStore, A: int(t) - 1} }
func sign(o api.Op, t api.Type) api.Ins { return api.Ins{Op: o, T: t} }
func conv(from, to api.Type) api.Ins    { return api.Ins{Op: api.OConv, T: to, A: int(from)} }
func jump(a int) api.Ins                { return api.Ins{Op: api.OJump, A: a} }
func branch(a int) api.Ins              { return api.Ins{Op: api.OIf, A: a} }
func run(k api.BKind) api.Ins           { return api.Ins{Op: api.ORun, A: int(k) - 1} }
func pin(k api.BKind, n int) api.Ins    { return api.Ins{Op: api.OPin, A: int(k) - 1, N: int64(n)} }

var (
	dup  = api.Ins{Op: api.ODup}
	drop = api.Ins{Op: api.ODrop}
	end  = api.Ins{Op: api.OEnd}
)

// pushes makes a stack of these types.
func pushes(s string) []api.Ins {
	var l []api.Ins
	for _, t := range typed(s) {
		l = append(l, push(t))
	}
	return l
}

func drops(n int) []api.Ins { return slices.Repeat(of(drop), n) }

// short is what x looks like, as far as one cares to read.
func short(x any) string { return fmt.Sprintf("%.400s", fmt.Sprint(x)) }

func sameSpot(a, b api.Spot) bool {
	return a.Reached == b.Reached && a.Steps == b.Steps && slices.Equal(a.Stack, b.Stack)
}

// wantFault wants c to have its first fault at the place, and all calls to say so.
func wantFault(t *testing.T, c api.Code, place int, want api.Errno) {
	t.Helper()
	if l, at, e := check.Spots(c); l != nil || at != place || e != want {
		t.Fatalf("%s, at %d: %d, not %d at %d, of %s", short(l), at, e, want, place, short(c.Ins))
	}
	if n := check.Steps(c); n != 0 {
		t.Fatalf("%d steps beside a fault, of %s", n, short(c.Ins))
	}
	for _, budget := range []int{math.MinInt, -1, 0, 1, len(c.Ins), math.MaxInt} {
		if e := check.Check(c, budget); e != want {
			t.Fatalf("Check(%d): %d, not %d, of %s", budget, e, want, short(c.Ins))
		}
	}
}

// wantPasses wants c to have no fault, and that many steps at most; it tells its places.
func wantPasses(t *testing.T, c api.Code, steps int) []api.Spot {
	t.Helper()
	l, at, e := check.Spots(c)
	if e != api.OK || at != 0 || len(l) != len(c.Ins)+1 {
		t.Fatalf("%d at %d, %d places of %s", e, at, len(l), short(c.Ins))
	}
	for k, s := range l {
		if !s.Reached && (s.Stack != nil || s.Steps != 0) {
			t.Fatalf("the place %d cannot be come to, but %s is told of it", k, short(s))
		}
	}
	if n := check.Steps(c); n != steps {
		t.Fatalf("%d steps, not %d, of %s", n, steps, short(c.Ins))
	}
	for _, budget := range []int{math.MinInt, -1, 0, 1, steps - 1, steps, steps + 1, math.MaxInt} {
		want := api.OK
		if budget < steps {
			want = api.ErrBudget
		}
		if e := check.Check(c, budget); e != want {
			t.Fatalf("Check(%d): %d, not %d, of %d steps", budget, e, want, steps)
		}
	}
	return l
}

// wantSpots wants c to pass, with these places: of each "steps:types", or "" of one that cannot be come to.
func wantSpots(t *testing.T, c api.Code, steps int, spots ...string) {
	t.Helper()
	var got []string
	for _, s := range wantPasses(t, c, steps) {
		line := ""
		if s.Reached {
			line = fmt.Sprint(s.Steps) + ":" + told(s.Stack)
		}
		got = append(got, line)
	}
	if !slices.Equal(got, spots) {
		t.Fatalf("%q, not %q, of %s", got, spots, short(c.Ins))
	}
}

// The chapter's examples.
func TestExamples(t *testing.T) {
	wantSpots(t, program(of(push(tBool), branch(3), end, end)), 3, "0:", "1:1", "2:", "2:", "")
	wantFault(t, program(of(push(tBool), end)), 1, api.ErrStack)
	wantFault(t, program(of(jump(0))), 0, api.ErrFlow)
	wantSpots(t, program(of(push(tBool), drop)), 2, "0:", "1:1", "2:")
}

// row is what an instruction takes, and puts.
type row struct {
	i           api.Ins
	takes, puts string
}

// rows are the chapter's table, of all types and blocks.
func rows() []row {
	var l []row
	add := func(i api.Ins, takes, puts string) { l = append(l, row{i, takes, puts}) }
	for _, k := range types {
		s := told([]api.Type{k})
		add(push(k), "", s)
		add(load(k), "", s)
		add(read(k), "", s)
		add(store(k), s, "")
		add(dup, s, s+s)
		add(drop, s, "")
		add(sign(api.ONot, k), s, s)
		for _, u := range types {
			add(conv(u, k), told([]api.Type{u}), s)
		}
		for _, o := range []api.Op{api.OAnd, api.OOr, api.OXor} {
			add(sign(o, k), s+s, s)
		}
		add(sign(api.OEq, k), s+s, "1")
		if k == tBool {
			continue
		}
		for _, o := range []api.Op{api.OAdd, api.OSub, api.OMul, api.ODiv, api.OMod} {
			add(sign(o, k), s+s, s)
		}
		add(sign(api.OLt, k), s+s, "1")
	}
	add(branch(0), "1", "")
	add(jump(0), "", "")
	for k := api.BTon; k <= api.BQuad; k++ {
		add(run(k), pins[k][0], "")
		for n := range pins[k][1] {
			add(pin(k, n), "", pins[k][1][n:n+1])
		}
	}
	return l
}

// at is the row's instruction at that place: where it jumps, to the next one.
func (r row) at(place int) []api.Ins {
	if r.i.Op == api.OJump || r.i.Op == api.OIf {
		r.i.A = place + 1
	}
	return of(r.i)
}

// P14.1: each Op, on a stack of what it takes alone, and of other types below.
func TestOps(t *testing.T) {
	for _, r := range rows() {
		for _, below := range []string{"", "1", "2", "3", "4", "5", "12345", "54321", r.takes, strings.Repeat("3", 50)} {
			stack, then := below+r.takes, below+r.puts
			place := len(stack)
			c := program(pushes(stack), r.at(place), drops(len(then)), of(end))
			l := wantPasses(t, c, place+1+len(then)+1)
			if s := l[place]; !s.Reached || told(s.Stack) != stack || s.Steps != place {
				t.Fatalf("%v: ahead of it %v", r, s)
			}
			if s := l[place+1]; !s.Reached || told(s.Stack) != then || s.Steps != place+1 {
				t.Fatalf("%v: behind it %v", r, s)
			}
			// And likewise with no OEnd.
			wantPasses(t, program(pushes(stack), r.at(place), drops(len(then))), place+1+len(then))
		}
	}
}

// P14.1: each Op, with one type of what it takes another one, and in another order.
func TestOtherTypes(t *testing.T) {
	wrong := func(r row, stack string) {
		t.Helper()
		place := len(stack)
		wantFault(t, program(pushes(stack), r.at(place), of(end)), place, api.ErrStack)
	}
	for _, r := range rows() {
		for k := range r.takes {
			for _, u := range types {
				other := r.takes[:k] + told([]api.Type{u}) + r.takes[k+1:]
				if other != r.takes && r.i != dup && r.i != drop {
					wrong(r, other)
					wrong(r, r.takes+other)
				}
			}
		}
		turned := typed(r.takes)
		slices.Reverse(turned)
		if other := told(turned); other != r.takes {
			wrong(r, other)
			wrong(r, r.takes+other)
		}
		if len(r.takes) > 0 && r.i != dup && r.i != drop {
			// What is taken lies there, but something else on top of it.
			other := "2"
			if r.takes[len(r.takes)-1] == '2' {
				other = "3"
			}
			wrong(r, r.takes+other)
		}
	}
}

// P14.1: each Op that takes something, with nothing on the stack, and with some of what it takes.
func TestTooFew(t *testing.T) {
	for _, r := range rows() {
		for k := range r.takes {
			for _, stack := range []string{r.takes[:k], r.takes[len(r.takes)-k:]} {
				wantFault(t, program(pushes(stack), r.at(k), of(end)), k, api.ErrStack)
				wantFault(t, program(pushes(stack), r.at(k)), k, api.ErrStack)
			}
		}
	}
}

// P14.1: a stack of 64 types, and of 65, by all that put something.
func TestDepth(t *testing.T) {
	deep := strings.Repeat("1234554321", 7)
	for _, r := range rows() {
		more := len(r.puts) - len(r.takes)
		if more > 0 {
			full := deep[:64-more-len(r.takes)] + r.takes
			c := program(pushes(full), r.at(63), drops(64))
			l := wantPasses(t, c, 128)
			if s := l[64]; len(s.Stack) != 64 || s.Steps != 64 {
				t.Fatalf("%v: %v", r, s)
			}
			wantFault(t, program(pushes(deep[:64-len(r.takes)]+r.takes), r.at(64), drops(65)), 64, api.ErrStack)
			continue
		}
		// What takes as much as it puts, or more, may be done on 64.
		full := deep[:64-len(r.takes)] + r.takes
		wantPasses(t, program(pushes(full), r.at(64), drops(64+more)), 64+1+64+more)
	}
	for k := range 70 {
		wantDepth(t, k, program(slices.Repeat(of(push(tInt)), k+1), drops(k+1)))
		wantDepth(t, k, program(of(push(tInt)), slices.Repeat(of(dup), k), drops(k+1)))
		wantDepth(t, k, program(slices.Repeat(of(pin(api.BCtud, 2)), k+1), drops(k+1)))
		wantDepth(t, k, program(slices.Repeat(of(load(tBool)), k+1), drops(k+1)))
	}
	// Deep again and again.
	wave := slices.Concat(pushes(deep[:64]), drops(64))
	wantPasses(t, program(slices.Repeat(wave, 15)), 15*128)
	wantFault(t, program(slices.Repeat(wave, 14), pushes(deep[:65]), drops(65)), 14*128+64, api.ErrStack)
}

// wantDepth is of a program whose instruction at the place k makes a stack of one more than k.
func wantDepth(t *testing.T, k int, c api.Code) {
	t.Helper()
	if k < 64 {
		wantPasses(t, c, 2*(k+1))
	} else {
		wantFault(t, c, 64, api.ErrStack)
	}
}

// P14.1: a stack that is not empty at an OEnd, and at the place behind the last.
func TestEnds(t *testing.T) {
	for _, s := range []string{"1", "2", "3", "4", "5", "12", "55555", strings.Repeat("4", 64)} {
		n := len(s)
		wantFault(t, program(pushes(s), of(end)), n, api.ErrStack)
		wantFault(t, program(pushes(s), of(end, drop)), n, api.ErrStack)
		wantFault(t, program(pushes(s)), n, api.ErrStack)
		wantFault(t, program(pushes(s), drops(n-1), of(end)), n+n-1, api.ErrStack)
		wantFault(t, program(pushes(s), drops(n-1)), n+n-1, api.ErrStack)
		wantPasses(t, program(pushes(s), drops(n), of(end)), n+n+1)
		wantPasses(t, program(pushes(s), drops(n)), n+n)
		// Come to by jumps.
		wantFault(t, program(pushes(s), of(jump(n+2), end, end)), n+2, api.ErrStack)
		wantFault(t, program(pushes(s), of(jump(n+2), end)), n+2, api.ErrStack)
		if n < 64 {
			wantFault(t, program(pushes(s+"1"), of(branch(2*n+3)), drops(n), of(end, end)), 2*n+3, api.ErrStack)
			wantFault(t, program(pushes(s+"1"), of(branch(2*n+3)), drops(n), of(end)), 2*n+3, api.ErrStack)
		}
	}
	wantSpots(t, program(of(end)), 1, "0:", "")
	wantSpots(t, program(of(end, end)), 1, "0:", "", "")
	wantSpots(t, program(of(push(tInt), drop, end)), 3, "0:", "1:3", "2:", "")
	wantSpots(t, program(of(jump(1), end)), 2, "0:", "1:", "")
	wantSpots(t, program(of(jump(1))), 1, "0:", "1:")
	// An end that ends one way alone.
	wantFault(t, program(of(push(tInt), push(tBool), branch(4), end, drop, end)), 3, api.ErrStack)
	wantFault(t, program(of(push(tInt), push(tBool), branch(5), drop, end)), 5, api.ErrStack)
}

// P14.1: OJump and OIf from each place to each.
func TestJumps(t *testing.T) {
	for place := range 8 {
		for a := range 12 {
			// OJump: what is jumped over cannot be come to.
			c := program(slices.Repeat(of(push(tInt), drop), 4)[:place&^1], slices.Repeat(of(jump(place)), place&1), of(jump(a)), slices.Repeat(of(end), 10-place))
			if a <= place {
				wantFault(t, c, place, api.ErrFlow)
			} else {
				n := place + 1
				if a < 11 {
					n++
				}
				wantPasses(t, c, n)
			}
			// OIf, behind a truth.
			c.Ins = slices.Insert(c.Ins, place, push(tBool))
			c.Ins[place+1].Op = api.OIf
			if place&1 == 1 {
				c.Ins[place-1].A = place
			}
			if a <= place+1 {
				wantFault(t, c, place+1, api.ErrFlow)
			} else {
				wantPasses(t, c, place+3)
			}
		}
	}
	wantSpots(t, program(of(jump(2), end, jump(5), end, end)), 2, "0:", "", "1:", "", "", "2:")
	wantSpots(t, program(of(push(tBool), branch(5), jump(4), end, end)), 4, "0:", "1:1", "2:", "", "3:", "2:")
	// Both ways lead to the next place, also to the one behind the last.
	wantSpots(t, program(of(push(tBool), branch(2), end)), 3, "0:", "1:1", "2:", "")
	wantSpots(t, program(of(push(tBool), branch(2))), 2, "0:", "1:1", "2:")
	wantSpots(t, program(of(push(tInt), load(tBool), branch(3), drop)), 4, "0:", "1:3", "2:31", "3:3", "4:")
	wantFault(t, program(of(push(tInt), load(tBool), branch(3))), 3, api.ErrStack)
	// With a stack that is kept over a jump.
	wantSpots(t, program(of(push(tInt), push(tUdint), jump(4), end, drop, drop, end)), 6, "0:", "1:3", "2:35", "", "3:35", "4:3", "5:", "")
}

// P14.1: two ways that meet, with one stack, with stacks of other types, of another depth.
func TestMeet(t *testing.T) {
	fork := func(one, two []api.Ins, behind ...api.Ins) api.Code {
		n := len(one)
		return program(of(push(tBool), branch(n+3)), one, of(jump(n+3+len(two))), two, behind)
	}
	for _, s := range []string{"", "1", "2", "35", "53", "1234", strings.Repeat("2", 60)} {
		n := len(s)
		both := fork(pushes(s), pushes(s), append(drops(n), end)...)
		l := wantPasses(t, both, 2+n+1+n+1)
		if m := l[2*n+3]; told(m.Stack) != s || m.Steps != n+3 {
			t.Fatal(m)
		}
		for _, u := range []string{"", "1", "2", "35", "53", "1234", "3", "5", "55", "33", "135", "351", strings.Repeat("2", 59), strings.Repeat("2", 61), strings.Repeat("2", 59) + "3", "3" + strings.Repeat("2", 59)} {
			if u == s {
				continue
			}
			c := fork(pushes(s), pushes(u), append(drops(n), end)...)
			// The fault is of the place that came there second: the last one of the second way; the OJump, if that has none.
			place := n + 3 + len(u) - 1
			wantFault(t, c, place, api.ErrStack)
		}
	}
	// The way through the next places is the one that comes second.
	wantFault(t, program(of(push(tBool), branch(3), push(tInt), end)), 2, api.ErrStack)
	wantFault(t, program(of(push(tBool), branch(3), push(tInt))), 2, api.ErrStack)
	wantFault(t, program(of(push(tBool), push(tBool), branch(4), drop, drop, end)), 3, api.ErrStack)
	// An OJump and an OIf that come second.
	wantFault(t, program(of(push(tBool), branch(5), push(tInt), jump(5), end, end)), 3, api.ErrStack)
	wantFault(t, program(of(push(tBool), branch(6), push(tInt), push(tBool), branch(6), drop, end)), 4, api.ErrStack)
	// An OIf whose next place is the one that another came to already.
	wantFault(t, program(of(push(tBool), branch(5), push(tInt), push(tBool), branch(7), end, end, drop, end)), 4, api.ErrStack)
	// At the place behind the last: with one stack the fault is that place's.
	wantFault(t, fork(pushes("3"), pushes("3")), 5, api.ErrStack)
	wantFault(t, fork(pushes("3"), pushes("2")), 4, api.ErrStack)
	wantPasses(t, fork(pushes(""), pushes("")), 3)
	// Three ways: the third one has another stack.
	three := of(push(tBool), branch(6), push(tBool), branch(8), push(tInt), jump(9), push(tInt), jump(9), push(tInt), drop, end)
	wantSpots(t, program(three), 8, "0:", "1:1", "2:", "3:1", "4:", "5:3", "2:", "3:3", "4:", "6:3", "7:", "")
	for k, want := range map[int]int{4: 7, 6: 7, 8: 8} {
		c := program(three)
		c.Ins[k] = push(tDint)
		wantFault(t, c, want, api.ErrStack)
	}
}

// P14.1: places that cannot be come to, and faults there, which are none.
func TestNotReached(t *testing.T) {
	for _, i := range []api.Ins{drop, dup, push(tInt), load(tBool), store(tInt), sign(api.OAdd, tInt), sign(api.ONot, tBool), sign(api.OEq, tBool), conv(tBool, tInt), jump(0), jump(1), jump(2), branch(0), branch(1), branch(2), run(api.BTon), pin(api.BQuad, 0), end} {
		wantSpots(t, program(of(jump(2), i, end)), 2, "0:", "", "1:", "")
		wantSpots(t, program(of(jump(2), i)), 1, "0:", "", "1:")
		wantSpots(t, program(of(end, i)), 1, "0:", "", "")
		wantSpots(t, program(of(end, i, i, i)), 1, "0:", "", "", "", "")
		// What stands there does not come to what is behind it.
		wantSpots(t, program(of(push(tSint), jump(3), i, drop, end)), 4, "0:", "1:2", "", "2:2", "3:", "")
		wantSpots(t, program(of(push(tSint), jump(4), i, i, drop)), 3, "0:", "1:2", "", "", "2:2", "3:")
	}
	// 65 types, and more steps than those that can be done.
	many := slices.Repeat(of(push(tInt)), 70)
	wantPasses(t, program(of(jump(71)), many, of(end)), 2)
	wantPasses(t, program(of(end), many), 1)
	// Behind an OJump the next place is one of those; behind an OIf it is not.
	wantSpots(t, program(of(push(tBool), jump(3), drop, drop, end)), 4, "0:", "1:1", "", "2:1", "3:", "")
	wantFault(t, program(of(push(tBool), branch(3), drop, end)), 2, api.ErrStack)
	// A place that is come to from one alone that cannot be come to.
	wantSpots(t, program(of(jump(4), jump(3), end, drop, end)), 2, "0:", "", "", "", "1:", "")
	// A jump back is the fault, whatever is there where it leads.
	wantFault(t, program(of(jump(2), drop, jump(1))), 2, api.ErrFlow)
	wantFault(t, program(of(jump(2), jump(0), jump(1))), 2, api.ErrFlow)
}

// P14.1: ErrFlow counts ahead of ErrStack at one place, and an earlier place ahead of a later one.
func TestFirstFault(t *testing.T) {
	wantFault(t, program(of(branch(0))), 0, api.ErrFlow)
	wantFault(t, program(of(push(tInt), branch(0))), 1, api.ErrFlow)
	wantFault(t, program(of(push(tInt), branch(1))), 1, api.ErrFlow)
	wantFault(t, program(of(push(tInt), branch(2))), 1, api.ErrStack)
	wantFault(t, program(of(push(tInt), push(tBool), branch(1), end)), 2, api.ErrFlow)
	wantFault(t, program(of(push(tInt), jump(1))), 1, api.ErrFlow)
	for _, flow := range []api.Ins{jump(0), branch(0)} {
		wantFault(t, program(of(drop, flow)), 0, api.ErrStack)
		wantFault(t, program(of(flow, drop)), 0, api.ErrFlow)
		wantFault(t, program(of(push(tInt), flow)), 1, api.ErrFlow)
		wantFault(t, program(of(push(tInt), flow, end)), 1, api.ErrFlow)
		// In the ways of an OIf: the earlier place counts, not the one that is come to first.
		wantFault(t, program(of(push(tBool), branch(4), drop, end, flow)), 2, api.ErrStack)
		wantFault(t, program(of(push(tBool), branch(4), flow, end, drop)), 2, api.ErrFlow)
		wantFault(t, program(of(push(tBool), branch(4), dup, flow, drop)), 2, api.ErrStack)
		wantFault(t, program(of(push(tBool), branch(4), end, drop, flow)), 4, api.ErrFlow)
		wantFault(t, program(of(push(tBool), branch(4), end, flow, drop)), 4, api.ErrStack)
		// Not at a place that cannot be come to, though it is earlier.
		wantFault(t, program(of(jump(3), flow, drop, dup, flow)), 3, api.ErrStack)
	}
	// A meeting with another stack, ahead of the place where it is, and of other faults.
	wantFault(t, program(of(push(tBool), branch(4), push(tInt), jump(4), drop)), 3, api.ErrStack)
	wantFault(t, program(of(push(tBool), branch(4), push(tInt), jump(4), jump(0))), 3, api.ErrStack)
	wantFault(t, program(of(push(tBool), branch(4), push(tInt), jump(3), drop)), 3, api.ErrFlow)
	// Of 65 types at a place where two ways meet.
	wantFault(t, program(pushes(strings.Repeat("1", 64)), of(branch(66), dup, dup, drop)), 65, api.ErrStack)
}

// P14.2: Steps where ways of other lengths meet, with an OEnd and without one at the end.
func TestSteps(t *testing.T) {
	nothing := func(n int) []api.Ins { return slices.Repeat(of(push(tInt), drop), n) }
	for one := range 6 {
		for two := range 6 {
			n := 2 * one
			ways := []api.Ins{push(tBool), branch(3 + n)}
			ways = append(ways, nothing(one)...)
			ways = append(ways, jump(3+n+2*two))
			ways = append(ways, nothing(two)...)
			longest := 2 + max(n+1, 2*two)
			l := wantPasses(t, program(ways), longest)
			if got := l[len(ways)].Steps; got != longest {
				t.Fatal(one, two, got)
			}
			l = wantPasses(t, program(ways, of(end)), longest+1)
			if l[len(ways)].Steps != longest || l[len(ways)+1].Reached {
				t.Fatal(one, two, l)
			}
			// Each way has an end of its own: the longest is not always the last.
			apart := slices.Clone(ways)
			apart[2+n] = end
			wantPasses(t, program(apart), 2+max(n+1, 2*two))
			wantPasses(t, program(apart, of(end)), 2+max(n+1, 2*two+1))
			// A jump over all of it counts one.
			wantPasses(t, program(of(jump(1+len(ways))), ways), 1)
		}
	}
	// The longest way ends in the midst.
	wantSpots(t, program(of(push(tBool), branch(7), push(tInt), drop, jump(6), end, end, end)), 6, "0:", "1:1", "2:", "3:3", "4:", "", "5:", "2:", "")
	// Steps beside a fault, and of what is no right program.
	wantFault(t, program(nothing(3), of(drop)), 6, api.ErrStack)
	wantFault(t, program(nothing(3), of(jump(6))), 6, api.ErrFlow)
}

// P14.2: a program of as many instructions as there may be, with so many ways that nobody could go each.
func TestGreatest(t *testing.T) {
	var l []api.Ins
	for k := range 500 {
		l = append(l, push(tBool), branch(4*k+4), push(tInt), drop)
	}
	spots := wantPasses(t, program(l), 2000)
	for k, s := range spots {
		if s.Steps != k || len(s.Stack) != []int{0, 1, 0, 1}[k%4] {
			t.Fatal(k, s)
		}
	}
	l[1999] = end
	wantFault(t, program(l), 1999, api.ErrStack)
	l[1998], l[1999] = end, end
	wantPasses(t, program(l), 1999)
	// All come to the place behind the last, from all over.
	for k := range 1000 {
		l[2*k], l[2*k+1] = push(tBool), branch(2000)
	}
	wantPasses(t, program(l), 2000)
	l[1999] = jump(2000)
	wantFault(t, program(l), 1999, api.ErrStack)
	l[1999] = branch(1999)
	wantFault(t, program(l), 1999, api.ErrFlow)
	l[1999] = branch(0)
	wantFault(t, program(l), 1999, api.ErrFlow)
	for k := range l {
		l[k] = jump(k + 1)
	}
	wantPasses(t, program(l), 2000)
	l[0] = jump(1999)
	wantPasses(t, program(l), 2)
}

// P14.1, P14.2: what is not right, with faults and without: ErrCode counts first.
func TestNotRight(t *testing.T) {
	good, bad := of(push(tBool), drop, end), of(drop, jump(0), push(tInt))
	wantFault(t, api.Code{}, 0, api.ErrCode)
	wantFault(t, program(), 0, api.ErrCode)
	for _, l := range [][]api.Ins{good, bad} {
		for _, change := range []func(c *api.Code){
			func(c *api.Code) { c.Name = "" },
			func(c *api.Code) { c.Name = strings.Repeat("x", 41) },
			func(c *api.Code) { c.Vars[1].Name = c.Vars[0].Name },
			func(c *api.Code) { c.Vars[9].Class = 5 },
			func(c *api.Code) { c.Vars[9].First = -1 },
			func(c *api.Code) { c.Vars[9].Type = 6 },
			func(c *api.Code) { c.Vars = make([]api.Var, 201) },
			func(c *api.Code) { c.Blocks[10] = 12 },
			func(c *api.Code) { c.Blocks = slices.Repeat(c.Blocks, 10) },
			func(c *api.Code) { c.Ins = nil },
			func(c *api.Code) { c.Ins = slices.Repeat(of(end), 2001) },
		} {
			c := program(l)
			change(&c)
			wantFault(t, c, 0, api.ErrCode)
		}
		for _, i := range []api.Ins{{}, {Op: 23}, {Op: 255}, {Op: api.OEnd, A: 1}, {Op: api.OPush}, {Op: api.OPush, T: 6}, {Op: api.OPush, T: tBool, N: 2}, load(6 + tUdint), {Op: api.OLoad, A: -1}, store(tInt + 5), {Op: api.OStore, A: 10}, sign(api.OAdd, tBool), sign(api.OLt, tBool), sign(api.OEq, 0), conv(0, tInt), conv(tInt, 6), {Op: api.ODup, T: tInt}, jump(-1), jump(5), branch(-1), branch(math.MaxInt), run(0), run(12), pin(api.BTon, 2), pin(api.BTon, -1), pin(12, 0)} {
			wantFault(t, program(l, of(i)), 0, api.ErrCode)
			wantFault(t, program(of(i), l), 0, api.ErrCode)
		}
	}
}

// effect is the chapter's table, written out a second time: what is taken and put, by the numbers of types. A point is any type.
func effect(c api.Code, i api.Ins) (takes, puts string) {
	const table = "1 -T|2 -V|3 V-|4 TT-T|5 TT-T|6 TT-T|7 TT-T|8 TT-T|9 TT-T|10 TT-T|11 TT-T|12 T-T|13 TT-1|14 TT-1|15 A-T|16 .-..|17 .-|18 -|19 1-|20 I-|21 -O|22 -"
	for _, line := range strings.Split(table, "|") {
		op, does, _ := strings.Cut(line, " ")
		if op != fmt.Sprint(i.Op) {
			continue
		}
		does = strings.ReplaceAll(does, "T", fmt.Sprint(i.T))
		does = strings.ReplaceAll(does, "A", fmt.Sprint(i.A))
		switch i.Op {
		case api.OLoad, api.OStore:
			does = strings.ReplaceAll(does, "V", fmt.Sprint(c.Vars[i.A].Type))
		case api.ORun:
			does = strings.ReplaceAll(does, "I", pins[c.Blocks[i.A]][0])
		case api.OPin:
			does = strings.ReplaceAll(does, "O", pins[c.Blocks[i.A]][1][i.N:i.N+1])
		}
		takes, puts, _ = strings.Cut(does, "-")
	}
	return takes, puts
}

// after is the stack behind an instruction, if it can be done.
func after(c api.Code, i api.Ins, stack string) (string, bool) {
	takes, puts := effect(c, i)
	if strings.Contains(takes, ".") {
		if stack == "" {
			return "", false
		}
		on := stack[len(stack)-1:]
		takes, puts = strings.ReplaceAll(takes, ".", on), strings.ReplaceAll(puts, ".", on)
	}
	if !strings.HasSuffix(stack, takes) {
		return "", false
	}
	stack = strings.TrimSuffix(stack, takes) + puts
	return stack, len(stack) <= 64
}

// model is what all ways through a program have seen, each gone by itself.
type model struct {
	c     api.Code
	flow  map[int]bool            // places with ErrFlow
	stack map[int]bool            // places with ErrStack by themselves
	came  map[int]map[int]string  // of each place, from where one came there, with which stack
	seen  map[int]map[string]bool // of each place, the stacks
	far   map[int]int             // of each place, the most steps
	ends  int                     // the most steps of a whole way
}

// way goes on at a place.
func (m *model) way(place int, stack string, steps int) {
	if m.seen[place] == nil {
		m.seen[place], m.came[place] = map[string]bool{}, map[int]string{}
	}
	m.seen[place][stack] = true
	m.far[place] = max(m.far[place], steps)
	m.ends = max(m.ends, steps)
	if place == len(m.c.Ins) {
		m.stack[place] = m.stack[place] || stack != ""
		return
	}
	i := m.c.Ins[place]
	var to []int
	switch i.Op {
	case api.OEnd:
		m.stack[place] = m.stack[place] || stack != ""
		m.ends = max(m.ends, steps+1)
	case api.OJump:
		to = []int{i.A}
	case api.OIf:
		to = []int{place + 1, i.A}
	default:
		to = []int{place + 1}
	}
	for _, next := range to {
		if next <= place {
			m.flow[place] = true
			return
		}
	}
	then, ok := after(m.c, i, stack)
	if !ok {
		m.stack[place] = true
		return
	}
	for _, next := range to {
		m.way(next, then, steps+1)
		m.came[next][place] = then
	}
}

// meets tells whether one came from a place to another one to which one came, from an earlier place, with another stack.
func (m *model) meets(place int) bool {
	for _, from := range m.came {
		mine, ok := from[place]
		for k, other := range from {
			if ok && k < place && other != mine {
				return true
			}
		}
	}
	return false
}

// modelOf goes all ways; it tells the first fault, too.
func modelOf(c api.Code) (m *model, place int, e api.Errno) {
	m = &model{c: c, flow: map[int]bool{}, stack: map[int]bool{}, came: map[int]map[int]string{}, seen: map[int]map[string]bool{}, far: map[int]int{}}
	m.way(0, "", 0)
	for place := range len(c.Ins) + 1 {
		if m.flow[place] {
			return m, place, api.ErrFlow
		}
		if m.stack[place] || m.meets(place) {
			return m, place, api.ErrStack
		}
	}
	return m, 0, api.OK
}

// byModel wants all calls to answer as the model does, and tells the error.
func byModel(t *testing.T, c api.Code) api.Errno {
	t.Helper()
	m, place, want := modelOf(c)
	l, at, e := check.Spots(c)
	if e != want || at != place {
		t.Fatalf("%d at %d, not %d at %d, of %s", e, at, want, place, short(c.Ins))
	}
	if e != api.OK {
		if l != nil || check.Steps(c) != 0 || check.Check(c, math.MaxInt) != e || check.Check(c, 0) != e {
			t.Fatalf("%s, %d steps, Check: %d, of %s", short(l), check.Steps(c), check.Check(c, math.MaxInt), short(c.Ins))
		}
		return e
	}
	if len(l) != len(c.Ins)+1 {
		t.Fatalf("%d places of %s", len(l), short(c.Ins))
	}
	for k, s := range l {
		want := api.Spot{Reached: len(m.seen[k]) > 0, Steps: m.far[k]}
		for stack := range m.seen[k] {
			want.Stack = typed(stack)
		}
		if len(m.seen[k]) > 1 || !sameSpot(s, want) {
			t.Fatalf("at %d: %v, not %v, of %s", k, s, want, short(c.Ins))
		}
	}
	if n := check.Steps(c); n != m.ends || check.Check(c, n) != api.OK || check.Check(c, n-1) != api.ErrBudget {
		t.Fatalf("%d steps, not %d, of %s", n, m.ends, short(c.Ins))
	}
	return e
}

// P14.1, P14.2: all programs of up to four instructions out of some.
func TestAllShort(t *testing.T) {
	count := map[api.Errno]int{}
	for n := 1; n <= 4; n++ {
		some := of(push(tBool), push(tInt), dup, drop, sign(api.ONot, tBool), end)
		for a := range n + 1 {
			some = append(some, jump(a), branch(a))
		}
		digits := make([]int, n)
		for c := program(slices.Repeat(of(some[0]), n)); ; {
			count[byModel(t, c)]++
			k := 0
			for k < n && digits[k] == len(some)-1 {
				digits[k], c.Ins[k] = 0, some[0]
				k++
			}
			if k == n {
				break
			}
			digits[k]++
			c.Ins[k] = some[digits[k]]
		}
	}
	if count[api.OK] < 2000 || count[api.ErrFlow] < 2000 || count[api.ErrStack] < 2000 {
		t.Error(count)
	}
}

// chancePart is instructions of chance, from a place on, that leave the stack as it was; if it is bare, none was there.
func chancePart(chance *rand.Rand, place, depth int, bare bool) []api.Ins {
	var l []api.Ins
	all := rows()
	for range chance.Intn(4) {
		here := place + len(l)
		kind := chance.Intn(5)
		switch r := all[chance.Intn(len(all))]; {
		case kind < 2 && r.i.Op != api.OJump && r.i.Op != api.OIf:
			l = slices.Concat(l, pushes(r.takes), of(r.i), drops(len(r.puts)))
		case kind == 2 && depth > 0:
			// Two ways, which meet, or one of which ends.
			then := pushes("123"[:chance.Intn(4)])
			one := append(chancePart(chance, here+2, depth-1, bare), then...)
			other := here + 2 + len(one) + 1
			two := append(chancePart(chance, other, depth-1, bare), then...)
			leave := jump(other + len(two))
			if bare && len(then) == 0 && chance.Intn(2) == 0 {
				leave = end
			}
			l = slices.Concat(l, of(load(tBool), branch(other)), one, of(leave), two, drops(len(then)))
		case kind == 3 && depth > 0:
			l = slices.Concat(l, of(push(tDint)), chancePart(chance, here+1, depth-1, false), of(drop))
		case kind == 4:
			skipped := chance.Intn(3)
			l = append(l, jump(here+1+skipped))
			for range skipped {
				l = append(l, all[chance.Intn(len(all))].i)
			}
		}
	}
	return l
}

// chanceCode is a program of chance that passes.
func chanceCode(chance *rand.Rand) api.Code {
	l := chancePart(chance, 0, 3, true)
	if len(l) == 0 || chance.Intn(2) == 0 {
		l = append(l, end)
	}
	return program(l)
}

// P14.1, P14.2: programs of chance, and those with an instruction of them another one, taken away, or twice.
func TestOfChance(t *testing.T) {
	chance := rand.New(rand.NewSource(14))
	all := rows()
	count := map[api.Errno]int{}
	for range 2000 {
		c := chanceCode(chance)
		count[byModel(t, c)]++
		for range 6 {
			d := program(c.Ins)
			k := chance.Intn(len(d.Ins))
			switch chance.Intn(5) {
			case 0:
				d.Ins[k] = all[chance.Intn(len(all))].i
			case 1:
				d.Ins[k] = jump(chance.Intn(len(d.Ins) + 1))
			case 2:
				d.Ins[k] = branch(chance.Intn(len(d.Ins) + 1))
			case 3:
				d.Ins = slices.Insert(d.Ins, k, d.Ins[k])
			case 4:
				d.Ins = append(slices.Delete(d.Ins, k, k+1), end)
			}
			if jumpsRight(d) {
				count[byModel(t, d)]++
			}
		}
	}
	if count[api.OK] < 2000 || count[api.ErrFlow] < 300 || count[api.ErrStack] < 2000 {
		t.Error(count)
	}
}

// jumpsRight tells whether all jumps go to places that there are.
func jumpsRight(c api.Code) bool {
	for _, i := range c.Ins {
		if (i.Op == api.OJump || i.Op == api.OIf) && i.A > len(c.Ins) {
			return false
		}
	}
	return true
}

// P14.3: ways through programs that pass, gone by chance: no place twice, the stack that Spots tells, no more steps than Steps.
func TestWhatFollows(t *testing.T) {
	chance := rand.New(rand.NewSource(3))
	for range 1000 {
		c := chanceCode(chance)
		l, _, e := check.Spots(c)
		if e != api.OK {
			t.Fatalf("%d of %s", e, short(c.Ins))
		}
		longest := 0
		for range 40 {
			longest = max(longest, walk(t, chance, c, l))
		}
		if n := check.Steps(c); longest > n {
			t.Fatalf("%d steps, not %d, of %s", longest, n, short(c.Ins))
		}
	}
}

// walk goes one way through c, and tells how many instructions it did.
func walk(t *testing.T, chance *rand.Rand, c api.Code, l []api.Spot) int {
	t.Helper()
	been := map[int]bool{}
	place, stack, ok := 0, "", true
	for n := 0; ; n++ {
		s := l[place]
		if been[place] || !s.Reached || told(s.Stack) != stack || n > s.Steps {
			t.Fatalf("the place %d: %v, behind %d steps with %s, of %s", place, s, n, stack, short(c.Ins))
		}
		been[place] = true
		if place == len(c.Ins) {
			return n
		}
		i := c.Ins[place]
		if stack, ok = after(c, i, stack); !ok {
			t.Fatalf("the place %d cannot be done, of %s", place, short(c.Ins))
		}
		switch {
		case i.Op == api.OEnd:
			return n + 1
		case i.Op == api.OJump || i.Op == api.OIf && chance.Intn(2) == 0:
			place = i.A
		default:
			place++
		}
	}
}

// samples are programs that pass, and one of each error.
func samples() []api.Code {
	chance := rand.New(rand.NewSource(7))
	l := []api.Code{program(of(end)), program(of(push(tInt), end)), program(of(jump(0))), program(), program(of(push(tInt), push(tBool), branch(4), jump(4), drop))}
	for range 60 {
		l = append(l, chanceCode(chance))
	}
	return l
}

// R3: what is handed in is not changed, nor its spare room.
func TestNothingChanges(t *testing.T) {
	for _, c := range samples() {
		whole := c
		whole.Vars = append(slices.Clone(c.Vars), api.Var{Name: "spare", First: 7})
		whole.Blocks = append(slices.Clone(c.Blocks), 77)
		whole.Ins = append(slices.Clone(c.Ins), api.Ins{Op: 77, N: -7})
		kept := fmt.Sprint(whole)
		use := api.Code{Name: c.Name, Vars: whole.Vars[:len(c.Vars)], Blocks: whole.Blocks[:len(c.Blocks)], Ins: whole.Ins[:len(c.Ins)]}
		check.Spots(use)
		check.Steps(use)
		check.Check(use, 1)
		if fmt.Sprint(whole) != kept {
			t.Fatalf("changed: %s", short(c))
		}
	}
}

// R3: what was told shares no memory with what was handed in, nor with other answers, nor one place's with another's.
func TestAnswersAreTheirOwn(t *testing.T) {
	for _, c := range samples() {
		want, _, _ := check.Spots(program(c.Ins))
		one, _, _ := check.Spots(c)
		two, _, _ := check.Spots(c)
		for k := range one {
			stack := one[k].Stack[:cap(one[k].Stack)]
			for n := range stack {
				stack[n] = 99
			}
			for n := k + 1; n < len(one); n++ {
				if !sameSpot(one[n], want[n]) {
					t.Fatalf("the place %d was changed with %d: %v", n, k, one[n])
				}
			}
		}
		clear(one[:cap(one)])
		check.Spots(program(of(push(tUdint), drop)))
		check.Check(program(of(dup)), 1)
		clear(c.Ins)
		clear(c.Vars)
		clear(c.Blocks)
		check.Spots(c)
		if !slices.EqualFunc(two, want, sameSpot) {
			t.Fatalf("changed: %s", short(two))
		}
	}
}

// R4, R6: what is asked again is answered again; none and an empty list are the same.
func TestSameAgain(t *testing.T) {
	for range 20 {
		wantSpots(t, program(of(push(tBool), branch(3), end, end)), 3, "0:", "1:1", "2:", "2:", "")
		wantFault(t, program(of(drop)), 0, api.ErrStack)
		wantFault(t, program(of(jump(0))), 0, api.ErrFlow)
		wantFault(t, api.Code{Name: "p", Ins: []api.Ins{}}, 0, api.ErrCode)
		wantSpots(t, api.Code{Name: "p", Ins: of(end)}, 1, "0:", "")
		wantSpots(t, api.Code{Name: "p", Vars: []api.Var{}, Blocks: []api.BKind{}, Ins: of(end)}, 1, "0:", "")
	}
}
