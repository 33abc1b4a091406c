package code_test

import (
	"encoding/hex"
	"fmt"
	"math"
	"math/big"
	"math/rand"
	"reflect"
	"slices"
	"strconv"
	"strings"
	"testing"

	"blockhouse/api"
	"blockhouse/code"
)

const (
	tBool = api.TBool
	tDint = api.TDint
	tUd   = api.TUdint
)

var types = []api.Type{api.TBool, api.TSint, api.TInt, api.TDint, api.TUdint}

// ends are the least and the greatest of each type, as the chapter says them.
var ends = [6][2]int64{1: {0, 1}, 2: {-128, 127}, 3: {-32768, 32767}, 4: {-2147483648, 2147483647}, 5: {0, 4294967295}}

// kinds are the pins of each block, its inputs and its outputs, as api.BKind's lines say.
var kinds = [12][2][]api.Type{
	1:  {{tBool, tUd}, {tBool, tUd}},
	2:  {{tBool, tUd}, {tBool, tUd}},
	3:  {{tBool, tUd}, {tBool, tUd}},
	4:  {{tBool, tBool, tDint}, {tBool, tDint}},
	5:  {{tBool, tBool, tDint}, {tBool, tDint}},
	6:  {{tBool, tBool, tBool, tBool, tDint}, {tBool, tBool, tDint}},
	7:  {{tBool}, {tBool}},
	8:  {{tBool}, {tBool}},
	9:  {{tBool, tBool}, {tBool}},
	10: {{tBool, tBool}, {tBool}},
	11: {{tBool, tBool, tBool}, {tDint, tBool}},
}

// farNumbers are whole numbers around all edges that there are, and around those that they would have, were their upper bits lost.
func farNumbers() []int64 {
	l := []int64{math.MinInt64, math.MinInt64 + 1, math.MaxInt64 - 1, math.MaxInt64}
	for _, e := range []int64{0, 1 << 7, 1 << 8, 1 << 15, 1 << 16, 1 << 31, 1 << 32, 3 << 32, 1 << 40, 1 << 62} {
		for d := int64(-6); d <= 24; d++ {
			l = append(l, e+d, -e+d)
		}
	}
	slices.Sort(l)
	return slices.Compact(l)
}

// wrapped is the one in the range that differs from n by a multiple of how many there are.
func wrapped(t api.Type, n int64) int64 {
	if t < 1 || t > 5 {
		return 0
	}
	if t == api.TBool {
		return int64(big.NewInt(n).CmpAbs(big.NewInt(0)))
	}
	least := big.NewInt(ends[t][0])
	many := big.NewInt(ends[t][1] - ends[t][0] + 1)
	x := new(big.Int).Sub(big.NewInt(n), least)
	return x.Mod(x, many).Add(x, least).Int64()
}

// in tells whether n is one of a type's numbers.
func in(t api.Type, n int64) bool {
	return t >= 1 && t <= 5 && ends[t][0] <= n && n <= ends[t][1]
}

// rightIns is the chapter's table, written out a second time, by lines of what each Op has.
func rightIns(c api.Code, i api.Ins) bool {
	const line = "1 T.N|2 .V.|3 .S.|4 W..|5 W..|6 W..|7 W..|8 W..|9 T..|10 T..|11 T..|12 T..|13 T..|14 W..|15 TT.|16 ...|17 ...|18 .J.|19 .J.|20 .B.|21 .BO|22 ..."
	for _, row := range strings.Split(line, "|") {
		op, has, _ := strings.Cut(row, " ")
		if op != strconv.Itoa(int(i.Op)) {
			continue
		}
		for k, n := range []int64{int64(i.T), int64(i.A), i.N} {
			least, most := int64(0), int64(0)
			switch has[k] {
			case 'T':
				least, most = 1, 5
			case 'W':
				least, most = 2, 5
			case 'N':
				least, most = ends[i.T][0], ends[i.T][1]
			case 'V', 'S':
				most = int64(len(c.Vars)) - 1
			case 'J':
				most = int64(len(c.Ins))
			case 'B':
				most = int64(len(c.Blocks)) - 1
			case 'O':
				most = int64(len(kinds[c.Blocks[i.A]][1])) - 1
			}
			if n < least || n > most || has[k] == 'S' && c.Vars[n].Class == 1 {
				return false
			}
		}
		return true
	}
	return false
}

// rightBy is the chapter's definition, written out a second time.
func rightBy(c api.Code) bool {
	ok := len(c.Name) > 0 && len(c.Name) < 41 && len(c.Vars) < 201 && len(c.Blocks) < 101 && len(c.Ins) > 0 && len(c.Ins) < 2001
	for k, v := range c.Vars {
		ok = ok && len(v.Name) > 0 && len(v.Name) < 41 && v.Class > 0 && v.Class < 5 && in(v.Type, v.First)
		for _, w := range c.Vars[:k] {
			ok = ok && w.Name != v.Name
		}
	}
	for _, k := range c.Blocks {
		ok = ok && k > 0 && k < 12
	}
	for _, i := range c.Ins {
		ok = ok && rightIns(c, i)
	}
	return ok
}

// varint is the chapter's of layer 1, by division.
func varint(n uint64) []byte {
	if n < 128 {
		return []byte{byte(n)}
	}
	return append([]byte{byte(n%128) + 128}, varint(n/128)...)
}

// twice is N as it is written down.
func twice(n int64) uint64 {
	x := new(big.Int).Mul(big.NewInt(n), big.NewInt(2))
	if n < 0 {
		x.Neg(x).Sub(x, big.NewInt(1))
	}
	return x.Uint64()
}

// part is a piece of a program's bytes: a number, or the text of a name.
type part struct {
	n    uint64
	text string
	name bool
}

// partsBy are those of a program's bytes, right or not.
func partsBy(c api.Code) []part {
	var l []part
	put := func(n uint64) { l = append(l, part{n: n}) }
	name := func(s string) {
		put(uint64(len(s)))
		l = append(l, part{text: s, name: true})
	}
	name(c.Name)
	put(uint64(len(c.Vars)))
	for _, v := range c.Vars {
		name(v.Name)
		put(uint64(v.Class))
		put(uint64(v.Type))
		if v.Type < 6 {
			v.First -= ends[v.Type][0]
		}
		put(uint64(v.First))
	}
	put(uint64(len(c.Blocks)))
	for _, k := range c.Blocks {
		put(uint64(k))
	}
	put(uint64(len(c.Ins)))
	for _, i := range c.Ins {
		put(uint64(i.Op))
		put(uint64(i.T))
		put(uint64(i.A))
		put(twice(i.N))
	}
	return l
}

func join(l []part) []byte {
	var b []byte
	for _, p := range l {
		if p.name {
			b = append(b, p.text...)
		} else {
			b = append(b, varint(p.n)...)
		}
	}
	return b
}

func bytesBy(c api.Code) []byte { return join(partsBy(c)) }

// reader is the second model's: what it cannot take leaves it bad.
type reader struct {
	b   []byte
	bad bool
}

func (r *reader) number() *big.Int {
	n := new(big.Int)
	for i := 0; ; i++ {
		if r.bad = r.bad || i == len(r.b); r.bad {
			return new(big.Int)
		}
		n.Add(n, new(big.Int).Lsh(big.NewInt(int64(r.b[i]%128)), uint(7*i)))
		if r.b[i] < 128 {
			r.bad = n.BitLen() > 64 || i > 0 && r.b[i] == 0
			r.b = r.b[i+1:]
			return n
		}
	}
}

// upTo is a number of at most most.
func (r *reader) upTo(most int64) int64 {
	n := r.number()
	if r.bad = r.bad || n.Cmp(big.NewInt(most)) > 0; r.bad {
		return 0
	}
	return n.Int64()
}

func (r *reader) name() string {
	n := int(r.upTo(40))
	if r.bad = r.bad || n > len(r.b); r.bad {
		return ""
	}
	s := string(r.b[:n])
	r.b = r.b[n:]
	return s
}

// n is an N: what is even is twice it, what is odd is twice its opposite, less 1.
func (r *reader) n() int64 {
	n := r.number()
	if n.Bit(0) == 1 {
		n.Add(n, big.NewInt(1)).Neg(n)
	}
	return n.Quo(n, big.NewInt(2)).Int64()
}

// readBy is the chapter's Read, written out a second time.
func readBy(b []byte) (api.Code, bool) {
	r := reader{b: b}
	c := api.Code{Name: r.name()}
	for range r.upTo(200) {
		v := api.Var{Name: r.name(), Class: api.Class(r.upTo(4)), Type: api.Type(r.upTo(5))}
		v.First = ends[v.Type][0] + r.upTo(1<<32)
		c.Vars = append(c.Vars, v)
	}
	for range r.upTo(100) {
		c.Blocks = append(c.Blocks, api.BKind(r.upTo(11)))
	}
	for range r.upTo(2000) {
		c.Ins = append(c.Ins, api.Ins{Op: api.Op(r.upTo(22)), T: api.Type(r.upTo(5)), A: int(r.upTo(2000)), N: r.n()})
	}
	if r.bad || len(r.b) != 0 || !rightBy(c) {
		return api.Code{}, false
	}
	return c, true
}

func same(a, b api.Code) bool {
	return a.Name == b.Name && slices.Equal(a.Vars, b.Vars) && slices.Equal(a.Blocks, b.Blocks) && slices.Equal(a.Ins, b.Ins)
}

// cloned is c in memory of its own.
func cloned(c api.Code) api.Code {
	return api.Code{Name: c.Name, Vars: slices.Clone(c.Vars), Blocks: slices.Clone(c.Blocks), Ins: slices.Clone(c.Ins)}
}

// changed is a new program that change was done to.
func changed(c api.Code, change func(c *api.Code)) api.Code {
	c = cloned(c)
	change(&c)
	return c
}

// least is the program that has nothing but what it must have.
func least() api.Code {
	return api.Code{Name: "p", Ins: []api.Ins{{Op: api.OEnd}}}
}

// plain is a program with all kinds of things: variables of each class and type, each block, each Op.
func plain() api.Code {
	c := api.Code{Name: "a lamp that is lit"}
	for k, t := range types {
		for class := api.VIn; class <= api.VRetain; class++ {
			c.Vars = append(c.Vars, api.Var{Name: "v" + strconv.Itoa(len(c.Vars)), Class: class, Type: t, First: ends[t][k%2]})
		}
	}
	for k := api.BTon; k <= api.BQuad; k++ {
		c.Blocks = append(c.Blocks, k)
	}
	for _, t := range types {
		c.Ins = append(c.Ins, api.Ins{Op: api.OPush, T: t, N: ends[t][0]}, api.Ins{Op: api.OPush, T: t, N: ends[t][1]})
		for o := api.OAnd; o <= api.OEq; o++ {
			c.Ins = append(c.Ins, api.Ins{Op: o, T: t})
		}
		for _, u := range types {
			c.Ins = append(c.Ins, api.Ins{Op: api.OConv, T: t, A: int(u)})
		}
	}
	for _, o := range []api.Op{api.OAdd, api.OSub, api.OMul, api.ODiv, api.OMod, api.OLt} {
		for _, t := range types[1:] {
			c.Ins = append(c.Ins, api.Ins{Op: o, T: t})
		}
	}
	for k, v := range c.Vars {
		c.Ins = append(c.Ins, api.Ins{Op: api.OLoad, A: k})
		if v.Class != api.VIn {
			c.Ins = append(c.Ins, api.Ins{Op: api.OStore, A: k})
		}
	}
	for k, b := range c.Blocks {
		c.Ins = append(c.Ins, api.Ins{Op: api.ORun, A: k})
		for n := range kinds[b][1] {
			c.Ins = append(c.Ins, api.Ins{Op: api.OPin, A: k, N: int64(n)})
		}
	}
	c.Ins = append(c.Ins, api.Ins{Op: api.ODup}, api.Ins{Op: api.ODrop}, api.Ins{Op: api.OJump}, api.Ins{Op: api.OIf, A: 130}, api.Ins{Op: api.OEnd})
	return c
}

// greatest is a program with as much of all as there may be.
func greatest() api.Code {
	c := api.Code{Name: strings.Repeat("x", 40)}
	for k := range 200 {
		n := strconv.Itoa(k)
		c.Vars = append(c.Vars, api.Var{Name: n + strings.Repeat("\xff", 40-len(n)), Class: api.VRetain, Type: api.TUdint, First: 1<<32 - 1})
	}
	for range 100 {
		c.Blocks = append(c.Blocks, api.BCtud)
	}
	for range 500 {
		c.Ins = append(c.Ins, api.Ins{Op: api.OPush, T: api.TUdint, N: 1<<32 - 1}, api.Ins{Op: api.OJump, A: 2000}, api.Ins{Op: api.OPin, A: 99, N: 2}, api.Ins{Op: api.OStore, A: 199})
	}
	return c
}

// chanceIns is an instruction of c that may be, of an Op of chance.
func chanceIns(chance *rand.Rand, c api.Code, many int) api.Ins {
	for {
		i := api.Ins{Op: api.Op(1 + chance.Intn(22))}
		switch {
		case i.Op == api.OPush:
			i.T = types[chance.Intn(5)]
			i.N = wrapped(i.T, int64(chance.Uint64())>>chance.Intn(64))
		case i.Op == api.OLoad || i.Op == api.OStore:
			i.A = chance.Intn(len(c.Vars) + 1)
		case i.Op < api.OAnd || i.Op == api.OLt:
			i.T = types[1+chance.Intn(4)]
		case i.Op < api.OLt:
			i.T = types[chance.Intn(5)]
		case i.Op == api.OConv:
			i.T, i.A = types[chance.Intn(5)], 1+chance.Intn(5)
		case i.Op == api.OJump || i.Op == api.OIf:
			i.A = chance.Intn(many + 1)
		case i.Op == api.ORun || i.Op == api.OPin:
			i.A = chance.Intn(len(c.Blocks) + 1)
			if i.Op == api.OPin {
				i.N = int64(chance.Intn(3))
			}
		}
		c.Ins = make([]api.Ins, many)
		if (i.Op < api.ORun || i.Op > api.OPin || i.A < len(c.Blocks)) && rightIns(c, i) {
			return i
		}
	}
}

// chanceName is a name of any bytes.
func chanceName(chance *rand.Rand) string {
	b := make([]byte, 1+chance.Intn(40))
	chance.Read(b)
	return string(b)
}

// chanceCode is a right program of chance.
func chanceCode(chance *rand.Rand) api.Code {
	c := api.Code{Name: chanceName(chance)}
	for k := range chance.Intn(8) {
		t := types[chance.Intn(5)]
		c.Vars = append(c.Vars, api.Var{Name: strconv.Itoa(k) + chanceName(chance)[1:], Class: api.Class(1 + chance.Intn(4)), Type: t, First: wrapped(t, int64(chance.Uint64())>>chance.Intn(64))})
	}
	for range chance.Intn(6) {
		c.Blocks = append(c.Blocks, api.BKind(1+chance.Intn(11)))
	}
	many := 1 + chance.Intn(20)
	for range many {
		c.Ins = append(c.Ins, chanceIns(chance, c, many))
	}
	return c
}

// some are right programs of all sizes.
func some() []api.Code {
	chance := rand.New(rand.NewSource(1))
	l := []api.Code{least(), plain(), greatest()}
	for range 300 {
		l = append(l, chanceCode(chance))
	}
	return l
}

// short is what x looks like, as far as one cares to read.
func short(x any) string {
	return fmt.Sprintf("%.300s", fmt.Sprintf("%v", x))
}

func wantRight(t *testing.T, c api.Code) {
	t.Helper()
	if !code.Right(c) {
		t.Fatalf("not right: %s", short(c))
	}
	if b, e := code.Bytes(c); e != api.OK || !slices.Equal(b, bytesBy(c)) {
		t.Fatalf("not as the chapter writes it, %d: %s", e, short(c))
	}
	wantRead(t, bytesBy(c), c)
}

// refuse wants a program to be not right, whatever is done with it.
func refuse(t *testing.T, c api.Code) {
	t.Helper()
	if code.Right(c) {
		t.Fatalf("right: %s", short(c))
	}
	if b, e := code.Bytes(c); e != api.ErrCode || b != nil {
		t.Fatalf("written, %d: %s", e, short(c))
	}
	refuseRead(t, bytesBy(c))
}

func wantRead(t *testing.T, b []byte, want api.Code) {
	t.Helper()
	if c, e := code.Read(b); e != api.OK || !same(c, want) {
		t.Fatalf("%d, %s, not %s", e, short(c), short(want))
	}
}

func refuseRead(t *testing.T, b []byte) {
	t.Helper()
	if c, e := code.Read(b); e != api.ErrCode || !reflect.DeepEqual(c, api.Code{}) {
		t.Fatalf("%s is read: %d, %s", short(b), e, short(c))
	}
}

// byModel wants Read to answer as the second model does, and tells whether there is a program.
func byModel(t *testing.T, b []byte) bool {
	t.Helper()
	want, ok := readBy(b)
	if ok {
		wantRead(t, b, want)
	} else {
		refuseRead(t, b)
	}
	return ok
}

// The chapter's examples.
func TestExamples(t *testing.T) {
	if a, b, c := code.Wrap(api.TSint, 200), code.Wrap(api.TUdint, -1), code.Wrap(api.TBool, 7); a != -56 || b != 4294967295 || c != 1 {
		t.Error(a, b, c)
	}
	ins, outs := code.Pins(api.BCtud)
	if !slices.Equal(ins, []api.Type{api.TBool, api.TBool, api.TBool, api.TBool, api.TDint}) || !slices.Equal(outs, []api.Type{api.TBool, api.TBool, api.TDint}) {
		t.Error(ins, outs)
	}
	if b, e := code.Bytes(least()); e != api.OK || !slices.Equal(b, []byte{1, 112, 0, 0, 1, 22, 0, 0, 0}) {
		t.Error(b, e)
	}
	wantRight(t, least())
}

// P13.1: the range of each type, and of none.
func TestRange(t *testing.T) {
	for k := range 256 {
		var want [2]int64
		if k < 6 {
			want = ends[k]
		}
		if least, greatest := code.Range(api.Type(k)); least != want[0] || greatest != want[1] {
			t.Errorf("the type %d: %d to %d", k, least, greatest)
		}
	}
}

// P13.1: what is wrapped at the ends of each type, written out.
func TestWrapEdges(t *testing.T) {
	for _, x := range []struct {
		t       api.Type
		n, want int64
	}{
		{api.TBool, 0, 0}, {api.TBool, 1, 1}, {api.TBool, 2, 1}, {api.TBool, -1, 1}, {api.TBool, 256, 1}, {api.TBool, 1 << 32, 1}, {api.TBool, math.MinInt64, 1}, {api.TBool, math.MaxInt64, 1},
		{api.TSint, -128, -128}, {api.TSint, 127, 127}, {api.TSint, -129, 127}, {api.TSint, 128, -128}, {api.TSint, 255, -1}, {api.TSint, 256, 0}, {api.TSint, math.MinInt64, 0}, {api.TSint, math.MaxInt64, -1},
		{api.TInt, -32768, -32768}, {api.TInt, 32767, 32767}, {api.TInt, -32769, 32767}, {api.TInt, 32768, -32768}, {api.TInt, 65535, -1}, {api.TInt, 65536, 0}, {api.TInt, math.MinInt64, 0}, {api.TInt, math.MaxInt64, -1},
		{api.TDint, -2147483648, -2147483648}, {api.TDint, 2147483647, 2147483647}, {api.TDint, -2147483649, 2147483647}, {api.TDint, 2147483648, -2147483648}, {api.TDint, 4294967296, 0}, {api.TDint, math.MinInt64, 0}, {api.TDint, math.MaxInt64, -1},
		{api.TUdint, 0, 0}, {api.TUdint, 4294967295, 4294967295}, {api.TUdint, -1, 4294967295}, {api.TUdint, 4294967296, 0}, {api.TUdint, -4294967296, 0}, {api.TUdint, math.MinInt64, 0}, {api.TUdint, math.MaxInt64, 4294967295},
		{0, 1, 0}, {6, 1, 0}, {255, -1, 0}, {0, math.MinInt64, 0}, {6, math.MaxInt64, 0},
	} {
		if got := code.Wrap(x.t, x.n); got != x.want {
			t.Errorf("%d into the type %d: %d, not %d", x.n, x.t, got, x.want)
		}
	}
}

// P13.1, P13.3: what is wrapped is in its range, differs by a multiple of how many there are, and stays as it is, if it was there.
func TestWrap(t *testing.T) {
	numbers := farNumbers()
	chance := rand.New(rand.NewSource(2))
	for range 5000 {
		numbers = append(numbers, int64(chance.Uint64())>>chance.Intn(64))
	}
	for _, n := range numbers {
		for k := range 256 {
			got := code.Wrap(api.Type(k), n)
			if got != wrapped(api.Type(k), n) {
				t.Errorf("%d into the type %d: %d", n, k, got)
			}
			if k > 0 && k < 6 && (!in(api.Type(k), got) || code.Wrap(api.Type(k), got) != got || in(api.Type(k), n) && got != n) {
				t.Errorf("%d into the type %d: %d, in the range it is %t", n, k, got, in(api.Type(k), n))
			}
		}
	}
}

// P13.1, R3: the pins of each kind of block, and of none; what was told is in memory of its own.
func TestPins(t *testing.T) {
	for range 2 {
		for k := range 256 {
			var want [2][]api.Type
			if k < 12 {
				want = kinds[k]
			}
			ins, outs := code.Pins(api.BKind(k))
			if !slices.Equal(ins, want[0]) || !slices.Equal(outs, want[1]) {
				t.Errorf("the kind %d: %v, %v", k, ins, outs)
			}
			clear(ins[:cap(ins)])
			if !slices.Equal(outs, want[1]) {
				t.Errorf("the kind %d: inputs and outputs share memory", k)
			}
			clear(outs[:cap(outs)])
		}
	}
}

// P13.2: names of the program and of a variable: of 1 to 40 bytes, whatever they are.
func TestNames(t *testing.T) {
	for _, fill := range []string{"x", "\x00", "\xff", " ", "\n"} {
		for n := range 200 {
			s := strings.Repeat(fill, n)
			one := changed(plain(), func(c *api.Code) { c.Name = s })
			first := changed(plain(), func(c *api.Code) { c.Vars[0].Name = s })
			last := changed(plain(), func(c *api.Code) { c.Vars[len(c.Vars)-1].Name = s })
			for _, c := range []api.Code{one, first, last} {
				if n >= 1 && n <= 40 {
					wantRight(t, c)
				} else {
					refuse(t, c)
				}
			}
		}
	}
	for _, n := range []int{255, 256, 257, 296, 1 << 16, 1<<16 + 1, 1 << 20} {
		s := strings.Repeat("x", n)
		refuse(t, changed(least(), func(c *api.Code) { c.Name = s }))
		refuse(t, changed(plain(), func(c *api.Code) { c.Vars[3].Name = s }))
	}
	// 40 bytes are not 40 runes.
	wantRight(t, changed(least(), func(c *api.Code) { c.Name = strings.Repeat("é", 20) }))
	refuse(t, changed(least(), func(c *api.Code) { c.Name = strings.Repeat("é", 20) + "x" }))
}

// P13.2: no two variables have one name; names that are nearly alike are two, and the program may be called as a variable.
func TestTwoOfOneName(t *testing.T) {
	c := greatest()
	for _, x := range [][2]int{{0, 1}, {1, 0}, {0, 199}, {199, 0}, {98, 101}, {198, 199}} {
		refuse(t, changed(c, func(c *api.Code) { c.Vars[x[0]].Name = c.Vars[x[1]].Name }))
		refuse(t, changed(c, func(c *api.Code) {
			c.Vars[x[0]] = api.Var{Name: c.Vars[x[1]].Name, Class: api.VIn, Type: api.TBool}
		}))
	}
	p := plain()
	for k := range p.Vars {
		for j := range p.Vars {
			if j != k {
				refuse(t, changed(p, func(c *api.Code) { c.Vars[k].Name = c.Vars[j].Name }))
			}
		}
		wantRight(t, changed(p, func(c *api.Code) { c.Name = c.Vars[k].Name }))
	}
	for _, x := range [][2]string{{"a", "A"}, {"a", "a "}, {"a", "a\x00"}, {"\x00", "\x00\x00"}, {"\xff", "\xfe"}, {strings.Repeat("a", 40), strings.Repeat("a", 39) + "b"}} {
		wantRight(t, changed(p, func(c *api.Code) { c.Vars[0].Name, c.Vars[1].Name = x[0], x[1] }))
	}
}

// filled is a program of so many variables, blocks and instructions.
func filled(vars, blocks, ins int) api.Code {
	c := api.Code{Name: "filled"}
	for k := range vars {
		c.Vars = append(c.Vars, api.Var{Name: strconv.Itoa(k), Class: api.VMem, Type: api.TBool})
	}
	for range blocks {
		c.Blocks = append(c.Blocks, api.BSr)
	}
	for range ins {
		c.Ins = append(c.Ins, api.Ins{Op: api.OEnd})
	}
	return c
}

// P13.2, Limits: 200 variables, 100 blocks, 1 to 2000 instructions, all of them together.
func TestHowMany(t *testing.T) {
	for _, vars := range []int{0, 1, 199, 200, 201, 202} {
		for _, blocks := range []int{0, 1, 99, 100, 101, 102} {
			for _, ins := range []int{0, 1, 2, 1999, 2000, 2001, 2002} {
				c := filled(vars, blocks, ins)
				if vars <= 200 && blocks <= 100 && ins >= 1 && ins <= 2000 {
					wantRight(t, c)
				} else {
					refuse(t, c)
				}
			}
		}
	}
	refuse(t, api.Code{})
	// Far more, also such as would be few, were the upper bits of how many lost.
	for _, n := range []int{255, 256, 257, 456, 512, 1 << 15, 1 << 16, 1<<16 + 1, 1<<16 + 100, 1 << 17} {
		refuse(t, filled(n, 0, 1))
		refuse(t, filled(0, n, 1))
		refuse(t, filled(0, 0, 2000+n))
	}
	refuse(t, filled(0, 0, 1<<16))
	refuse(t, filled(0, 0, 1<<16+1))
}

// P13.2: Classes, Types and Firsts of a variable, in the first place and in the last.
func TestVars(t *testing.T) {
	firsts := farNumbers()
	for _, k := range []int{0, 19} {
		for class := range 256 {
			c := changed(plain(), func(c *api.Code) { c.Vars[k].Class = api.Class(class) })
			c.Ins = []api.Ins{{Op: api.OEnd}}
			if class >= 1 && class <= 4 {
				wantRight(t, c)
			} else {
				refuse(t, c)
			}
		}
		for kind := range 256 {
			for _, n := range []int64{0, 1, 5, -1} {
				c := changed(plain(), func(c *api.Code) { c.Vars[k].Type, c.Vars[k].First = api.Type(kind), n })
				if in(api.Type(kind), n) {
					wantRight(t, c)
				} else {
					refuse(t, c)
				}
			}
		}
		for _, kind := range types {
			for _, n := range firsts {
				c := changed(least(), func(c *api.Code) {
					c.Vars = slices.Clone(plain().Vars)
					c.Vars[k].Type, c.Vars[k].First = kind, n
				})
				if in(kind, n) {
					wantRight(t, c)
				} else {
					refuse(t, c)
				}
			}
		}
	}
}

// P13.2: each block is of a kind that there is, wherever it stands.
func TestBlocks(t *testing.T) {
	for _, k := range []int{0, 49, 99} {
		for kind := range 256 {
			c := filled(0, 100, 1)
			c.Blocks[k] = api.BKind(kind)
			if kind >= 1 && kind <= 11 {
				wantRight(t, c)
			} else {
				refuse(t, c)
			}
		}
	}
}

// with is p with the instruction i ahead of its own.
func with(p api.Code, i api.Ins) api.Code {
	return changed(p, func(c *api.Code) { c.Ins = append([]api.Ins{i}, c.Ins...) })
}

// P13.2: each Op, and none, with each field at the ends of what it may be and beyond, all of them together.
func TestIns(t *testing.T) {
	p := api.Code{Name: "p", Vars: plain().Vars[:4], Blocks: plain().Blocks, Ins: []api.Ins{{Op: api.OEnd}, {Op: api.ODup}, {Op: api.ODrop}, {Op: api.ODup}}}
	ts := []api.Type{0, 1, 2, 3, 4, 5, 6, 7, 128, 254, 255}
	as := []int{math.MinInt, math.MinInt + 1, -1 << 32, -257, -256, -5, -2, -1, 0, 1, 2, 3, 4, 5, 6, 7, 8, 9, 10, 11, 12, 22, 255, 256, 257, 258, 261, 1 << 16, 1<<16 + 1, math.MaxInt32, 1 << 32, 1<<32 + 1, 1<<40 + 3, math.MaxInt}
	ns := []int64{math.MinInt64, math.MinInt64 + 1, -1 << 32, -1<<31 - 1, -1 << 31, -32769, -32768, -129, -128, -2, -1, 0, 1, 2, 3, 127, 128, 255, 256, 257, 32767, 32768, 1 << 16, 1<<31 - 1, 1 << 31, 1<<32 - 1, 1 << 32, 1<<32 + 1, math.MaxInt64}
	right := map[api.Op]int{}
	for op := range 256 {
		for _, kind := range ts {
			for _, a := range as {
				for _, n := range ns {
					i := api.Ins{Op: api.Op(op), T: kind, A: a, N: n}
					if op > 25 && kind > 1 && a > 1 {
						continue
					}
					c := with(p, i)
					want := rightBy(c)
					if code.Right(c) != want {
						t.Fatalf("%v: it is not %t", i, want)
					}
					if want {
						right[i.Op]++
						wantRight(t, c)
					} else if kind < 2 && a >= -1 && a < 2 && n >= -1 && n < 2 {
						refuse(t, c)
					}
				}
			}
		}
	}
	for op := api.OPush; op <= api.OEnd; op++ {
		if right[op] == 0 {
			t.Errorf("of the Op %d none is right", op)
		}
	}
}

// P13.2: instructions written out: such as may be, and such as may not.
func TestInsWrittenOut(t *testing.T) {
	p := plain() // the variables 0, 4, .. are of VIn; the block k is of the kind k + 1
	last := len(p.Ins) + 1
	for _, i := range []api.Ins{
		{Op: api.OPush, T: api.TBool, N: 1}, {Op: api.OPush, T: api.TSint, N: -128}, {Op: api.OPush, T: api.TDint, N: 1<<31 - 1}, {Op: api.OPush, T: api.TUdint, N: 1<<32 - 1},
		{Op: api.OLoad}, {Op: api.OLoad, A: 19}, {Op: api.OStore, A: 1}, {Op: api.OStore, A: 2}, {Op: api.OStore, A: 3}, {Op: api.OStore, A: 19},
		{Op: api.OAdd, T: api.TSint}, {Op: api.OLt, T: api.TUdint}, {Op: api.OEq, T: api.TBool}, {Op: api.OAnd, T: api.TBool}, {Op: api.ONot, T: api.TUdint},
		{Op: api.OConv, T: api.TBool, A: 1}, {Op: api.OConv, T: api.TUdint, A: 5}, {Op: api.OConv, T: api.TBool, A: 5},
		{Op: api.ODup}, {Op: api.ODrop}, {Op: api.OEnd},
		{Op: api.OJump}, {Op: api.OJump, A: last}, {Op: api.OIf}, {Op: api.OIf, A: last}, {Op: api.OJump, A: last - 1},
		{Op: api.ORun}, {Op: api.ORun, A: 10},
		{Op: api.OPin}, {Op: api.OPin, A: 0, N: 1}, {Op: api.OPin, A: 5, N: 2}, {Op: api.OPin, A: 6}, {Op: api.OPin, A: 10, N: 1},
	} {
		wantRight(t, with(p, i))
	}
	for _, i := range []api.Ins{
		{}, {T: 1}, {Op: 23}, {Op: 24}, {Op: 128}, {Op: 255}, {Op: 23, T: 1}, {Op: 23, A: 1}, {Op: 23, N: 1},
		{Op: api.OPush}, {Op: api.OPush, T: 6}, {Op: api.OPush, T: api.TBool, N: 2}, {Op: api.OPush, T: api.TBool, N: -1}, {Op: api.OPush, T: api.TSint, N: 128}, {Op: api.OPush, T: api.TDint, N: 1 << 31}, {Op: api.OPush, T: api.TUdint, N: -1}, {Op: api.OPush, T: api.TUdint, N: 1 << 32}, {Op: api.OPush, T: api.TBool, A: 1},
		{Op: api.OLoad, A: 20}, {Op: api.OLoad, A: -1}, {Op: api.OLoad, T: 1}, {Op: api.OLoad, N: 1}, {Op: api.OLoad, N: -1},
		{Op: api.OStore}, {Op: api.OStore, A: 4}, {Op: api.OStore, A: 16}, {Op: api.OStore, A: 20}, {Op: api.OStore, A: -1}, {Op: api.OStore, A: 1, T: 1}, {Op: api.OStore, A: 1, N: 1},
		{Op: api.OAdd}, {Op: api.OAdd, T: api.TBool}, {Op: api.OLt, T: api.TBool}, {Op: api.OAdd, T: 6}, {Op: api.OMod, T: api.TInt, A: 1}, {Op: api.OMul, T: api.TInt, N: 1},
		{Op: api.OAnd}, {Op: api.OEq, T: 6}, {Op: api.OEq, T: 1, A: 1}, {Op: api.ONot, T: 1, N: -1},
		{Op: api.OConv, T: 1}, {Op: api.OConv, A: 1}, {Op: api.OConv, T: 1, A: 6}, {Op: api.OConv, T: 6, A: 1}, {Op: api.OConv, T: 1, A: -1}, {Op: api.OConv, T: 1, A: 257}, {Op: api.OConv, T: 1, A: 1<<32 + 1}, {Op: api.OConv, T: 1, A: 1, N: 1},
		{Op: api.ODup, T: 1}, {Op: api.ODup, A: 1}, {Op: api.ODup, N: 1}, {Op: api.ODrop, T: 1}, {Op: api.ODrop, A: -1}, {Op: api.OEnd, T: 1}, {Op: api.OEnd, A: 1}, {Op: api.OEnd, N: -1},
		{Op: api.OJump, A: last + 1}, {Op: api.OIf, A: last + 1}, {Op: api.OJump, A: -1}, {Op: api.OIf, A: -1}, {Op: api.OJump, T: 1}, {Op: api.OIf, N: 1},
		{Op: api.ORun, A: 11}, {Op: api.ORun, A: -1}, {Op: api.ORun, T: 1}, {Op: api.ORun, N: 1},
		{Op: api.OPin, A: 11}, {Op: api.OPin, A: -1}, {Op: api.OPin, N: 2}, {Op: api.OPin, N: -1}, {Op: api.OPin, A: 5, N: 3}, {Op: api.OPin, A: 6, N: 1}, {Op: api.OPin, A: 10, N: 2}, {Op: api.OPin, T: 1},
	} {
		refuse(t, with(p, i))
	}
	bare := least()
	for _, o := range []api.Op{api.OLoad, api.OStore, api.ORun, api.OPin} {
		refuse(t, with(bare, api.Ins{Op: o}))
	}
}

// P13.2: OPin of each kind of block, up to its last output, and behind.
func TestPinsOfBlocks(t *testing.T) {
	p := plain()
	for k, b := range p.Blocks {
		for n := int64(-3); n < 9; n++ {
			c := with(p, api.Ins{Op: api.OPin, A: k, N: n})
			if n >= 0 && n < int64(len(kinds[b][1])) {
				wantRight(t, c)
			} else {
				refuse(t, c)
			}
		}
	}
}

// P13.2: an instruction that may not be, wherever it stands among 2000.
func TestInsPlaces(t *testing.T) {
	for _, k := range []int{0, 1, 999, 1998, 1999} {
		for _, i := range []api.Ins{{}, {Op: 23}, {Op: api.OPush, T: 1, N: 2}, {Op: api.OLoad}, {Op: api.OStore}, {Op: api.OAdd, T: 1}, {Op: api.OConv, T: 1}, {Op: api.OJump, A: 2001}, {Op: api.OIf, A: -1}, {Op: api.ORun, A: 1}, {Op: api.OPin, N: 1}, {Op: api.OEnd, N: 1}} {
			c := filled(0, 1, 2000)
			c.Ins[k] = i
			refuse(t, c)
		}
		c := filled(0, 1, 2000)
		c.Ins[k] = api.Ins{Op: api.OJump, A: 2000}
		wantRight(t, c)
	}
}

// P13.2: bytes of a program with numbers of more than one digit, and below 0, written out by hand.
func TestKnownBytes(t *testing.T) {
	c := api.Code{
		Name:   "lamp",
		Vars:   []api.Var{{Name: "on", Class: api.VIn, Type: api.TBool, First: 1}, {Name: "n", Class: api.VRetain, Type: api.TInt, First: -32768}, {Name: "m", Class: api.VMem, Type: api.TSint, First: 5}, {Name: "u", Class: api.VOut, Type: api.TUdint, First: 300}, {Name: "d", Class: api.VMem, Type: api.TDint}},
		Blocks: []api.BKind{api.BTon, api.BQuad},
		Ins: []api.Ins{
			{Op: api.OPush, T: api.TUdint, N: 4294967295},
			{Op: api.OPush, T: api.TSint, N: -128},
			{Op: api.OPush, T: api.TInt, N: -1},
			{Op: api.OPush, T: api.TDint, N: -2147483648},
			{Op: api.OPush, T: api.TSint, N: 64},
			{Op: api.OConv, T: api.TInt, A: 5},
			{Op: api.OPin, A: 1, N: 1},
			{Op: api.OJump, A: 9},
			{Op: api.OEnd},
		},
	}
	const want = "046c616d70" + "05" +
		"026f6e" + "0101" + "01" +
		"016e" + "0403" + "00" +
		"016d" + "0302" + "8501" +
		"0175" + "0205" + "ac02" +
		"0164" + "0304" + "8080808008" +
		"02010b" + "09" +
		"010500" + "feffffff1f" +
		"010200" + "ff01" +
		"010300" + "01" +
		"010400" + "ffffffff0f" +
		"010200" + "8001" +
		"0f030500" + "15000102" + "12000900" + "16000000"
	if b, e := code.Bytes(c); e != api.OK || hex.EncodeToString(b) != want {
		t.Errorf("%x, %d", b, e)
	}
	wantRight(t, c)
}

// P13.2, P13.3: programs of all sizes are right, written as the chapter says, and read back; none and an empty list are the same.
func TestWrittenIsRead(t *testing.T) {
	for _, c := range some() {
		if !rightBy(c) {
			t.Fatalf("the tests' own program is not right: %s", short(c))
		}
		wantRight(t, c)
	}
	empty := api.Code{Name: "p", Vars: []api.Var{}, Blocks: []api.BKind{}, Ins: []api.Ins{{Op: api.OEnd}}}
	wantRight(t, empty)
	if one, two := bytesBy(empty), bytesBy(least()); !slices.Equal(one, two) {
		t.Error(one, two)
	}
	refuse(t, api.Code{Name: "p", Ins: []api.Ins{}})
}

// P13.3: unlike programs have unlike bytes.
func TestUnlikeBytes(t *testing.T) {
	seen := map[string]api.Code{}
	add := func(c api.Code) {
		b, e := code.Bytes(c)
		if e != api.OK {
			return
		}
		if old, ok := seen[string(b)]; ok && !same(old, c) {
			t.Fatalf("%s and %s are both %s", short(old), short(c), short(b))
		}
		seen[string(b)] = c
	}
	for _, c := range some() {
		add(c)
	}
	// Names that run on into what is behind them.
	for _, s := range []string{"a", "a\x00", "a\x00\x00", "\x00", "\x00\x00", "a\x01", "\x01a"} {
		add(api.Code{Name: s, Ins: []api.Ins{{Op: api.OEnd}}})
		for _, v := range []string{"a", "a\x00", "\x00", "\x01", "a\x01\x01"} {
			add(api.Code{Name: s, Vars: []api.Var{{Name: v, Class: 1, Type: 1}}, Ins: []api.Ins{{Op: api.OEnd}}})
		}
	}
	for n := int64(-400); n < 400; n++ {
		for _, kind := range types {
			add(api.Code{Name: "p", Ins: []api.Ins{{Op: api.OPush, T: kind, N: n}}})
			add(api.Code{Name: "p", Vars: []api.Var{{Name: "v", Class: 1, Type: kind, First: n}}, Ins: []api.Ins{{Op: api.OEnd}}})
		}
	}
	if len(seen) < 2000 {
		t.Errorf("only %d programs", len(seen))
	}
}

// P13.2: bytes that are cut off anywhere, or have something behind.
func TestReadCutOff(t *testing.T) {
	for k, c := range some() {
		b := bytesBy(c)
		step := 1
		if k == 2 {
			step = 97
		}
		for n := 0; n < len(b); n += step {
			refuseRead(t, b[:n])
			refuseRead(t, b[n:][:len(b)-n-1])
		}
		refuseRead(t, b[:len(b)-1])
		for _, behind := range []string{"\x00", "\x01", "\x16\x00\x00\x00", "\xff", "\x80\x00", string(b)} {
			refuseRead(t, append(slices.Clone(b), behind...))
		}
		byModel(t, b[1:])
	}
	refuseRead(t, nil)
	refuseRead(t, []byte{})
	// Of 15 instructions the last 8 are wanting: read on from the beginning, as numbers, these bytes would have them.
	b := []byte{1, 2, 0, 0, 15}
	for range 6 {
		b = append(b, 1, 2, 0, 15)
	}
	refuseRead(t, append(b, 1, 2, 0))
	// What spare room would have is not read.
	b = bytesBy(least())
	refuseRead(t, b[:8:9])
}

// others are other ways of writing the number n, none of which is its.
func others(n uint64) [][]byte {
	x := varint(n)
	long := slices.Clone(x)
	long[len(long)-1] |= 128
	l := [][]byte{append(slices.Clone(long), 0), append(slices.Clone(long), 128, 0), {}, {128}, {128, 0}, {255, 255}}
	for len(long) < 9 {
		long = append(long, 128)
	}
	// With a bit that 64 bits have no place for.
	return append(l, append(slices.Clone(long[:9]), 2), append(slices.Clone(long[:9]), 128, 1), append(slices.Clone(long[:9]), 0))
}

// P13.2: each number of a program in another way, or another number there: Read answers as the second model does.
func TestReadOtherNumbers(t *testing.T) {
	chance := rand.New(rand.NewSource(3))
	programs := []api.Code{least(), plain()}
	for range 20 {
		programs = append(programs, chanceCode(chance))
	}
	read := 0
	for k, c := range programs {
		parts := partsBy(c)
		for i, p := range parts {
			if p.name || k == 1 && i%3 != 0 && i > 120 {
				continue
			}
			for _, way := range others(p.n) {
				b := slices.Concat(join(parts[:i]), way, join(parts[i+1:]))
				if byModel(t, b) {
					t.Fatalf("the number %d of %s, in another way, is read", i, short(c))
				}
			}
			for _, n := range []uint64{0, 1, 2, 5, 6, 40, 41, 100, 101, 127, 128, 200, 201, 255, 256, 257, 2000, 2001, 65535, 65536, 1<<31 - 1, 1 << 31, 1<<32 - 1, 1 << 32, 1<<63 - 1, 1 << 63, math.MaxUint64,
				p.n - 1, p.n + 1, p.n - 2, p.n + 2, p.n + 128, p.n + 256, p.n + 1<<16, p.n + 1<<31, p.n + 1<<32, p.n + 1<<33, p.n + 1<<62, p.n + 1<<63, -p.n} {
				other := slices.Clone(parts)
				other[i].n = n
				if byModel(t, join(other)) && n != p.n {
					read++
				}
			}
		}
	}
	if read < 500 {
		t.Errorf("only %d other programs were read", read)
	}
}

// P13.2, P13.3: each bit of a program's bytes turned, and each byte of it taken away or doubled: what is read is written as it was read.
func TestReadTurned(t *testing.T) {
	chance := rand.New(rand.NewSource(4))
	programs := []api.Code{least(), changed(plain(), func(c *api.Code) { c.Vars, c.Ins = c.Vars[:7], c.Ins[:40] })}
	for range 10 {
		programs = append(programs, chanceCode(chance))
	}
	read := 0
	for _, c := range programs {
		b := bytesBy(c)
		for i := range b {
			for bit := range 8 {
				b[i] ^= 1 << bit
				if byModel(t, b) {
					read++
					got, _ := code.Read(b)
					if again, e := code.Bytes(got); e != api.OK || !slices.Equal(again, b) || same(got, c) {
						t.Fatalf("%s is read as %s", short(b), short(got))
					}
				}
				b[i] ^= 1 << bit
			}
			byModel(t, slices.Concat(b[:i], b[i+1:]))
			byModel(t, slices.Concat(b[:i], b[i:i+1], b[i:]))
		}
	}
	if read < 300 {
		t.Errorf("only %d turned programs were read", read)
	}
}

// P13.2: bytes of chance, and of chance behind a right beginning.
func TestReadOfChance(t *testing.T) {
	chance := rand.New(rand.NewSource(5))
	for range 30000 {
		b := make([]byte, chance.Intn(40))
		for i := range b {
			b[i] = byte(chance.Intn(256))
			if chance.Intn(3) > 0 {
				b[i] = byte(chance.Intn(5))
			}
		}
		byModel(t, b)
		byModel(t, append([]byte{1, 'p', 0, 0, 1}, b...))
		byModel(t, append([]byte{1, 'p', 1, 1, 'v'}, b...))
		byModel(t, append([]byte{1, 'p', 0}, b...))
	}
}

// P13.2: numbers of how many there are far beyond what there may be end at once, and make no room for them.
func TestReadFarCounts(t *testing.T) {
	for _, n := range []uint64{201, 2001, 1 << 20, 1 << 31, 1 << 40, 1 << 63, math.MaxUint64} {
		for _, ahead := range []string{"", "\x01p", "\x01p\x00", "\x01p\x00\x00", "\x01p\x01\x01v\x01\x01\x00"} {
			refuseRead(t, append([]byte(ahead), varint(n)...))
			refuseRead(t, append(append([]byte(ahead), varint(n)...), bytesBy(plain())...))
		}
	}
}

// P13.2: the bytes that programs which are not right would have: one thing of each changed.
func TestReadOfNotRight(t *testing.T) {
	for _, change := range []func(c *api.Code){
		func(c *api.Code) { c.Name = "" },
		func(c *api.Code) { c.Name = strings.Repeat("x", 41) },
		func(c *api.Code) { c.Vars[1].Name = "" },
		func(c *api.Code) { c.Vars[1].Name = strings.Repeat("x", 41) },
		func(c *api.Code) { c.Vars[19].Name = c.Vars[0].Name },
		func(c *api.Code) { c.Vars[0].Class = 0 },
		func(c *api.Code) { c.Vars[0].Class = 5 },
		func(c *api.Code) { c.Vars[0].Type = 0 },
		func(c *api.Code) { c.Vars[0].Type = 6 },
		func(c *api.Code) { c.Vars[0].First = 2 },
		func(c *api.Code) { c.Vars[4].First = -129 },
		func(c *api.Code) { c.Vars[19].First = 1 << 32 },
		func(c *api.Code) { c.Blocks[10] = 0 },
		func(c *api.Code) { c.Blocks[10] = 12 },
		func(c *api.Code) { c.Ins = nil },
		func(c *api.Code) { c.Ins[3].Op = 0 },
		func(c *api.Code) { c.Ins[3].Op = 23 },
		func(c *api.Code) { c.Ins[0].N = 2 },
		func(c *api.Code) { c.Ins[0].N = -1 },
		func(c *api.Code) { c.Ins[len(c.Ins)-1].A = 1 },
		func(c *api.Code) { c.Ins[len(c.Ins)-1].A = math.MinInt },
		func(c *api.Code) { c.Ins[len(c.Ins)-1].A = -1 },
		func(c *api.Code) { c.Ins[len(c.Ins)-1].N = math.MinInt64 },
		func(c *api.Code) { c.Ins = append(c.Ins, api.Ins{Op: api.OStore}) },
		func(c *api.Code) { c.Ins = append(c.Ins, api.Ins{Op: api.OJump, A: len(c.Ins) + 2}) },
	} {
		refuse(t, changed(plain(), change))
	}
}

// R3: what is handed in is not changed, nor its spare room.
func TestNothingChanges(t *testing.T) {
	for _, c := range some() {
		whole := cloned(c)
		whole.Vars = append(whole.Vars, api.Var{Name: "spare", First: 7})
		whole.Blocks = append(whole.Blocks, 77)
		whole.Ins = append(whole.Ins, api.Ins{Op: 77, N: -7})
		kept := cloned(whole)
		use := api.Code{Name: c.Name, Vars: whole.Vars[:len(c.Vars)], Blocks: whole.Blocks[:len(c.Blocks)], Ins: whole.Ins[:len(c.Ins)]}
		code.Right(use)
		b, _ := code.Bytes(use)
		room := append(slices.Clone(b), 1, 2, 3)
		old := slices.Clone(room)
		code.Read(room[:len(b)])
		code.Read(room[:len(b)-1])
		code.Read(room)
		if !same(whole, kept) || !slices.Equal(room, old) {
			t.Fatalf("changed: %s", short(c))
		}
	}
}

// R3: what was told shares no memory with what was handed in, nor with other answers.
func TestAnswersAreTheirOwn(t *testing.T) {
	for _, want := range []api.Code{least(), plain(), greatest()} {
		own := cloned(want)
		one, _ := code.Bytes(own)
		two, _ := code.Bytes(own)
		clear(one[:cap(one)])
		clear(own.Vars)
		clear(own.Blocks)
		clear(own.Ins)
		if !slices.Equal(two, bytesBy(want)) {
			t.Errorf("bytes were changed: %s", short(want))
		}
		c, _ := code.Read(two)
		d, _ := code.Read(two)
		clear(two[:cap(two)])
		clear(c.Vars[:cap(c.Vars)])
		clear(c.Blocks[:cap(c.Blocks)])
		clear(c.Ins[:cap(c.Ins)])
		code.Read(bytesBy(plain()))
		code.Bytes(greatest())
		if !same(d, want) {
			t.Errorf("what was read was changed: %s", short(want))
		}
	}
}

// R4: what is asked again is answered again, whatever was asked between.
func TestSameAgain(t *testing.T) {
	p := plain()
	for range 20 {
		wantRight(t, p)
		refuse(t, changed(p, func(c *api.Code) { c.Name = "" }))
		refuse(t, with(p, api.Ins{Op: api.OStore}))
		wantRight(t, greatest())
		refuseRead(t, []byte{1})
		wantRight(t, least())
	}
}
