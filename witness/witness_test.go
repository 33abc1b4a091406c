package witness_test

import (
	"bytes"
	"crypto/hmac"
	"crypto/sha256"
	"encoding/hex"
	"math"
	"math/rand"
	"slices"
	"testing"

	"blockhouse/api"
	"blockhouse/lamport"
	"blockhouse/merkle"
	"blockhouse/sha"
	"blockhouse/sign"
	"blockhouse/witness"
)

// odd is a table that digests are not made by.
func odd(chance *rand.Rand) api.Rounds {
	var t api.Rounds
	for i := range t.First {
		t.First[i] = chance.Uint32()
	}
	for i := range t.Keys {
		t.Keys[i] = chance.Uint32()
	}
	return t
}

// tables are the right one, one of noughts, another one, and none.
func tables() []*api.Rounds {
	table, other := sha.Table(), odd(rand.New(rand.NewSource(1)))
	return []*api.Rounds{&table, {}, &other, nil}
}

// rising are the bytes from 1 to 32.
func rising() [32]byte {
	var b [32]byte
	for i := range b {
		b[i] = byte(i + 1)
	}
	return b
}

// far are numbers that are no leaf, bit, value or height.
func far() []int {
	return []int{-1, -2, -8, -255, -256, math.MinInt32, math.MinInt, math.MinInt + 1, 256, 257, 511, 512, 1 << 16, math.MaxInt32, 1 << 32, 1<<32 + 1, 1 << 62, math.MaxInt}
}

// varint is the chapter's of layer 1, by division.
func varint(n int) []byte {
	if n < 128 {
		return []byte{byte(n)}
	}
	return append([]byte{byte(n%128) + 128}, varint(n/128)...)
}

// textOf is the text of a tag and parts, written out a second time.
func textOf(tag byte, parts ...[]byte) []byte {
	b := append([]byte{75, tag}, varint(len(parts))...)
	for _, p := range parts {
		b = append(append(b, varint(len(p))...), p...)
	}
	return b
}

func digestOf(t *api.Rounds, text []byte) api.Digest {
	return sha.Of(t, textOf(5, text))
}

// bitOf is the bit i of d, by division.
func bitOf(d api.Digest, i int) int {
	n := int(d[i/8])
	for range 7 - i%8 {
		n /= 2
	}
	return n % 2
}

// secretOf is the secret of numbers that may be, written out a second time: by the library's HMAC, where the table is the right one.
func secretOf(t *api.Rounds, seed [32]byte, leaf, bit, val int) [32]byte {
	if right := sha.Table(); t == nil || *t != right {
		return lamport.Secret(t, seed, leaf, bit, val)
	}
	h := hmac.New(sha256.New, seed[:])
	h.Write(textOf(1, varint(leaf), varint(bit), varint(val)))
	return [32]byte(h.Sum(nil))
}

// signer is one with its keys made.
type signer struct {
	t      *api.Rounds
	seed   [32]byte
	height int
	keys   []api.Digest
}

func newSigner(t *testing.T, table *api.Rounds, seed [32]byte, height int) signer {
	t.Helper()
	keys, e := sign.Keys(table, seed, height)
	if e != api.OK {
		t.Fatal(height, e)
	}
	return signer{table, seed, height, keys}
}

func (g signer) sign(t *testing.T, leaf int, text string) api.Signature {
	t.Helper()
	s, e := sign.Sign(g.t, g.seed, g.keys, leaf, []byte(text))
	if e != api.OK {
		t.Fatal(leaf, e)
	}
	return s
}

func (g signer) find(signed []api.Signed, text string, s api.Signature) (api.Witness, bool) {
	return witness.Find(g.t, g.seed, g.height, signed, []byte(text), s)
}

func (g signer) holds(signed []api.Signed, w api.Witness) bool {
	return witness.Holds(g.t, g.seed, g.height, signed, w)
}

// level are the roots of all runs of 2^h keys.
func (g signer) level(h int) []api.Digest {
	if h == 0 {
		return g.keys
	}
	below := g.level(h - 1)
	l := make([]api.Digest, len(below)/2)
	for i := range l {
		l[i] = sha.Of(g.t, textOf(4, below[2*i][:], below[2*i+1][:]))
	}
	return l
}

// first is what the leaf has signed.
func first(signed []api.Signed, leaf int) (string, bool) {
	i := slices.IndexFunc(signed, func(x api.Signed) bool { return x.Leaf == leaf })
	if i < 0 {
		return "", false
	}
	return string(signed[i].Text), true
}

// told is the chapter's definition.
func (g signer) told(signed []api.Signed, leaf, bit, val int) bool {
	text, ok := first(signed, leaf)
	return ok && bitOf(digestOf(g.t, []byte(text)), bit) == val
}

// keyTextBy is the text of the key that one-time signatures tell of d.
func keyTextBy(t *api.Rounds, d api.Digest, l api.Lamport) []byte {
	var parts [][]byte
	for i := range 256 {
		half, other := sha.Of(t, textOf(2, l.Secrets[i][:])), l.Others[i]
		if bitOf(d, i) == 1 {
			half, other = other, half
		}
		parts = append(parts, half[:], other[:])
	}
	return textOf(3, parts...)
}

// nodeTextBy is that of the node above place, in a level, one of whose places is another digest.
func nodeTextBy(place int, x, other api.Digest) []byte {
	if place%2 == 1 {
		x, other = other, x
	}
	return textOf(4, x[:], other[:])
}

// shows are all witnesses that the chapter looks for, in its order, whether they hold or not.
func (g signer) shows(signed []api.Signed, text string, s api.Signature) []api.Witness {
	leaf, d := s.P.Leaf, digestOf(g.t, []byte(text))
	var own api.Lamport
	for i := range 256 {
		own.Secrets[i] = secretOf(g.t, g.seed, leaf, i, bitOf(d, i))
		not := secretOf(g.t, g.seed, leaf, i, 1-bitOf(d, i))
		own.Others[i] = sha.Of(g.t, textOf(2, not[:]))
	}
	both := func(one, two []byte) api.Witness { return api.Witness{Kind: 1, One: one, Two: two} }
	var l []api.Witness
	x := sha.Of(g.t, keyTextBy(g.t, d, s.L))
	for h := range g.height {
		place := leaf >> h
		ours := nodeTextBy(place, g.level(h)[place], g.level(h)[place^1])
		shown := nodeTextBy(place, x, s.P.Beside[h])
		x = sha.Of(g.t, shown)
		l = slices.Insert(l, 0, both(ours, shown))
	}
	l = append(l, both(keyTextBy(g.t, d, own), keyTextBy(g.t, d, s.L)))
	for i := range 256 {
		l = append(l, both(textOf(2, own.Secrets[i][:]), textOf(2, s.L.Secrets[i][:])))
	}
	if elder, ok := first(signed, leaf); ok {
		l = append(l, both(textOf(5, []byte(elder)), textOf(5, []byte(text))))
	}
	for i := range 256 {
		l = append(l, api.Witness{Kind: 2, Leaf: leaf, Bit: i, Val: bitOf(d, i), Secret: own.Secrets[i]})
	}
	return l
}

// holdsBy is the chapter's definition, of witnesses that shows tells.
func (g signer) holdsBy(signed []api.Signed, w api.Witness) bool {
	if w.Kind == 1 {
		return string(w.One) != string(w.Two) && sha.Of(g.t, w.One) == sha.Of(g.t, w.Two)
	}
	return !g.told(signed, w.Leaf, w.Bit, w.Val)
}

// findBy is the chapter's definition, of a signature that checks.
func (g signer) findBy(signed []api.Signed, text string, s api.Signature) (api.Witness, bool) {
	if elder, ok := first(signed, s.P.Leaf); ok && elder == text {
		return api.Witness{}, false
	}
	l := g.shows(signed, text, s)
	i := slices.IndexFunc(l, func(w api.Witness) bool { return g.holdsBy(signed, w) })
	if i < 0 {
		return api.Witness{}, false
	}
	return l[i], true
}

func same(a, b api.Witness) bool {
	return a.Kind == b.Kind && bytes.Equal(a.One, b.One) && bytes.Equal(a.Two, b.Two) && a.Leaf == b.Leaf && a.Bit == b.Bit && a.Val == b.Val && a.Secret == b.Secret
}

// brief is w without its long texts.
func brief(w api.Witness) []int {
	return []int{w.Kind, w.Leaf, w.Bit, w.Val, len(w.One), len(w.Two), int(w.Secret[0])}
}

func wantFound(t *testing.T, g signer, signed []api.Signed, text string, s api.Signature, want api.Witness) {
	t.Helper()
	w, ok := g.find(signed, text, s)
	if !ok || !same(w, want) {
		t.Errorf("the leaf %d of the height %d, %q: %v %v, not %v", s.P.Leaf, g.height, text, ok, brief(w), brief(want))
	}
	if ok && !g.holds(signed, w) {
		t.Errorf("the leaf %d of the height %d, %q: %v does not hold", s.P.Leaf, g.height, text, brief(w))
	}
}

func wantNothing(t *testing.T, g signer, signed []api.Signed, text string, s api.Signature) {
	t.Helper()
	if w, ok := g.find(signed, text, s); ok || !same(w, api.Witness{}) {
		t.Errorf("the leaf %d of the height %d, %q: %v %v", s.P.Leaf, g.height, text, ok, brief(w))
	}
}

func wantHolds(t *testing.T, g signer, signed []api.Signed, w api.Witness, want bool) {
	t.Helper()
	if g.holds(signed, w) != want {
		t.Errorf("the height %d, %v: %v", g.height, brief(w), !want)
	}
}

// changed is a new signature that change was done to.
func changed(s api.Signature, change func(s *api.Signature)) api.Signature {
	s.P.Beside = slices.Clone(s.P.Beside)
	change(&s)
	return s
}

// with is a witness that change was done to.
func with(w api.Witness, change func(w *api.Witness)) api.Witness {
	change(&w)
	return w
}

// The chapter's examples.
func TestExamples(t *testing.T) {
	table := sha.Table()
	g := newSigner(t, &table, [32]byte{3}, 0)
	s := g.sign(t, 0, "abc")
	abc, abd := digestOf(&table, []byte("abc")), digestOf(&table, []byte("abd"))
	val := bitOf(abc, 0)
	wantFound(t, g, nil, "abc", s, api.Witness{Kind: api.WitSecret, Val: val, Secret: secretOf(&table, g.seed, 0, 0, val)})
	bit := 0
	for bitOf(abc, bit) == bitOf(abd, bit) {
		bit++
	}
	val = bitOf(abc, bit)
	wantFound(t, g, []api.Signed{{Text: []byte("abd")}}, "abc", s, api.Witness{Kind: api.WitSecret, Bit: bit, Val: val, Secret: secretOf(&table, g.seed, 0, bit, val)})
	wantNothing(t, g, []api.Signed{{Text: []byte("abc")}}, "abc", s)
	w, ok := witness.Texts(nil, []byte("a"), []byte("b"))
	if !ok || !same(w, api.Witness{Kind: api.WitTexts, One: []byte("a"), Two: []byte("b")}) {
		t.Error(w, ok)
	}
	if !witness.Holds(nil, g.seed, 0, nil, w) {
		t.Error("a and b do not hold")
	}
}

// P12.1: texts that are the same show nothing, by any table.
func TestTextsSame(t *testing.T) {
	for i, table := range tables() {
		for _, text := range []string{"", "a", "abc", string(make([]byte, 64)), string(make([]byte, 70000))} {
			if w, ok := witness.Texts(table, []byte(text), []byte(text)); ok || !same(w, api.Witness{}) {
				t.Errorf("table %d, %d bytes: %v", i, len(text), brief(w))
			}
		}
		for _, x := range [][2][]byte{{nil, nil}, {nil, {}}, {{}, nil}, {{}, {}}} {
			if w, ok := witness.Texts(table, x[0], x[1]); ok || !same(w, api.Witness{}) {
				t.Errorf("table %d, of nothing: %v", i, brief(w))
			}
		}
	}
}

// P12.1: unlike texts of unlike digests show nothing; without a table all are of one digest.
func TestTextsUnlike(t *testing.T) {
	l := []string{"", "\x00", "a", "b", "ab", "abc", "abd", "bbc", string(make([]byte, 63)), string(make([]byte, 64)), string(make([]byte, 128)), string(make([]byte, 70000))}
	for i, one := range l {
		for j, two := range l {
			if i == j {
				continue
			}
			for k, table := range tables()[:3] {
				if w, ok := witness.Texts(table, []byte(one), []byte(two)); ok || !same(w, api.Witness{}) {
					t.Errorf("table %d, %d and %d: %v", k, i, j, brief(w))
				}
				wantHolds(t, signer{t: table}, nil, api.Witness{Kind: 1, One: []byte(one), Two: []byte(two)}, false)
			}
			w, ok := witness.Texts(nil, []byte(one), []byte(two))
			if want := (api.Witness{Kind: 1, One: []byte(one), Two: []byte(two)}); !ok || !same(w, want) {
				t.Errorf("no table, %d and %d: %v %v", i, j, ok, brief(w))
			}
			wantHolds(t, signer{}, nil, w, true)
		}
	}
}

// P12.1: of two texts that hold nothing else may be there.
func TestHoldsTexts(t *testing.T) {
	w := api.Witness{Kind: api.WitTexts, One: []byte("a"), Two: []byte("b")}
	all := []signer{{}, {height: 8}, {height: 3, seed: rising()}}
	signed := []api.Signed{{Leaf: 0, Text: []byte("a")}, {Leaf: 1, Text: []byte("b")}}
	for _, g := range all {
		for _, l := range [][]api.Signed{nil, signed} {
			wantHolds(t, g, l, w, true)
			wantHolds(t, g, l, with(w, func(w *api.Witness) { w.One, w.Two = w.Two, w.One }), true)
			wantHolds(t, g, l, with(w, func(w *api.Witness) { w.One = nil }), true)
			wantHolds(t, g, l, with(w, func(w *api.Witness) { w.Two = []byte{} }), true)
			wantHolds(t, g, l, with(w, func(w *api.Witness) { w.Two = w.One }), false)
			wantHolds(t, g, l, with(w, func(w *api.Witness) { w.One, w.Two = nil, []byte{} }), false)
			for _, n := range append(far(), 1, 2, 7, 255) {
				wantHolds(t, g, l, with(w, func(w *api.Witness) { w.Leaf = n }), false)
				wantHolds(t, g, l, with(w, func(w *api.Witness) { w.Bit = n }), false)
				wantHolds(t, g, l, with(w, func(w *api.Witness) { w.Val = n }), false)
			}
			for i := range 32 {
				wantHolds(t, g, l, with(w, func(w *api.Witness) { w.Secret[i] = 1 }), false)
			}
		}
	}
}

// P12.1: there are two kinds.
func TestHoldsKinds(t *testing.T) {
	for i, table := range tables() {
		g := signer{t: table, seed: rising(), height: 2}
		secret := secretOf(table, g.seed, 0, 0, 0)
		for _, kind := range append(far(), 0, 1, 2, 3, 4) {
			texts := api.Witness{Kind: kind, One: []byte("a"), Two: []byte("b")}
			wantHolds(t, g, nil, texts, kind == 1 && table == nil)
			wantHolds(t, g, nil, api.Witness{Kind: kind, Secret: secret}, kind == 2)
			wantHolds(t, g, nil, api.Witness{Kind: kind}, kind == 2 && table == nil)
			if t.Failed() {
				t.Fatal("table", i)
			}
		}
	}
}

// P12.1: a secret holds of each leaf that there is, and of no other one, also where it is what lamport tells of that.
func TestHoldsLeaves(t *testing.T) {
	table := sha.Table()
	for height := range 9 {
		g := signer{t: &table, seed: rising(), height: height}
		for leaf := range 300 {
			w := api.Witness{Kind: 2, Leaf: leaf, Bit: leaf % 256, Val: leaf % 2, Secret: secretOf(&table, g.seed, leaf, leaf%256, leaf%2)}
			wantHolds(t, g, nil, w, leaf < 1<<height)
		}
		for _, leaf := range far() {
			w := api.Witness{Kind: 2, Leaf: leaf, Secret: lamport.Secret(&table, g.seed, leaf, 0, 0)}
			wantHolds(t, g, nil, w, false)
			wantHolds(t, g, []api.Signed{{Leaf: leaf, Text: []byte("a")}}, w, false)
		}
	}
}

// P12.1: no signer has a height that may not be: no secret is one of its.
func TestHoldsHeights(t *testing.T) {
	for _, table := range tables() {
		for _, height := range append(far(), 9, 10, 31, 32, 63, 64, 65) {
			g := signer{t: table, seed: rising(), height: height}
			for _, leaf := range []int{-1, 0, 1, 255, 256, 511} {
				wantHolds(t, g, nil, api.Witness{Kind: 2, Leaf: leaf, Secret: lamport.Secret(table, g.seed, leaf, 0, 0)}, false)
			}
			wantHolds(t, g, nil, api.Witness{Kind: 1, One: []byte("a"), Two: []byte("b")}, table == nil)
		}
	}
}

// P12.1: a secret holds of each bit and value, and of no others, also where it is what lamport tells of those.
func TestHoldsBits(t *testing.T) {
	for _, table := range tables() {
		g := signer{t: table, seed: rising(), height: 2}
		for bit := range 256 {
			for val := range 2 {
				w := api.Witness{Kind: 2, Leaf: 3, Bit: bit, Val: val, Secret: secretOf(table, g.seed, 3, bit, val)}
				wantHolds(t, g, nil, w, true)
			}
		}
		for _, bit := range far() {
			for val := range 2 {
				w := api.Witness{Kind: 2, Leaf: 3, Bit: bit, Val: val, Secret: lamport.Secret(table, g.seed, 3, bit, val)}
				wantHolds(t, g, nil, w, false)
			}
		}
		for _, val := range append(far(), 2, 3, 255) {
			w := api.Witness{Kind: 2, Leaf: 3, Bit: 255, Val: val, Secret: lamport.Secret(table, g.seed, 3, 255, val)}
			wantHolds(t, g, nil, w, false)
		}
	}
}

// P12.1: it is the secret of just that seed, leaf, bit and value, by that table, each bit of it; no texts stand beside it.
func TestHoldsSecret(t *testing.T) {
	all := tables()
	g := signer{t: all[0], seed: rising(), height: 3}
	w := api.Witness{Kind: 2, Leaf: 5, Bit: 77, Val: 1, Secret: secretOf(g.t, g.seed, 5, 77, 1)}
	wantHolds(t, g, nil, w, true)
	for i := range 256 {
		wantHolds(t, g, nil, with(w, func(w *api.Witness) { w.Secret[i/8] ^= 1 << (i % 8) }), false)
	}
	wantHolds(t, g, nil, with(w, func(w *api.Witness) { w.Leaf = 4 }), false)
	wantHolds(t, g, nil, with(w, func(w *api.Witness) { w.Bit = 78 }), false)
	wantHolds(t, g, nil, with(w, func(w *api.Witness) { w.Val = 0 }), false)
	wantHolds(t, g, nil, with(w, func(w *api.Witness) { w.Secret = [32]byte{} }), false)
	wantHolds(t, g, nil, with(w, func(w *api.Witness) { w.One = []byte{0} }), false)
	wantHolds(t, g, nil, with(w, func(w *api.Witness) { w.Two = []byte{0} }), false)
	wantHolds(t, g, nil, with(w, func(w *api.Witness) { w.One, w.Two = []byte("a"), []byte("a") }), false)
	wantHolds(t, g, nil, with(w, func(w *api.Witness) { w.One, w.Two = []byte{}, []byte{} }), true)
	wantHolds(t, signer{t: g.t, seed: [32]byte{1}, height: 3}, nil, w, false)
	for _, table := range all[1:] {
		wantHolds(t, signer{t: table, seed: g.seed, height: 3}, nil, w, false)
	}
}

// P12.1: of a leaf that has signed, the secrets of the other values hold, and no told one; the first text of the leaf counts, texts of other leaves do not.
func TestHoldsTold(t *testing.T) {
	for _, table := range tables() {
		g := signer{t: table, seed: rising(), height: 1}
		for _, signed := range [][]api.Signed{
			{{Leaf: 1, Text: []byte("abc")}},
			{{Leaf: 1}},
			{{Leaf: 0, Text: []byte("abd")}},
			{{Leaf: 1, Text: []byte("abc")}, {Leaf: 1, Text: []byte("abd")}},
			{{Leaf: 1, Text: []byte("abd")}, {Leaf: 1, Text: []byte("abc")}, {Leaf: 1, Text: []byte("abd")}},
			{{Leaf: 2, Text: []byte("x")}, {Leaf: -1, Text: []byte("y")}, {Leaf: 0, Text: []byte("z")}, {Leaf: 1, Text: []byte("abc")}},
			{{Leaf: -1, Text: []byte("abc")}, {Leaf: 2, Text: []byte("abc")}, {Leaf: math.MinInt, Text: []byte("abc")}, {Leaf: 257, Text: []byte("abc")}},
		} {
			for leaf := range 2 {
				for bit := range 256 {
					for val := range 2 {
						w := api.Witness{Kind: 2, Leaf: leaf, Bit: bit, Val: val, Secret: secretOf(table, g.seed, leaf, bit, val)}
						wantHolds(t, g, signed, w, !g.told(signed, leaf, bit, val))
					}
				}
			}
		}
	}
}

// P12.2: heights below 0 and above MaxHeight, of signatures that are as high, and others.
func TestFindHeights(t *testing.T) {
	table := sha.Table()
	g := newSigner(t, &table, rising(), 1)
	l := []api.Signature{{}, g.sign(t, 0, "abc"), g.sign(t, 1, "abc")}
	for _, n := range []int{8, 9, 10, 64} {
		l = append(l, api.Signature{P: api.Path{Beside: make([]api.Digest, n)}})
	}
	for _, height := range append(far(), 9, 10, 63, 64) {
		for _, s := range l {
			wantNothing(t, signer{t: &table, seed: g.seed, height: height}, nil, "abc", s)
			wantNothing(t, signer{seed: g.seed, height: height}, nil, "abc", s)
		}
	}
	for height := range 9 {
		g := signer{seed: rising(), height: height}
		for n := range 11 {
			s := api.Signature{P: api.Path{Beside: make([]api.Digest, n)}}
			if w, ok := g.find(nil, "abc", s); ok != (n == height) {
				t.Errorf("no table, the height %d, %d beside: %v %v", height, n, ok, brief(w))
			}
		}
	}
}

// P12.2: signatures that do not check show nothing: of another text, seed, leaf or table, with something turned.
func TestFindUnchecked(t *testing.T) {
	all := tables()
	g := newSigner(t, all[0], rising(), 2)
	s := g.sign(t, 2, "abc")
	if _, ok := g.find(nil, "abc", s); !ok {
		t.Error("abc is no forgery")
	}
	wantNothing(t, g, nil, "abd", s)
	wantNothing(t, g, nil, "", s)
	wantNothing(t, g, []api.Signed{{Leaf: 2, Text: []byte("abc")}}, "abd", s)
	wantNothing(t, signer{t: all[0], seed: [32]byte{1}, height: 2}, nil, "abc", s)
	wantNothing(t, signer{t: all[1], seed: g.seed, height: 2}, nil, "abc", s)
	wantNothing(t, signer{t: all[2], seed: g.seed, height: 2}, nil, "abc", s)
	for _, leaf := range append(far(), 0, 1, 3, 4) {
		wantNothing(t, g, nil, "abc", changed(s, func(s *api.Signature) { s.P.Leaf = leaf }))
	}
	for i := range 2 {
		wantNothing(t, g, nil, "abc", changed(s, func(s *api.Signature) { s.P.Beside[i][31] ^= 1 }))
	}
	for _, i := range []int{0, 1, 128, 255} {
		wantNothing(t, g, nil, "abc", changed(s, func(s *api.Signature) { s.L.Secrets[i][0] ^= 1 }))
		wantNothing(t, g, nil, "abc", changed(s, func(s *api.Signature) { s.L.Others[i][0] ^= 1 }))
	}
	wantNothing(t, g, nil, "abc", api.Signature{})
	// Without a table all signatures of the height check, whose leaf there is.
	for _, leaf := range append(far(), -4, 4, 5, 6, 7) {
		wantNothing(t, signer{height: 2}, nil, "abc", api.Signature{P: api.Path{Leaf: leaf, Beside: make([]api.Digest, 2)}})
	}
}

// P12.2: what the leaf has signed is no forgery, where it is the first one of the leaf; what other leaves have signed does not count.
func TestFindSigned(t *testing.T) {
	for _, table := range tables() {
		g := newSigner(t, table, rising(), 1)
		for leaf := range 2 {
			abc := api.Signed{Leaf: leaf, Text: []byte("abc")}
			abd := api.Signed{Leaf: leaf, Text: []byte("abd")}
			none := api.Signed{Leaf: leaf}
			other := api.Signed{Leaf: 1 - leaf, Text: []byte("abc")}
			below := api.Signed{Leaf: -1, Text: []byte("abc")}
			behind := api.Signed{Leaf: 2, Text: []byte("abc")}
			s := g.sign(t, leaf, "abc")
			for _, x := range []struct {
				signed []api.Signed
				forged bool
			}{
				{nil, true},
				{[]api.Signed{abc}, false},
				{[]api.Signed{abd}, true},
				{[]api.Signed{none}, true},
				{[]api.Signed{none, abc}, true},
				{[]api.Signed{other}, true},
				{[]api.Signed{below, behind}, true},
				{[]api.Signed{below, behind, other, abc, abd}, false},
				{[]api.Signed{abc, abc}, false},
				{[]api.Signed{abd, abc}, true},
				{[]api.Signed{other, abd, abc, abc}, true},
			} {
				want, ok := g.findBy(x.signed, "abc", s)
				if ok != x.forged {
					t.Fatal("the model:", ok)
				}
				if ok {
					wantFound(t, g, x.signed, "abc", s, want)
				} else {
					wantNothing(t, g, x.signed, "abc", s)
				}
			}
		}
		empty := g.sign(t, 1, "")
		wantNothing(t, g, []api.Signed{{Leaf: 1}}, "", empty)
		wantNothing(t, g, []api.Signed{{Leaf: 1, Text: []byte{}}}, "", empty)
	}
}

// P12.2, the fifth: the first bit that was not told, worked out elsewhere, by Python's library.
func TestFindKnown(t *testing.T) {
	table := sha.Table()
	g := newSigner(t, &table, rising(), 2)
	abc := []api.Signed{{Leaf: 0, Text: []byte("abc")}, {Leaf: 1, Text: []byte("abc")}, {Leaf: 2, Text: []byte("abc")}, {Leaf: 3, Text: []byte("abc")}}
	for _, x := range []struct {
		text           string
		leaf, bit, val int
		secret         string
	}{
		{"1", 0, 0, 1, "06fc6e33676f96abe392a19fd49dc6336ba412cb525492d9889af6a2302ea55a"},
		{"0", 1, 1, 0, "15b2695e10be259585f6f2c284b4e3ca5b98802f3fb207fa17432b8d5d35876a"},
		{"5", 2, 2, 0, "bd70177b9fbb53479efdb50db92e24d4a9967319f8d98a7983cfbc4eb5bb37af"},
		{"31", 3, 3, 1, "302698f1a6fdf0b3b2449578fccb55b570490b7e883a0e5c261dd4738492d0ad"},
		{"38", 0, 4, 0, "f161fcc2560c26f903fa40ff495612394c70a86799a49707c947d75cf3852f88"},
		{"21", 1, 5, 1, "7ef749b1c8e0cbcafc187aa0d4c98a4148ddd6a53077511b3531b34b0e11067d"},
		{"50", 2, 6, 0, "d3c99328ea6a3cc6a51c759c52286577311187a0e3d5e2cb967d14e3a40a36de"},
		{"452", 3, 7, 0, "1321a57d709701164e02c485e89fdac417c517dd35a58c460416270efb0a5512"},
		{"150", 0, 8, 0, "4d20d70ec160784625375438210a545404483b701e21d3c7b5680a9bc49a5904"},
		{"1835", 1, 9, 0, "bd5e32cbc59b39d7c3579aa85ae7c18dcaab8057737e2922c6b4ed11efa7cec3"},
		{"1830", 2, 10, 0, "305841022ff7c722c2f47e2b7fa663112db9fa713347ecf94cc7678cbc0cb561"},
		{"10862", 3, 11, 0, "ce7946cf30390c3d9b10478ee668a5aac52651f2351533fbba8800ea0597d1e9"},
		{"32561", 0, 14, 0, "5e61c08c7a0578a0cc81a4bcd1a01581d31267dd38f0ba635f12edc3f7e2b970"},
		{"93217", 1, 20, 0, "92978d02977a0e7fa26a2122abaee4a5326dfa71982d7514e027cb34772bdd2f"},
	} {
		b, _ := hex.DecodeString(x.secret)
		wantFound(t, g, abc, x.text, g.sign(t, x.leaf, x.text), api.Witness{Kind: 2, Leaf: x.leaf, Bit: x.bit, Val: x.val, Secret: [32]byte(b)})
	}
}

// P12.2: without a table, whatever is unlike: the first of the five kinds, and in it the first place (the nodes from the root down), is told.
func TestFindKinds(t *testing.T) {
	const height = 3
	for leaf := range 1 << height {
		g := newSigner(t, nil, rising(), height)
		signed := []api.Signed{{Leaf: leaf, Text: []byte("abd")}}
		other := []api.Signed{{Leaf: leaf ^ 1, Text: []byte("abd")}}
		s := g.sign(t, leaf, "abc")
		none := api.Digest{}
		for h := range height {
			for low := range 1 << h {
				// Below the highest one that is unlike, others may be, too.
				shown := changed(s, func(s *api.Signature) {
					s.P.Beside[h][31] = 9
					for i := range h {
						s.P.Beside[i][0] = byte(low >> i & 1)
					}
					s.L.Secrets[1][0], s.L.Others[0][0] = 1, 1
				})
				beside := shown.P.Beside[h]
				want := api.Witness{Kind: 1, One: textOf(4, none[:], none[:]), Two: nodeTextBy(leaf>>h, none, beside)}
				wantFound(t, g, signed, "abc", shown, want)
				wantFound(t, g, nil, "abc", shown, want)
			}
		}
		for _, i := range []int{0, 1, 7, 8, 254, 255} {
			shown := changed(s, func(s *api.Signature) {
				s.L.Others[i][3] = 5
				s.L.Secrets[0][0] = 1
			})
			parts := slices.Repeat([][]byte{none[:]}, 512)
			ours := textOf(3, parts...)
			parts[2*i+1] = shown.L.Others[i][:]
			want := api.Witness{Kind: 1, One: ours, Two: textOf(3, parts...)}
			wantFound(t, g, signed, "abc", shown, want)
			wantFound(t, g, other, "abc", shown, want)

			shown = changed(s, func(s *api.Signature) {
				s.L.Secrets[i][31] = 6
				s.L.Secrets[255][30] = 7
			})
			want = api.Witness{Kind: 1, One: textOf(2, none[:]), Two: textOf(2, shown.L.Secrets[i][:])}
			wantFound(t, g, signed, "abc", shown, want)
			wantFound(t, g, other, "abc", shown, want)
		}
		wantFound(t, g, signed, "abc", s, api.Witness{Kind: 1, One: textOf(5, []byte("abd")), Two: textOf(5, []byte("abc"))})
		wantFound(t, g, slices.Concat(signed, []api.Signed{{Leaf: leaf, Text: []byte("abe")}}), "abc", s, api.Witness{Kind: 1, One: textOf(5, []byte("abd")), Two: textOf(5, []byte("abc"))})
		wantFound(t, g, other, "abc", s, api.Witness{Kind: 2, Leaf: leaf})
		wantFound(t, g, nil, "abc", s, api.Witness{Kind: 2, Leaf: leaf})
	}
}

// P12.2, P12.3: of each forgery what the chapter's definition, written out a second time, tells, and that holds: by all tables, signed texts of chance.
func TestFindAll(t *testing.T) {
	chance := rand.New(rand.NewSource(12))
	names := []string{"", "a", "b", "abc", "abd"}
	for k, table := range tables() {
		for height := range 4 {
			g := newSigner(t, table, rising(), height)
			for range 12 {
				var signed []api.Signed
				for range chance.Intn(6) {
					signed = append(signed, api.Signed{Leaf: chance.Intn(1<<height+2) - 1, Text: []byte(names[chance.Intn(len(names))])})
				}
				text := names[chance.Intn(len(names))]
				s := g.sign(t, chance.Intn(1<<height), text)
				if table == nil {
					s = touched(chance, s)
				}
				if want, ok := g.findBy(signed, text, s); ok {
					wantFound(t, g, signed, text, s, want)
				} else {
					wantNothing(t, g, signed, text, s)
				}
			}
			if t.Failed() {
				t.Fatal("table", k, "height", height)
			}
		}
	}
}

// touched is s with some things turned by chance, or none.
func touched(chance *rand.Rand, s api.Signature) api.Signature {
	return changed(s, func(s *api.Signature) {
		if n := len(s.P.Beside); n > 0 && chance.Intn(3) == 0 {
			s.P.Beside[chance.Intn(n)][chance.Intn(32)]++
			s.P.Beside[chance.Intn(n)][chance.Intn(32)]++
		}
		if chance.Intn(3) == 0 {
			s.L.Others[chance.Intn(256)][chance.Intn(32)]++
		}
		if chance.Intn(2) == 0 {
			s.L.Secrets[chance.Intn(256)][chance.Intn(32)]++
			s.L.Secrets[chance.Intn(256)][chance.Intn(32)]++
		}
	})
}

// P12.2: the highest signer's first leaf and last one, and long texts.
func TestFindHighest(t *testing.T) {
	table := sha.Table()
	g := newSigner(t, &table, rising(), 8)
	long := string(make([]byte, 70000))
	for _, leaf := range []int{0, 255} {
		s := g.sign(t, leaf, long)
		signed := []api.Signed{{Leaf: 255 - leaf, Text: []byte(long)}, {Leaf: leaf, Text: []byte(long + "\x00")}}
		want, _ := g.findBy(signed, long, s)
		wantFound(t, g, signed, long, s, want)
		signed[1].Text = []byte(long)
		wantNothing(t, g, signed, long, s)
	}
	root, e := merkle.Root(&table, g.keys)
	if e != api.OK || root != g.level(8)[0] {
		t.Error("the model's root is another one")
	}
}

// R3: what is handed in is not changed, nor its spare room; nor is what was told, by what is done to that, or by later calls.
func TestNothingChanged(t *testing.T) {
	spare := func(text string) []byte { return append([]byte(text), 1, 2, 3, 4)[:len(text)] }
	whole := func(b []byte) string { return string(b[:cap(b)]) }
	one, two := spare("one"), spare("two")
	w, _ := witness.Texts(nil, one, two)
	again, _ := witness.Texts(nil, one, two)
	if whole(one)[:7] != "one\x01\x02\x03\x04" || whole(two)[:7] != "two\x01\x02\x03\x04" {
		t.Error("texts were changed")
	}
	one[0], two[0] = 'x', 'y'
	again.One[1], again.Two[1] = 'x', 'y'
	_ = append(w.One, "long enough to reach beyond"...)
	if string(w.One) != "one" || string(w.Two) != "two" {
		t.Error("what was told was changed", string(w.One), string(w.Two))
	}

	for _, table := range tables() {
		g := newSigner(t, table, rising(), 1)
		text, elder := spare("abc"), spare("abd")
		signed := append(make([]api.Signed, 0, 3), api.Signed{Leaf: 1, Text: elder})
		s := g.sign(t, 1, "abc")
		s.P.Beside = append(make([]api.Digest, 0, 3), s.P.Beside...)
		if table == nil {
			s.P.Beside[0][0] = 1
		}
		kept := changed(s, func(*api.Signature) {})
		first, ok := witness.Find(table, g.seed, 1, signed, text, s)
		held := with(first, func(w *api.Witness) { w.One, w.Two = slices.Clone(w.One), slices.Clone(w.Two) })
		for range 2 {
			if !ok || !witness.Holds(table, g.seed, 1, signed, first) {
				t.Error("it does not hold")
			}
			second, _ := witness.Find(table, g.seed, 1, signed, text, s)
			if !same(second, first) {
				t.Error("the same again is something else")
			}
			for i := range second.One {
				second.One[i] = 7
			}
		}
		if whole(text)[:7] != "abc\x01\x02\x03\x04" || whole(elder)[:7] != "abd\x01\x02\x03\x04" {
			t.Error("texts were changed")
		}
		if len(signed) != 1 || signed[0].Leaf != 1 || !same(api.Witness{One: signed[0].Text}, api.Witness{One: []byte("abd")}) {
			t.Error("what was signed was changed")
		}
		for _, x := range signed[1:3] {
			if x.Leaf != 0 || x.Text != nil {
				t.Error("spare room was changed")
			}
		}
		if s.L != kept.L || !slices.Equal(s.P.Beside, kept.P.Beside) || !slices.Equal(s.P.Beside[1:3], make([]api.Digest, 2)) {
			t.Error("the signature was changed")
		}
		text[0], elder[0], s.P.Beside[0] = 'x', 'y', api.Digest{8}
		if !same(first, held) {
			t.Error("what was told was changed")
		}
	}
}
