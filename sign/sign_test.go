package sign_test

import (
	"bytes"
	"crypto/sha256"
	"encoding/hex"
	"math"
	"math/rand"
	"slices"
	"strings"
	"sync"
	"testing"

	"blockhouse/api"
	"blockhouse/lamport"
	"blockhouse/mac"
	"blockhouse/merkle"
	"blockhouse/sha"
	"blockhouse/sign"
)

const (
	bodyBytes = 16384 // of the secrets and the others
	mostBytes = 16643 // of a signature
)

// odd is a table that digests are not made by.
func odd(chance *rand.Rand) api.Rounds {
	var t api.Rounds
	for i := range t.First {
		t.First[i] = chance.Uint32()
	}
	for i := range t.Keys {
		t.Keys[i] = chance.Uint32()
	}
	return t
}

// tables are the right one, one of noughts, and others.
func tables() []api.Rounds {
	chance := rand.New(rand.NewSource(1))
	return []api.Rounds{sha.Table(), {}, odd(chance), odd(chance)}
}

// rising are the bytes from 1 to 32.
func rising() [32]byte {
	var b [32]byte
	for i := range b {
		b[i] = byte(i + 1)
	}
	return b
}

// texts are none, and some of one byte up to many.
func texts() [][]byte {
	l := [][]byte{nil, {}, {0}, []byte("abc"), []byte("abd")}
	for _, n := range []int{32, 127, 128, 300, 70000} {
		b := make([]byte, n)
		for i := range b {
			b[i] = byte(i)
		}
		l = append(l, b)
	}
	return l
}

// farLeaves are numbers that no leaf of any tree has.
func farLeaves() []int {
	return []int{-1, -2, -128, -255, -256, -257, math.MinInt32, math.MinInt, math.MinInt + 1, 256, 257, 511, 512, 1 << 16, math.MaxInt32, 1 << 32, 1<<32 + 1, 1 << 62, math.MaxInt}
}

// farHeights are those that keys have not.
func farHeights() []int {
	return []int{-1, -2, -8, -9, -64, -256, math.MinInt32, math.MinInt, math.MinInt + 8, 9, 10, 16, 31, 32, 33, 62, 63, 64, 65, 72, 256, 264, math.MaxInt32, 1 << 32, 1<<32 + 1, 1<<32 + 8, math.MaxInt}
}

// digests are many of chance.
func digests(chance *rand.Rand, many int) []api.Digest {
	l := make([]api.Digest, many)
	for i := range l {
		chance.Read(l[i][:])
	}
	return l
}

// signatureOf is one that nobody has signed.
func signatureOf(chance *rand.Rand, leaf, beside int) api.Signature {
	s := api.Signature{P: api.Path{Leaf: leaf, Beside: digests(chance, beside)}}
	for i := range api.Bits {
		chance.Read(s.L.Secrets[i][:])
		chance.Read(s.L.Others[i][:])
	}
	return s
}

// highest are the keys of rising and the height 8, made once.
var highest = sync.OnceValue(func() []api.Digest {
	table := sha.Table()
	keys, _ := sign.Keys(&table, rising(), 8)
	return keys
})

// keysOf are those of rising and a height: TestKeys holds that those of a lesser height are the first ones.
func keysOf(height int) []api.Digest {
	return slices.Clone(highest()[:1<<height])
}

// varint is the chapter's of layer 1, by division.
func varint(n int) []byte {
	if n < 128 {
		return []byte{byte(n)}
	}
	return append([]byte{byte(n%128) + 128}, varint(n/128)...)
}

// digestBy is the digest of a text, written out a second time.
func digestBy(t *api.Rounds, text []byte) api.Digest {
	return sha.Of(t, bytes.Join([][]byte{{75, 5, 1}, varint(len(text)), text}, nil))
}

// climbBy is what one comes to, whether the path is right or not: the low bits of Leaf alone count.
func climbBy(t *api.Rounds, x api.Digest, p api.Path) api.Digest {
	for i, d := range p.Beside {
		if p.Leaf>>min(i, 62)&1 == 0 {
			x = merkle.Node(t, x, d)
		} else {
			x = merkle.Node(t, d, x)
		}
	}
	return x
}

// topBy is the root that a signature of a text comes to, whether its path is right or not.
func topBy(t *api.Rounds, text []byte, s api.Signature) api.Digest {
	return climbBy(t, lamport.Open(t, digestBy(t, text), s.L), s.P)
}

// bytesBy is the chapter's definition, written out a second time.
func bytesBy(s api.Signature) []byte {
	b := make([]byte, 0, mostBytes)
	b = append(append(b, varint(s.P.Leaf)...), byte(len(s.P.Beside)))
	for _, d := range s.P.Beside {
		b = append(b, d[:]...)
	}
	for i := range 256 {
		b = append(b, s.L.Secrets[i][:]...)
	}
	for i := range 256 {
		b = append(b, s.L.Others[i][:]...)
	}
	return b
}

// heads are what the bytes of right signatures begin with, and how many bytes come behind it: all that there are.
var heads = sync.OnceValue(func() map[string]int {
	l := map[string]int{}
	for height := range 9 {
		for leaf := range 1 << height {
			l[string(append(varint(leaf), byte(height)))] = 32*height + bodyBytes
		}
	}
	return l
})

// mayBe tells whether b are the bytes of a right signature: a head, and as many bytes behind it as it tells of.
func mayBe(b []byte) bool {
	for n := 2; n <= 3 && n <= len(b); n++ {
		if behind, ok := heads()[string(b[:n])]; ok && behind == len(b)-n {
			return true
		}
	}
	return false
}

func same(a, b api.Signature) bool {
	return a.L == b.L && a.P.Leaf == b.P.Leaf && slices.Equal(a.P.Beside, b.P.Beside)
}

// changed is a new signature that change was done to.
func changed(s api.Signature, change func(s *api.Signature)) api.Signature {
	s.P.Beside = slices.Clone(s.P.Beside)
	change(&s)
	return s
}

func wantKeys(t *testing.T, table *api.Rounds, seed [32]byte, height int) []api.Digest {
	t.Helper()
	keys, e := sign.Keys(table, seed, height)
	if e != api.OK || len(keys) != 1<<height {
		t.Fatalf("the height %d: %d keys, %d", height, len(keys), e)
	}
	return keys
}

func wantRoot(t *testing.T, table *api.Rounds, keys []api.Digest) api.Digest {
	t.Helper()
	root, e := merkle.Root(table, keys)
	if e != api.OK {
		t.Fatalf("the root of %d keys: %d", len(keys), e)
	}
	return root
}

func wantSign(t *testing.T, table *api.Rounds, seed [32]byte, keys []api.Digest, leaf int, text []byte) api.Signature {
	t.Helper()
	s, e := sign.Sign(table, seed, keys, leaf, text)
	if e != api.OK {
		t.Fatalf("by the leaf %d of %d: %d", leaf, len(keys), e)
	}
	return s
}

func wantBytes(t *testing.T, s api.Signature) []byte {
	t.Helper()
	b, e := sign.Bytes(s)
	if e != api.OK {
		t.Fatalf("the leaf %d, %d beside: %d", s.P.Leaf, len(s.P.Beside), e)
	}
	return b
}

func wantRead(t *testing.T, b []byte, want api.Signature) {
	t.Helper()
	if s, e := sign.Read(b); e != api.OK || !same(s, want) {
		t.Errorf("%d bytes, %v ..: the leaf %d, %d beside, %d", len(b), b[:min(4, len(b))], s.P.Leaf, len(s.P.Beside), e)
	}
}

func refuseSign(t *testing.T, table *api.Rounds, keys []api.Digest, leaf int) {
	t.Helper()
	if s, e := sign.Sign(table, rising(), keys, leaf, []byte("abc")); e != api.ErrKey || !same(s, api.Signature{}) {
		t.Errorf("by the leaf %d of %d: %d", leaf, len(keys), e)
	}
}

func refuseBytes(t *testing.T, s api.Signature) {
	t.Helper()
	if b, e := sign.Bytes(s); e != api.ErrSign || len(b) != 0 {
		t.Errorf("the leaf %d, %d beside: %d bytes, %d", s.P.Leaf, len(s.P.Beside), len(b), e)
	}
}

func refuseRead(t *testing.T, b []byte) {
	t.Helper()
	if s, e := sign.Read(b); e != api.ErrSign || !same(s, api.Signature{}) {
		t.Errorf("%d bytes, %v ..: the leaf %d, %d beside, %d", len(b), b[:min(12, len(b))], s.P.Leaf, len(s.P.Beside), e)
	}
}

// The chapter's examples.
func TestExamples(t *testing.T) {
	table := sha.Table()
	seed := [32]byte{7}
	keys := wantKeys(t, &table, seed, 1)
	root := wantRoot(t, &table, keys)
	s := wantSign(t, &table, seed, keys, 1, []byte("abc"))
	if !sign.Check(&table, root, 1, []byte("abc"), s) {
		t.Error("abc does not check")
	}
	if sign.Check(&table, root, 1, []byte("abd"), s) {
		t.Error("abd checks")
	}
	if sign.Check(&table, root, 2, []byte("abc"), s) {
		t.Error("of the height 2 it checks")
	}
	b := wantBytes(t, s)
	if b[0] != 1 || b[1] != 1 || len(b) != 2+32+16384 {
		t.Error(b[:2], len(b))
	}
	if keys, e := sign.Keys(&table, seed, 9); e != api.ErrKey || len(keys) != 0 {
		t.Error(len(keys), e)
	}
	if s, e := sign.Sign(&table, seed, keys, 2, []byte("abc")); e != api.ErrKey || !same(s, api.Signature{}) {
		t.Error(e)
	}
}

// P11.1: the roots of keys, worked out elsewhere, by Python's library.
func TestKnownRoots(t *testing.T) {
	table := sha.Table()
	noughts := wantKeys(t, &table, [32]byte{}, 3)
	for h, want := range []string{
		"6a1a8035b71e1c7cbd54ae03d65cda86d41abdedce4e7207086e8b502066f1c2",
		"5fb39e07d50385ac1bd67be46677de59fa6593b2ac4ad3e26bd0bfa2f3cd5ba8",
		"491c2945db1115022eb909d30982605701be38af030b587ad15f35563cf480d4",
		"bd10693d99286bc1c249eed9c228661ff8c56843cbf8a8ecaf8a4364d2d8259b",
	} {
		root := wantRoot(t, &table, noughts[:1<<h])
		if hex.EncodeToString(root[:]) != want {
			t.Errorf("the seed of noughts, the height %d: %x", h, root)
		}
	}
	for h, want := range []string{
		"48469970bc5d23ac9f473f27fe8a872c3fb5f725faf1aa1afd69e065ae76c415",
		"7b6f8c46cbdc22e0b53ac2bdeb8fb3876ad6f15b1497a880dabfc1852856dce2",
		"f4a113bd227d6a0eebf1c99d14ee4e3e163557ea0525513ea705d2588b04edfe",
		"9bc3ee01c648feb9b5bfb9a53b5d8e5c54ad6def1004ac650127a2e126a35950",
		"e4116711f548636d2604dfaa48efcb933fcbbefc21a1801bbb3ba644f13af88d",
		"738d8bf1f2e28c4458bd85aec3a2d8da280ef66a2067d0f6c79778b85b6624b9",
		"47f4923760cd5884321c76a9212c45d3ae53cd18ec7fc851d28fb0d1ca99f21a",
		"10c95f52af695a8b916c661d67fcaa485b7fe293cf1e56338851c21100eb979c",
		"755d9ec7a49d48135b4afc07b2c41a7dd2708f8db30caed4f32e4d4b9e5a9d23",
	} {
		root := wantRoot(t, &table, keysOf(h))
		if hex.EncodeToString(root[:]) != want {
			t.Errorf("the seed rising, the height %d: %x", h, root)
		}
	}
}

// P11.1, P11.3: the digests of the bytes of signatures, worked out elsewhere, by Python's library.
func TestKnownSignatures(t *testing.T) {
	table := sha.Table()
	noughts := wantKeys(t, &table, [32]byte{}, 3)
	long := texts()[8]
	for _, x := range []struct {
		seed       [32]byte
		keys       []api.Digest
		leaf       int
		text       []byte
		bytes      int
		wantDigest string
	}{
		{[32]byte{}, noughts[:1], 0, nil, 16386, "1550178d62c72aa91e5f60ea18fa3080fd29a7f96659937cb82ac274ea45af32"},
		{[32]byte{}, noughts[:2], 1, []byte("abc"), 16418, "898f1e5ff21a66234bd1e99431ffcc7dd9f28e9d43ce3af271cc4dea1f93f33c"},
		{[32]byte{}, noughts, 5, []byte("abc"), 16482, "51bf5f24376e830a5c66173fea1ce078cd80160b8791d8a2cc03c41dcef6481d"},
		{rising(), keysOf(0), 0, nil, 16386, "de370b3cbda7a9ca4dcdd65b957fed34569ef6d2b73266327900d7d6a37b856d"},
		{rising(), keysOf(1), 1, []byte("abc"), 16418, "639271483f94112233ebf26f902336ac198bad6da40d26534168d4e0363dba0f"},
		{rising(), keysOf(3), 5, []byte("abc"), 16482, "35d479db1d66140b06a774e4539c838fe284a35bf5cbd874d31511eca0158526"},
		{rising(), keysOf(8), 0, []byte("abc"), 16642, "308e37c2efecb4fe34622bb6eb1ce51b33b847a28b4104a18b9857542f19cc9e"},
		{rising(), keysOf(8), 127, []byte("abc"), 16642, "7dd1d8e35f8dae9f30d65b6e9463774ab3246ee96cd6abcf7c5c1b5f3055c090"},
		{rising(), keysOf(8), 128, []byte("abc"), 16643, "35509342ac0461fe69a621049493091dbf38fd901d4ba1b93766b19a95c11fa4"},
		{rising(), keysOf(8), 255, long, 16643, "d61cb749121fc4c94eba266b378b5f69cba26166be11492a9bef22ca0a70c9bc"},
	} {
		b := wantBytes(t, wantSign(t, &table, x.seed, x.keys, x.leaf, x.text))
		if d := sha256.Sum256(b); len(b) != x.bytes || hex.EncodeToString(d[:]) != x.wantDigest {
			t.Errorf("the leaf %d of %d: %d bytes, %x", x.leaf, len(x.keys), len(b), d)
		}
	}
}

// P11.1: of each height from 0 to 8 as many keys as there are leaves, each that leaf's, in order.
func TestKeys(t *testing.T) {
	table := sha.Table()
	want := make([]api.Digest, 256)
	for leaf := range want {
		want[leaf] = lamport.Key(&table, rising(), leaf)
	}
	for height := range 9 {
		keys := wantKeys(t, &table, rising(), height)
		if !slices.Equal(keys, want[:1<<height]) {
			t.Errorf("the height %d: not the keys of its leaves", height)
		}
	}
	seen := map[api.Digest]int{}
	for _, d := range want {
		seen[d]++
	}
	if len(seen) != 256 {
		t.Errorf("%d unlike keys", len(seen))
	}
}

// P11.1: heights below 0, above 8, and far off.
func TestKeysRefused(t *testing.T) {
	all := tables()
	for _, height := range farHeights() {
		for _, table := range []*api.Rounds{&all[0], &all[2], nil} {
			if keys, e := sign.Keys(table, rising(), height); e != api.ErrKey || len(keys) != 0 {
				t.Errorf("the height %d: %d keys, %d", height, len(keys), e)
			}
		}
	}
}

// P11.1: keys by other tables, and of other seeds, are others.
func TestKeysOfOthers(t *testing.T) {
	all := tables()
	seen := map[api.Digest]int{}
	seeds := [][32]byte{{}, {1}, {31: 1}, rising()}
	for i := range all {
		for _, seed := range seeds {
			for leaf, key := range wantKeys(t, &all[i], seed, 2) {
				if key != lamport.Key(&all[i], seed, leaf) {
					t.Errorf("table %d, the leaf %d: %x", i, leaf, key)
				}
				seen[key]++
			}
		}
	}
	if want := len(all) * len(seeds) * 4; len(seen) != want {
		t.Errorf("%d unlike keys, not %d", len(seen), want)
	}
}

// P11.1: a signature is the one-time one of the text's digest by the leaf, and the leaf's path.
func TestSign(t *testing.T) {
	all := tables()
	for i := range all {
		table := &all[i]
		for _, height := range []int{0, 1, 3} {
			keys := wantKeys(t, table, rising(), height)
			for leaf := range keys {
				text := texts()[(leaf+i)%len(texts())]
				p, _ := merkle.Path(table, keys, leaf)
				want := api.Signature{L: lamport.Sign(table, rising(), leaf, digestBy(table, text)), P: p}
				if s := wantSign(t, table, rising(), keys, leaf, text); !same(s, want) || len(s.P.Beside) != height {
					t.Errorf("table %d, by the leaf %d of %d: another signature", i, leaf, len(keys))
				}
			}
		}
	}
}

// P11.1: texts from none to many bytes, by the first leaf and the last one of the highest tree; no text and an empty one are the same.
func TestSignTexts(t *testing.T) {
	table := sha.Table()
	keys := keysOf(8)
	root := wantRoot(t, &table, keys)
	for _, leaf := range []int{0, 1, 127, 128, 254, 255} {
		p, _ := merkle.Path(&table, keys, leaf)
		for i, text := range texts() {
			s := wantSign(t, &table, rising(), keys, leaf, text)
			d := mac.Tagged(&table, api.TagText, text)
			if !same(s, api.Signature{L: lamport.Sign(&table, rising(), leaf, d), P: p}) {
				t.Errorf("the text %d, by the leaf %d: another signature", i, leaf)
			}
			for j, other := range texts() {
				if got := sign.Check(&table, root, 8, other, s); got != bytes.Equal(text, other) {
					t.Errorf("the text %d, by the leaf %d, as the text %d: %t", i, leaf, j, got)
				}
			}
		}
	}
}

// P11.1: leaves that are not there: at -1, at the number of leaves, and far off.
func TestSignRefusedLeaves(t *testing.T) {
	table := sha.Table()
	for height := range 9 {
		keys := keysOf(height)
		for _, leaf := range append(farLeaves(), len(keys), len(keys)+1, 2*len(keys), -len(keys)) {
			refuseSign(t, &table, keys, leaf)
			refuseSign(t, nil, keys, leaf)
		}
	}
}

// P11.1: keys of which no tree can be made: none, three, 257 of them, and other numbers.
func TestSignRefusedKeys(t *testing.T) {
	table := sha.Table()
	many := digests(rand.New(rand.NewSource(2)), 1<<16)
	for _, n := range []int{0, 3, 5, 6, 7, 9, 12, 127, 129, 255, 257, 258, 384, 511, 512, 513, 1024, 1<<16 - 1, 1 << 16} {
		for _, leaf := range []int{0, 1, 2, n / 2, n - 1, n, -1} {
			refuseSign(t, &table, many[:n], leaf)
			refuseSign(t, nil, many[:n], leaf)
		}
	}
	refuseSign(t, &table, nil, 0)
	refuseSign(t, &table, []api.Digest{}, 0)
}

// P11.1: the path is that among the keys that are handed in, whosever they are; the one-time signature is the seed's.
func TestSignWithOtherKeys(t *testing.T) {
	table := sha.Table()
	keys := digests(rand.New(rand.NewSource(3)), 8)
	for leaf := range keys {
		s := wantSign(t, &table, rising(), keys, leaf, []byte("abc"))
		p, _ := merkle.Path(&table, keys, leaf)
		if !same(s, api.Signature{L: lamport.Sign(&table, rising(), leaf, digestBy(&table, []byte("abc"))), P: p}) {
			t.Errorf("by the leaf %d: another signature", leaf)
		}
		if sign.Check(&table, wantRoot(t, &table, keys), 3, []byte("abc"), s) {
			t.Errorf("by the leaf %d: it checks by keys that are not the seed's", leaf)
		}
		own := slices.Clone(keys)
		own[leaf] = keysOf(3)[leaf]
		if s := wantSign(t, &table, rising(), own, leaf, []byte("abc")); !sign.Check(&table, wantRoot(t, &table, own), 3, []byte("abc"), s) {
			t.Errorf("by the leaf %d: it does not check, though that leaf's key is the seed's", leaf)
		}
	}
}

// P11.2, P11.4: what is signed, by each leaf of each height, checks by the keys' root and height, also when its bytes were told and read; by no other height or root, and for no other text.
func TestEachLeafChecks(t *testing.T) {
	table := sha.Table()
	var roots []api.Digest
	for height := range 9 {
		roots = append(roots, wantRoot(t, &table, keysOf(height)))
	}
	for height := range 9 {
		keys := keysOf(height)
		for leaf := range keys {
			text := []byte(strings.Repeat("x", leaf))
			s := wantSign(t, &table, rising(), keys, leaf, text)
			wantRead(t, wantBytes(t, s), s)
			if !sign.Check(&table, roots[height], height, text, s) {
				t.Errorf("by the leaf %d of %d: it does not check", leaf, len(keys))
			}
			if sign.Check(&table, roots[height], height, append(text, 'x'), s) {
				t.Errorf("by the leaf %d of %d: it checks for another text", leaf, len(keys))
			}
			if sign.Check(&table, roots[(height+1)%9], height, text, s) {
				t.Errorf("by the leaf %d of %d: it checks by another root", leaf, len(keys))
			}
			for other := -1; other <= 9; other++ {
				if other != height && sign.Check(&table, roots[height], other, text, s) {
					t.Errorf("by the leaf %d of %d: it checks of the height %d", leaf, len(keys), other)
				}
			}
		}
	}
}

// P11.2: by other tables it checks as well, by each one what was signed by it alone.
func TestCheckOtherTables(t *testing.T) {
	all := tables()
	for i := range all {
		keys := wantKeys(t, &all[i], rising(), 2)
		s := wantSign(t, &all[i], rising(), keys, 2, []byte("abc"))
		for j := range all {
			if got := sign.Check(&all[j], wantRoot(t, &all[i], keys), 2, []byte("abc"), s); got != (i == j) {
				t.Errorf("signed by the table %d, checked by %d: %t", i, j, got)
			}
		}
	}
}

// P11.2: it does not check with one byte of the Secrets, or of the Others, turned.
func TestCheckOfTurned(t *testing.T) {
	table := sha.Table()
	keys := keysOf(2)
	root := wantRoot(t, &table, keys)
	s := wantSign(t, &table, rising(), keys, 2, []byte("abc"))
	for i := range api.Bits {
		for k := range 4 {
			at, by := (8*k+i)%32, byte(1<<((i/32+k)%8))
			if sign.Check(&table, root, 2, []byte("abc"), changed(s, func(s *api.Signature) { s.L.Secrets[i][at] ^= by })) {
				t.Errorf("the byte %d of the secret %d: it checks", at, i)
			}
			if sign.Check(&table, root, 2, []byte("abc"), changed(s, func(s *api.Signature) { s.L.Others[i][at] ^= by })) {
				t.Errorf("the byte %d of the other %d: it checks", at, i)
			}
		}
	}
	if !sign.Check(&table, root, 2, []byte("abc"), s) {
		t.Error("it does not check any more")
	}
}

// P11.2: it does not check with one byte of a digest beside, or of the root, turned, nor with another Leaf.
func TestCheckOfOtherPaths(t *testing.T) {
	table := sha.Table()
	text := []byte("abc")
	for _, x := range []struct{ height, leaf int }{{1, 0}, {3, 5}, {8, 0}, {8, 255}} {
		keys := keysOf(x.height)
		root := wantRoot(t, &table, keys)
		s := wantSign(t, &table, rising(), keys, x.leaf, text)
		for at := range 32 {
			for i := range x.height {
				if sign.Check(&table, root, x.height, text, changed(s, func(s *api.Signature) { s.P.Beside[i][at] ^= 1 << (at % 8) })) {
					t.Errorf("the leaf %d of %d, the byte %d beside at %d: it checks", x.leaf, len(keys), at, i)
				}
			}
			other := root
			other[at] ^= 128 >> (at % 8)
			if sign.Check(&table, other, x.height, text, s) {
				t.Errorf("the leaf %d of %d, the byte %d of the root: it checks", x.leaf, len(keys), at)
			}
		}
		for leaf := range keys {
			got := sign.Check(&table, root, x.height, text, changed(s, func(s *api.Signature) { s.P.Leaf = leaf }))
			if got != (leaf == x.leaf) {
				t.Errorf("the leaf %d of %d as the leaf %d: %t", x.leaf, len(keys), leaf, got)
			}
		}
	}
}

// P11.2: one leaf's one-time signature on another one's path, another seed's, and secrets and others in each other's place.
func TestCheckOfMixed(t *testing.T) {
	table := sha.Table()
	text := []byte("abc")
	keys := keysOf(3)
	root := wantRoot(t, &table, keys)
	one, two := wantSign(t, &table, rising(), keys, 2, text), wantSign(t, &table, rising(), keys, 3, text)
	for what, s := range []api.Signature{
		{},
		{L: one.L},
		{P: one.P},
		{L: one.L, P: two.P},
		{L: two.L, P: one.P},
		{L: api.Lamport{Secrets: one.L.Secrets, Others: two.L.Others}, P: one.P},
		{L: api.Lamport{Secrets: two.L.Secrets, Others: one.L.Others}, P: one.P},
		wantSign(t, &table, [32]byte{1}, keys, 2, text),
		wantSign(t, &table, rising(), keys, 2, []byte("abd")),
		changed(one, func(s *api.Signature) { slices.Reverse(s.P.Beside) }),
		changed(one, func(s *api.Signature) {
			for i := range api.Bits {
				s.L.Secrets[i], s.L.Others[i] = s.L.Others[i], s.L.Secrets[i]
			}
		}),
		changed(one, func(s *api.Signature) { s.L.Secrets[0], s.L.Secrets[1] = s.L.Secrets[1], s.L.Secrets[0] }),
	} {
		if sign.Check(&table, root, 3, text, s) {
			t.Errorf("mixed %d: it checks", what)
		}
	}
}

// P11.2: whatever it is, a right signature checks by the root that it comes to, and its height.
func TestCheckOfAny(t *testing.T) {
	all := tables()
	chance := rand.New(rand.NewSource(4))
	for height := range 9 {
		for _, leaf := range []int{0, 1<<height - 1, chance.Intn(1 << height)} {
			for i := range all {
				text := texts()[chance.Intn(len(texts())-1)]
				s := signatureOf(chance, leaf, height)
				root := topBy(&all[i], text, s)
				if !sign.Check(&all[i], root, height, text, s) {
					t.Errorf("table %d, the leaf %d, %d beside: it does not check", i, leaf, height)
				}
				if sign.Check(&all[i], api.Digest{}, height, text, s) {
					t.Errorf("table %d, the leaf %d, %d beside: it checks by noughts", i, leaf, height)
				}
			}
		}
	}
}

// P11.2: with a path that is not right it does not check, also where the root that its low bits come to, or noughts, is asked for.
func TestCheckOfWrongPaths(t *testing.T) {
	table := sha.Table()
	text := []byte("abc")
	for _, height := range []int{0, 1, 3, 8} {
		keys := keysOf(height)
		n := len(keys)
		for _, leaf := range []int{0, n / 2, n - 1} {
			s := wantSign(t, &table, rising(), keys, leaf, text)
			root := wantRoot(t, &table, keys)
			for _, other := range append(farLeaves(), leaf+n, leaf+2*n, leaf-n, leaf-2*n, leaf+256, leaf-256, leaf+1<<32, leaf+1<<62, leaf+math.MinInt) {
				if other >= 0 && other < n {
					continue
				}
				wrong := changed(s, func(s *api.Signature) { s.P.Leaf = other })
				for _, root := range []api.Digest{root, topBy(&table, text, wrong), {}} {
					if sign.Check(&table, root, height, text, wrong) {
						t.Errorf("the leaf %d of %d as %d: it checks", leaf, n, other)
					}
				}
			}
		}
	}
}

// P11.2: of a height below 0, or above 8, nothing checks, also where as many digests are beside.
func TestCheckOfWrongHeights(t *testing.T) {
	table := sha.Table()
	text := []byte("abc")
	chance := rand.New(rand.NewSource(5))
	for height := range 9 {
		keys := keysOf(height)
		root := wantRoot(t, &table, keys)
		s := wantSign(t, &table, rising(), keys, len(keys)-1, text)
		for _, other := range append(farHeights(), height+1, height-1, -height-1, height+256, height+1<<32, height+math.MinInt) {
			if sign.Check(&table, root, other, text, s) || sign.Check(&table, api.Digest{}, other, text, s) {
				t.Errorf("the height %d as %d: it checks", height, other)
			}
		}
	}
	for _, many := range []int{9, 10, 16, 31, 32, 33, 63, 64, 65, 72, 256, 264} {
		for _, leaf := range []int{0, 1, 128, 255, 256, 511} {
			s := signatureOf(chance, leaf, many)
			for _, root := range []api.Digest{topBy(&table, text, s), {}} {
				for _, height := range []int{many, 8, 0, many % 256, many % 64} {
					if sign.Check(&table, root, height, text, s) {
						t.Errorf("%d beside, the height %d: it checks", many, height)
					}
				}
			}
		}
	}
}

// P11.2: one digest beside less, one more, though what is left comes to a root.
func TestCheckOfOtherLengths(t *testing.T) {
	table := sha.Table()
	text := []byte("abc")
	keys := keysOf(4)
	s := wantSign(t, &table, rising(), keys, 3, text)
	for beside := range 5 {
		cut := api.Signature{L: s.L, P: api.Path{Leaf: 3 % (1 << beside), Beside: s.P.Beside[:beside]}}
		root := topBy(&table, text, cut)
		for height := -1; height <= 9; height++ {
			if got := sign.Check(&table, root, height, text, cut); got != (height == beside) {
				t.Errorf("%d beside, the height %d: %t", beside, height, got)
			}
		}
	}
	long := changed(s, func(s *api.Signature) { s.P.Beside = append(s.P.Beside, keys[0]) })
	if sign.Check(&table, wantRoot(t, &table, keys), 4, text, long) || sign.Check(&table, wantRoot(t, &table, keys), 5, text, long) {
		t.Error("one more beside: it checks")
	}
	if !sign.Check(&table, topBy(&table, text, long), 5, text, long) {
		t.Error("one more beside: it does not check by the root that it comes to")
	}
}

// P11.3: the bytes of right signatures of each height, whether they check or not: the first leaf, the last one, and those between at which varints grow.
func TestBytes(t *testing.T) {
	chance := rand.New(rand.NewSource(6))
	for height := range 9 {
		last := 1<<height - 1
		for _, leaf := range []int{0, 1, last / 2, last - 1, last, 127, 128, 200} {
			if leaf < 0 || leaf > last {
				continue
			}
			s := signatureOf(chance, leaf, height)
			b := wantBytes(t, s)
			if !slices.Equal(b, bytesBy(s)) {
				t.Errorf("the leaf %d, %d beside: other bytes", leaf, height)
			}
			if want := len(varint(leaf)) + 1 + 32*height + bodyBytes; len(b) != want || len(b) > mostBytes {
				t.Errorf("the leaf %d, %d beside: %d bytes, not %d", leaf, height, len(b), want)
			}
			wantRead(t, b, s)
		}
	}
	if n := len(wantBytes(t, signatureOf(chance, 0, 0))); n != 16386 {
		t.Errorf("of the height 0: %d bytes", n)
	}
	if n := len(wantBytes(t, signatureOf(chance, 255, 8))); n != mostBytes {
		t.Errorf("of the last leaf: %d bytes", n)
	}
}

// P11.3: no bytes of a signature that is not right: the Leaf -1, one behind the last one, far off; nine beside, and more.
func TestBytesRefused(t *testing.T) {
	chance := rand.New(rand.NewSource(7))
	for height := range 9 {
		s := signatureOf(chance, 0, height)
		n := 1 << height
		for _, leaf := range append(farLeaves(), n, n+1, 2*n, -n) {
			s.P.Leaf = leaf
			refuseBytes(t, s)
		}
	}
	for _, many := range []int{9, 10, 31, 32, 63, 64, 65, 128, 256, 264, 1 << 12} {
		for _, leaf := range append(farLeaves(), 0, 1, 255) {
			refuseBytes(t, api.Signature{P: api.Path{Leaf: leaf, Beside: make([]api.Digest, many)}})
		}
	}
}

// P11.3: what Bytes told is read; not so with a byte more, or more of them, nor with one more in front.
func TestReadLonger(t *testing.T) {
	chance := rand.New(rand.NewSource(8))
	for height := range 9 {
		for _, leaf := range []int{0, 1<<height - 1} {
			s := signatureOf(chance, leaf, height)
			b := wantBytes(t, s)
			wantRead(t, b, s)
			for c := range 256 {
				refuseRead(t, append(slices.Clone(b), byte(c)))
			}
			for _, many := range []int{2, 31, 32, 33, 64, 16384, len(b)} {
				refuseRead(t, append(slices.Clone(b), make([]byte, many)...))
			}
			refuseRead(t, append(slices.Clone(b), b...))
			for c := range 256 {
				longer := append([]byte{byte(c)}, b...)
				if !mayBe(longer) {
					refuseRead(t, longer)
				}
			}
		}
	}
}

// P11.3: what Bytes told, cut off anywhere, at either end, and no bytes at all.
func TestReadShorter(t *testing.T) {
	chance := rand.New(rand.NewSource(9))
	refuseRead(t, nil)
	refuseRead(t, []byte{})
	for _, x := range []struct{ height, leaf int }{{0, 0}, {1, 1}, {8, 255}} {
		b := wantBytes(t, signatureOf(chance, x.leaf, x.height))
		for n := range b {
			refuseRead(t, b[:n])
			if tail := b[n:]; n > 0 && !mayBe(tail) {
				refuseRead(t, tail)
			}
		}
	}
}

// P11.3: each two bytes that bytes may begin with, behind them as many as the signatures of each height have: what is read is the signature whose bytes they are, and what is no signature's is refused.
func TestReadEveryHead(t *testing.T) {
	chance := rand.New(rand.NewSource(10))
	room := make([]byte, 2*bodyBytes)
	chance.Read(room)
	for c := range 256 {
		for d := range 256 {
			room[0], room[1] = byte(c), byte(d)
			// A third byte is the number of digests beside, where the Leaf has two; else it is anything.
			room[2] = byte((c + d) % 10)
			for height := range 10 {
				for _, head := range []int{2, 3} {
					b := room[:head+32*height+bodyBytes]
					if !mayBe(b) {
						refuseRead(t, b)
						continue
					}
					s, e := sign.Read(b)
					if e != api.OK || !slices.Equal(bytesBy(s), b) {
						t.Errorf("%d bytes, %v ..: %d", len(b), b[:4], e)
					}
				}
			}
		}
	}
}

// P11.3: each leaf of each height, whose bytes are made here.
func TestReadEachLeaf(t *testing.T) {
	s := signatureOf(rand.New(rand.NewSource(11)), 0, 8)
	for height := range 9 {
		for leaf := range 1 << height {
			x := api.Signature{L: s.L, P: api.Path{Leaf: leaf, Beside: s.P.Beside[:height]}}
			wantRead(t, bytesBy(x), x)
		}
	}
}

// longer are a varint's digits, with up to ten noughts behind them.
func longer(digits []byte) [][]byte {
	var l [][]byte
	for more := 1; more <= 10; more++ {
		long := slices.Clone(digits)
		long[len(long)-1] += 128
		l = append(l, append(append(long, bytes.Repeat([]byte{128}, more-1)...), 0))
	}
	return l
}

// noVarints are bytes that no number begins with, and none at all.
func noVarints() [][]byte {
	return [][]byte{nil, {128, 0}, {255, 0}, bytes.Repeat([]byte{128}, 10), bytes.Repeat([]byte{255}, 10), append(bytes.Repeat([]byte{128}, 9), 2)}
}

// P11.3: varints that are not in their shortest form, or are none; also where what is left would be as many bytes as there must be, were the varint passed over.
func TestReadVarints(t *testing.T) {
	s := signatureOf(rand.New(rand.NewSource(12)), 0, 8)
	for height := range 9 {
		beside := s.P.Beside[:height]
		body := bytesBy(api.Signature{L: s.L, P: api.Path{Beside: beside}})[2:]
		last := 1<<height - 1
		for _, leaf := range []int{0, last / 2, last} {
			right := [][]byte{varint(leaf), {byte(height)}}
			wantRead(t, bytes.Join([][]byte{right[0], right[1], body}, nil), api.Signature{L: s.L, P: api.Path{Leaf: leaf, Beside: beside}})
			for i := range right {
				for _, wrong := range append(longer(right[i]), noVarints()...) {
					head := slices.Clone(right)
					head[i] = wrong
					b := bytes.Join([][]byte{head[0], head[1], body}, nil)
					for _, n := range []int{bodyBytes, bodyBytes + 1, bodyBytes + 2, len(body), len(body) + 1, len(body) + 2, len(b)} {
						if n <= len(b) && !mayBe(b[:n]) {
							refuseRead(t, b[:n])
						}
					}
				}
			}
		}
	}
}

// farNumbers are varints of numbers from 9 on that are no number of digests, those from 256 on no leaf either; many would be small ones, were their upper bits lost.
func farNumbers() [][]byte {
	l := [][]byte{varint(9), varint(10), varint(16), varint(127), varint(128), varint(255)}
	return append(l, farther()...)
}

// farther are varints of numbers from 256 on.
func farther() [][]byte {
	var l [][]byte
	for _, n := range []int{256, 257, 264, 511, 512, 1 << 16, 1<<16 + 1, math.MaxInt32, 1 << 32, 1<<32 + 1, 1<<32 + 8, 1<<40 + 3, 1 << 56, 1<<56 + 1, math.MaxInt} {
		l = append(l, varint(n))
	}
	// 2^63, 2^63 + 1, 2^63 + 8, 2^64 - 1, 2^64 - 8.
	for _, first := range []byte{128, 129, 136} {
		l = append(l, append(append([]byte{first}, bytes.Repeat([]byte{128}, 8)...), 1))
	}
	for _, first := range []byte{255, 248} {
		l = append(l, append(append([]byte{first}, bytes.Repeat([]byte{255}, 8)...), 1))
	}
	return l
}

// P11.3: a Leaf that is behind the last one, of each height, and far off; a number of digests that is more than 8, and far more, whatever is behind it.
func TestReadFarNumbers(t *testing.T) {
	s := signatureOf(rand.New(rand.NewSource(13)), 0, 8)
	for height := range 9 {
		body := bytesBy(api.Signature{L: s.L, P: api.Path{Beside: s.P.Beside[:height]}})[1:]
		n := 1 << height
		for _, leaf := range append([][]byte{varint(n), varint(n + 1), varint(2 * n), varint(2*n + 1)}, farther()...) {
			refuseRead(t, append(slices.Clone(leaf), body...))
		}
		for _, many := range farNumbers() {
			for _, leaf := range [][]byte{{0}, varint(n - 1), {1}, {255, 1}} {
				refuseRead(t, bytes.Join([][]byte{leaf, many, body[1:]}, nil))
			}
			refuseRead(t, append([]byte{0}, many...))
		}
	}
	for _, many := range []int{9, 10, 11, 16, 64, 255, 256, 257} {
		for _, leaf := range []int{0, 1, 255, 256} {
			refuseRead(t, bytes.Join([][]byte{varint(leaf), varint(many), make([]byte, 32*many+bodyBytes)}, nil))
		}
	}
}

// P11.3, P11.4: one byte of what Bytes told turned: it is read as that other signature, whose bytes these are, or refused; it is never read as the same one.
func TestReadOfTurned(t *testing.T) {
	chance := rand.New(rand.NewSource(14))
	for _, x := range []struct{ height, leaf int }{{2, 1}, {8, 255}} {
		s := signatureOf(chance, x.leaf, x.height)
		b := wantBytes(t, s)
		for i := range b {
			b[i] ^= 1 << (i % 8)
			got, e := sign.Read(b)
			if mayBe(b) {
				if e != api.OK || !slices.Equal(bytesBy(got), b) || same(got, s) {
					t.Errorf("the leaf %d, %d beside, the byte %d turned: %d", x.leaf, x.height, i, e)
				}
			} else {
				refuseRead(t, b)
			}
			b[i] ^= 1 << (i % 8)
		}
	}
}

// P11.1, P11.2: without a table digests are noughts, and so is what is signed; what needs none is what it is.
func TestWithoutTable(t *testing.T) {
	none := api.Digest{}
	for height := range 9 {
		keys := wantKeys(t, nil, rising(), height)
		if !slices.Equal(keys, make([]api.Digest, 1<<height)) {
			t.Errorf("the height %d: keys that are not noughts", height)
		}
		for _, leaf := range []int{0, len(keys) - 1} {
			s := wantSign(t, nil, rising(), keys, leaf, []byte("abc"))
			if !same(s, api.Signature{P: api.Path{Leaf: leaf, Beside: make([]api.Digest, height)}}) {
				t.Errorf("by the leaf %d of %d: not noughts", leaf, len(keys))
			}
			for _, text := range texts() {
				if !sign.Check(nil, none, height, text, s) {
					t.Errorf("by the leaf %d of %d: noughts do not check by noughts", leaf, len(keys))
				}
				if sign.Check(nil, api.Digest{31: 1}, height, text, s) || sign.Check(nil, none, height+1, text, s) {
					t.Errorf("by the leaf %d of %d: it checks", leaf, len(keys))
				}
			}
			s.P.Leaf = len(keys)
			if sign.Check(nil, none, height, nil, s) {
				t.Errorf("of %d leaves one behind them: it checks", len(keys))
			}
		}
	}
	keys := keysOf(2)
	if s := wantSign(t, nil, rising(), keys, 1, nil); !same(s, api.Signature{P: api.Path{Leaf: 1, Beside: []api.Digest{keys[0], none}}}) {
		t.Error("a path among keys that are not noughts")
	}
	if sign.Check(nil, none, 9, nil, api.Signature{P: api.Path{Beside: make([]api.Digest, 9)}}) {
		t.Error("nine beside: it checks")
	}
}

// R3: keys, texts, paths, bytes, their spare room, and the table are not changed.
func TestNothingChanges(t *testing.T) {
	table := sha.Table()
	chance := rand.New(rand.NewSource(15))
	room := digests(chance, 800)
	old := slices.Clone(room)
	long := make([]byte, 40000)
	chance.Read(long)
	text := slices.Clone(long)
	for height := range 10 {
		for _, leaf := range []int{-1, 0, 1<<height - 1, 1 << height} {
			sign.Sign(&table, rising(), room[100:100+1<<height], leaf, text[10:10+leaf+1])
			s := signatureOf(chance, leaf, 0)
			s.P.Beside = room[50 : 50+height]
			one := s.L
			sign.Check(&table, api.Digest{}, height, text[5:300], s)
			b, e := sign.Bytes(s)
			if s.L != one || s.P.Leaf != leaf || len(s.P.Beside) != height {
				t.Errorf("the leaf %d, %d beside: a signature was changed", leaf, height)
			}
			if e == api.OK {
				copy(text, b)
				copy(long, b)
				sign.Read(text[:len(b)])
			}
			sign.Read(text[:20000])
			sign.Read(text[:10])
		}
		if !slices.Equal(room, old) || !slices.Equal(text, long) {
			t.Fatalf("the height %d: digests, bytes, or their spare room, were changed", height)
		}
	}
	if table != sha.Table() {
		t.Error("the table was changed")
	}
}

// R3: keys that were told share no memory with one another, nor with what is kept.
func TestKeysAreTheirOwn(t *testing.T) {
	table := sha.Table()
	one, two := wantKeys(t, &table, rising(), 3), wantKeys(t, &table, rising(), 3)
	clear(one[:cap(one)])
	if !slices.Equal(two, keysOf(3)) || !slices.Equal(wantKeys(t, &table, rising(), 3), keysOf(3)) {
		t.Error("keys were changed")
	}
}

// R3: a signature shares no memory with the keys, the text, or other signatures.
func TestSignaturesAreTheirOwn(t *testing.T) {
	table := sha.Table()
	for height := 1; height < 9; height++ {
		keys, text := keysOf(height), []byte("abc")
		root := wantRoot(t, &table, keys)
		for _, leaf := range []int{0, len(keys) - 1} {
			own := slices.Clone(keys)
			one, two := wantSign(t, &table, rising(), own, leaf, text), wantSign(t, &table, rising(), own, leaf, text)
			clear(one.P.Beside[:cap(one.P.Beside)])
			if !slices.Equal(own, keys) {
				t.Errorf("the leaf %d of %d: a signature shares memory with keys", leaf, len(keys))
			}
			clear(own)
			wantSign(t, &table, rising(), own, leaf, []byte("abd"))
			if !sign.Check(&table, root, height, []byte("abc"), two) {
				t.Errorf("the leaf %d of %d: a signature was changed", leaf, len(keys))
			}
		}
	}
}

// R3: bytes that were told share no memory with the signature, nor what was read with the bytes.
func TestBytesAreTheirOwn(t *testing.T) {
	chance := rand.New(rand.NewSource(16))
	for height := range 9 {
		s := signatureOf(chance, 1<<height-1, height)
		want := changed(s, func(*api.Signature) {})
		b, other := wantBytes(t, s), wantBytes(t, s)
		one, _ := sign.Read(b)
		two, _ := sign.Read(b)
		clear(b[:cap(b)])
		clear(one.P.Beside[:cap(one.P.Beside)])
		sign.Read(other)
		wantBytes(t, signatureOf(chance, 0, 8))
		if !same(two, want) {
			t.Errorf("%d beside: what was read was changed", height)
		}
		clear(s.P.Beside)
		if !slices.Equal(other, bytesBy(want)) {
			t.Errorf("%d beside: bytes were changed", height)
		}
	}
}

// R4: what is asked again is answered again, whatever was asked between: which leaves have signed is not kept.
func TestSameAgain(t *testing.T) {
	all := tables()
	keys, text := keysOf(2), []byte("abc")
	root := wantRoot(t, &all[0], keys)
	s := wantSign(t, &all[0], rising(), keys, 2, text)
	b := wantBytes(t, s)
	wantSign(t, &all[0], rising(), keys, 2, []byte("abd"))
	wantSign(t, &all[2], rising(), keys, 2, text)
	sign.Keys(nil, rising(), 1)
	sign.Sign(&all[0], rising(), keys, 4, text)
	sign.Check(&all[0], root, 3, text, s)
	sign.Read(b[:9])
	if !same(wantSign(t, &all[0], rising(), keys, 2, text), s) || !slices.Equal(wantBytes(t, s), b) || !sign.Check(&all[0], root, 2, text, s) {
		t.Error("another answer")
	}
	wantRead(t, b, s)
}
