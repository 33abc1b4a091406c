package merkle_test

import (
	"bytes"
	"crypto/sha256"
	"encoding/hex"
	"math"
	"math/rand"
	"slices"
	"testing"

	"blockhouse/api"
	"blockhouse/mac"
	"blockhouse/merkle"
	"blockhouse/sha"
)

// odd is a table that digests are not made by.
func odd(chance *rand.Rand) api.Rounds {
	var t api.Rounds
	for i := range t.First {
		t.First[i] = chance.Uint32()
	}
	for i := range t.Keys {
		t.Keys[i] = chance.Uint32()
	}
	return t
}

// tables are the right one, one of noughts, and others.
func tables() []api.Rounds {
	chance := rand.New(rand.NewSource(1))
	return []api.Rounds{sha.Table(), {}, odd(chance), odd(chance)}
}

// digests are many of chance.
func digests(chance *rand.Rand, many int) []api.Digest {
	l := make([]api.Digest, many)
	for i := range l {
		chance.Read(l[i][:])
	}
	return l
}

// filled is a digest of 32 of the same byte.
func filled(c byte) api.Digest {
	return api.Digest(bytes.Repeat([]byte{c}, 32))
}

// turned is a digest with one bit turned.
func turned(d api.Digest, i int) api.Digest {
	d[i/8] ^= 128 >> (i % 8)
	return d
}

// changed is a new list with another digest at one place.
func changed(l []api.Digest, i int, d api.Digest) []api.Digest {
	l = slices.Clone(l)
	l[i] = d
	return l
}

// textBy is the text of the tag 4 and two digests, written out a second time.
func textBy(a, b api.Digest) []byte {
	return bytes.Join([][]byte{{75, 4, 2, 32}, a[:], {32}, b[:]}, nil)
}

// nodeBy is the chapter's definition, written out a second time.
func nodeBy(t *api.Rounds, a, b api.Digest) api.Digest {
	return sha.Of(t, textBy(a, b))
}

// rootBy is the chapter's definition: halves, and halves again.
func rootBy(t *api.Rounds, leaves []api.Digest) api.Digest {
	if len(leaves) == 1 {
		return leaves[0]
	}
	half := len(leaves) / 2
	return nodeBy(t, rootBy(t, leaves[:half]), rootBy(t, leaves[half:]))
}

// besideBy is the chapter's definition: at each node of the leaf the root of the half that it is not in.
func besideBy(t *api.Rounds, leaves []api.Digest, leaf int) []api.Digest {
	if len(leaves) == 1 {
		return nil
	}
	half := len(leaves) / 2
	if leaf < half {
		return append(besideBy(t, leaves[:half], leaf), rootBy(t, leaves[half:]))
	}
	return append(besideBy(t, leaves[half:], leaf-half), rootBy(t, leaves[:half]))
}

// climbBy is the chapter's definition, from the highest digest down.
func climbBy(t *api.Rounds, x api.Digest, p api.Path) api.Digest {
	top := len(p.Beside) - 1
	if top < 0 {
		return x
	}
	weight := int(math.Pow(2, float64(top)))
	x = climbBy(t, x, api.Path{Leaf: p.Leaf % weight, Beside: p.Beside[:top]})
	if p.Leaf < weight {
		return nodeBy(t, x, p.Beside[top])
	}
	return nodeBy(t, p.Beside[top], x)
}

// sizes are the numbers of leaves of the heights from 0 to 8.
func sizes() []int {
	return []int{1, 2, 4, 8, 16, 32, 64, 128, 256}
}

// wrongSizes are numbers of leaves that no tree has: all up to 600, and some past them.
func wrongSizes() []int {
	var l []int
	for n := range 601 {
		if !slices.Contains(sizes(), n) {
			l = append(l, n)
		}
	}
	return append(l, 768, 1023, 1024, 1025, 4096, 65535, 65536, 1<<20)
}

// farLeaves are numbers that no leaf of any tree has.
func farLeaves() []int {
	return []int{-1, -2, -128, -255, -256, -257, math.MinInt32, math.MinInt, math.MinInt + 1, 256, 257, 511, 512, 1 << 16, math.MaxInt32, 1 << 32, 1<<32 + 1, 1 << 62, math.MaxInt}
}

func samePath(a, b api.Path) bool {
	return a.Leaf == b.Leaf && slices.Equal(a.Beside, b.Beside)
}

func wantDigest(t *testing.T, what string, got api.Digest, want string) {
	t.Helper()
	if hex.EncodeToString(got[:]) != want {
		t.Errorf("%s: %x, not %s", what, got, want)
	}
}

// wantRoot tells the root of leaves that may be.
func wantRoot(t *testing.T, table *api.Rounds, leaves []api.Digest) api.Digest {
	t.Helper()
	root, e := merkle.Root(table, leaves)
	if e != api.OK {
		t.Fatalf("the root of %d leaves: %d", len(leaves), e)
	}
	return root
}

// wantPath tells the path of a leaf that is there.
func wantPath(t *testing.T, table *api.Rounds, leaves []api.Digest, leaf int) api.Path {
	t.Helper()
	p, e := merkle.Path(table, leaves, leaf)
	if e != api.OK {
		t.Fatalf("the path of %d of %d leaves: %d", leaf, len(leaves), e)
	}
	return p
}

// wantClimb tells what one comes to along a right path.
func wantClimb(t *testing.T, table *api.Rounds, x api.Digest, p api.Path) api.Digest {
	t.Helper()
	got, e := merkle.Climb(table, x, p)
	if e != api.OK {
		t.Fatalf("along %d, %d beside: %d", p.Leaf, len(p.Beside), e)
	}
	return got
}

func refuseRoot(t *testing.T, table *api.Rounds, leaves []api.Digest) {
	t.Helper()
	if root, e := merkle.Root(table, leaves); e != api.ErrArg || root != (api.Digest{}) {
		t.Errorf("the root of %d leaves: %x %d", len(leaves), root, e)
	}
}

func refusePath(t *testing.T, table *api.Rounds, leaves []api.Digest, leaf int) {
	t.Helper()
	if p, e := merkle.Path(table, leaves, leaf); e != api.ErrArg || p.Leaf != 0 || len(p.Beside) != 0 {
		t.Errorf("the path of %d of %d leaves: %v %d", leaf, len(leaves), p, e)
	}
}

func refuseClimb(t *testing.T, table *api.Rounds, x api.Digest, p api.Path) {
	t.Helper()
	if got, e := merkle.Climb(table, x, p); e != api.ErrArg || got != (api.Digest{}) {
		t.Errorf("along %d, %d beside: %x %d", p.Leaf, len(p.Beside), got, e)
	}
}

// The chapter's examples.
func TestExamples(t *testing.T) {
	table := sha.Table()
	a, b, c, d := api.Digest{1}, api.Digest{2}, api.Digest{3}, api.Digest{4}
	l := []api.Digest{a, b, c, d}
	ab, cd := merkle.Node(&table, a, b), merkle.Node(&table, c, d)
	root := wantRoot(t, &table, l)
	if root != merkle.Node(&table, ab, cd) {
		t.Errorf("%x", root)
	}
	p := wantPath(t, &table, l, 2)
	if !samePath(p, api.Path{Leaf: 2, Beside: []api.Digest{d, ab}}) {
		t.Error(p)
	}
	if got := wantClimb(t, &table, c, p); got != root {
		t.Errorf("%x, not %x", got, root)
	}
	refuseRoot(t, &table, l[:3])
	refuseRoot(t, &table, nil)
	refusePath(t, &table, l[:3], 0)
	refusePath(t, &table, nil, 0)
	if got := wantRoot(t, &table, l[:1]); got != a {
		t.Errorf("%x", got)
	}
	if p := wantPath(t, &table, l[:1], 0); !samePath(p, api.Path{}) {
		t.Error(p)
	}
}

// P10.1: nodes and roots worked out elsewhere, by Python's library: of the leaves whose first bytes are 0, 1, 2 ..
func TestKnown(t *testing.T) {
	table := sha.Table()
	wantDigest(t, "a node", merkle.Node(&table, api.Digest{}, api.Digest{}), "3122a1b43a9a47ef3577d879ab7e789396fa1712662503e275c419c8364a96e3")
	wantDigest(t, "a node", merkle.Node(&table, api.Digest{1}, api.Digest{2}), "61b8fd678351c64e2c5d9110e2f8f2fd44948251380de8272151d24875005e23")
	wantDigest(t, "a node", merkle.Node(&table, api.Digest{2}, api.Digest{1}), "5873ff8d3a02cdc486124907da7d157aa9bd2cf91a58935dfc6fbdbf52735b3b")
	leaves := make([]api.Digest, 256)
	for i := range leaves {
		leaves[i][0] = byte(i)
	}
	for h, want := range []string{
		"0000000000000000000000000000000000000000000000000000000000000000",
		"95e5006f2fcb170fbce026f8f3f1d3af17cde24b1f67e0091393b6fc526c4190",
		"efe8ffb2d72f3b96dfe4674e0225958fba29fd4b209a80768439cebdc4f9fb39",
		"d687e28d4fbb2ab315565df53caef395bad3fb615c90130fd5991bfc53817379",
		"ed0d1e4ea99685792004932eb9671b9e2ca4ebeba3eeabf055ccae80ac26fd6d",
		"205825a32803d5292d6c3b6ab673859115bd919d95e1212067b1115f9d74c283",
		"aaf2eb3191d8dd39b9fa2958e4c1c46719f5f3f6be1ff93c3c79559aac304806",
		"b029168a786a002fac1b0acd14061358efead41f4d82f061d6d2b57a2463dbe7",
		"2e9877c2b044a653694fe5b2cd9e800c0a2a68904610839b994e98a4dce93242",
	} {
		wantDigest(t, "a root", wantRoot(t, &table, leaves[:1<<h]), want)
	}
}

// P10.1: a node by its definition: the library's digest of its text, mac's of its tag and parts, and by other tables.
func TestNode(t *testing.T) {
	all := tables()
	l := append(digests(rand.New(rand.NewSource(2)), 4), api.Digest{}, filled(255))
	for _, a := range l {
		for _, b := range l {
			if got := merkle.Node(&all[0], a, b); got != sha256.Sum256(textBy(a, b)) {
				t.Errorf("%x, %x: %x", a, b, got)
			}
			for i := range all {
				got := merkle.Node(&all[i], a, b)
				if got != nodeBy(&all[i], a, b) || got != mac.Tagged(&all[i], api.TagNode, a[:], b[:]) {
					t.Errorf("table %d, %x, %x: %x", i, a, b, got)
				}
			}
		}
	}
}

// P10.1: each bit of both digests counts, and so does which one is the first one.
func TestNodeOfChanged(t *testing.T) {
	table := sha.Table()
	l := digests(rand.New(rand.NewSource(3)), 2)
	a, b := l[0], l[1]
	seen := map[api.Digest]int{merkle.Node(&table, a, b): 1}
	seen[merkle.Node(&table, b, a)]++
	seen[merkle.Node(&table, a, a)]++
	seen[merkle.Node(&table, b, b)]++
	for i := range 256 {
		seen[merkle.Node(&table, turned(a, i), b)]++
		seen[merkle.Node(&table, a, turned(b, i))]++
	}
	if len(seen) != 4+2*256 {
		t.Errorf("%d nodes, not %d", len(seen), 4+2*256)
	}
}

// P10.1: the root of each height, by any table.
func TestRoot(t *testing.T) {
	all := tables()
	chance := rand.New(rand.NewSource(4))
	for i := range all {
		for _, n := range sizes() {
			for _, leaves := range [][]api.Digest{digests(chance, n), make([]api.Digest, n)} {
				if got := wantRoot(t, &all[i], leaves); got != rootBy(&all[i], leaves) {
					t.Errorf("table %d, %d leaves: %x", i, n, got)
				}
			}
		}
	}
}

// P10.1: of one leaf it is the root, whatever it is, by any table.
func TestRootOfOne(t *testing.T) {
	all := tables()
	for _, leaf := range append(digests(rand.New(rand.NewSource(5)), 3), api.Digest{}, filled(255)) {
		for i := range all {
			if got := wantRoot(t, &all[i], []api.Digest{leaf}); got != leaf {
				t.Errorf("table %d: %x, not %x", i, got, leaf)
			}
		}
	}
}

// P10.1: a root is the node of the roots of both halves, and that of the roots of any parts.
func TestRootOfRoots(t *testing.T) {
	table := sha.Table()
	leaves := digests(rand.New(rand.NewSource(6)), 256)
	for _, n := range sizes() {
		root := wantRoot(t, &table, leaves[:n])
		if n > 1 {
			first, second := wantRoot(t, &table, leaves[:n/2]), wantRoot(t, &table, leaves[n/2:n])
			if root != merkle.Node(&table, first, second) {
				t.Errorf("%d leaves: not the node of both halves", n)
			}
		}
		for size := 1; size <= n; size *= 2 {
			var roots []api.Digest
			for part := range slices.Chunk(leaves[:n], size) {
				roots = append(roots, wantRoot(t, &table, part))
			}
			if wantRoot(t, &table, roots) != root {
				t.Errorf("%d leaves: not the root of the roots of %d each", n, size)
			}
		}
	}
}

// P10.1: refused: all numbers of leaves that are no tree's.
func TestRootRefused(t *testing.T) {
	table := sha.Table()
	many := digests(rand.New(rand.NewSource(7)), 1<<20)
	for _, n := range wrongSizes() {
		refuseRoot(t, &table, many[:n])
		refuseRoot(t, nil, many[:n])
	}
	refuseRoot(t, &table, nil)
	refuseRoot(t, &table, []api.Digest{})
}

// P10.1: two leaves in each other's place have another root, each two of them another one.
func TestRootOfExchanged(t *testing.T) {
	table := sha.Table()
	chance := rand.New(rand.NewSource(8))
	for _, n := range []int{2, 4, 8, 16, 32} {
		leaves := digests(chance, n)
		seen := map[api.Digest]int{wantRoot(t, &table, leaves): 1}
		for i := range n {
			for j := range i {
				other := changed(changed(leaves, i, leaves[j]), j, leaves[i])
				seen[wantRoot(t, &table, other)]++
			}
		}
		if want := 1 + n*(n-1)/2; len(seen) != want {
			t.Errorf("%d leaves: %d roots, not %d", n, len(seen), want)
		}
	}
	leaves := digests(chance, 256)
	root := wantRoot(t, &table, leaves)
	for i := range 256 {
		j := (i + 1 + 37*i%255) % 256
		if wantRoot(t, &table, changed(changed(leaves, i, leaves[j]), j, leaves[i])) == root {
			t.Errorf("%d and %d of 256 leaves: the same root", i, j)
		}
	}
}

// P10.1: one bit of one leaf turned: another root, each bit another one.
func TestRootOfTurned(t *testing.T) {
	table := sha.Table()
	chance := rand.New(rand.NewSource(9))
	for _, n := range sizes() {
		leaves := digests(chance, n)
		seen := map[api.Digest]int{wantRoot(t, &table, leaves): 1}
		many := 1
		for i := range n {
			for bit := i * 7 % 32; bit < 256; bit += max(1, n/4) {
				seen[wantRoot(t, &table, changed(leaves, i, turned(leaves[i], bit)))]++
				many++
			}
		}
		if len(seen) != many {
			t.Errorf("%d leaves: %d roots, not %d", n, len(seen), many)
		}
	}
}

// P10.1: which leaves a path of each height may have: 0, the last one, and none outside.
func TestRight(t *testing.T) {
	chance := rand.New(rand.NewSource(10))
	for h, n := range sizes() {
		beside := digests(chance, h)
		for leaf := range n {
			if !merkle.Right(api.Path{Leaf: leaf, Beside: beside}) {
				t.Errorf("%d, %d beside: not right", leaf, h)
			}
		}
		for _, leaf := range append(farLeaves(), n, n+1, 2*n, 3*n) {
			if merkle.Right(api.Path{Leaf: leaf, Beside: beside}) {
				t.Errorf("%d, %d beside: right", leaf, h)
			}
		}
	}
	if !merkle.Right(api.Path{}) || !merkle.Right(api.Path{Beside: []api.Digest{}}) {
		t.Error("nothing beside: not right")
	}
}

// P10.1: with more than 8 beside no path is right, whichever leaf it has, also where a number's bits would turn round.
func TestRightTooHigh(t *testing.T) {
	for _, h := range []int{9, 10, 16, 31, 32, 33, 62, 63, 64, 65, 72, 128, 256, 264, 1 << 16} {
		for _, leaf := range append(farLeaves(), 0, 1, 2, 127, 128, 255) {
			if merkle.Right(api.Path{Leaf: leaf, Beside: make([]api.Digest, h)}) {
				t.Errorf("%d, %d beside: right", leaf, h)
			}
		}
	}
}

// P10.2: the path of each leaf of each height: its number, and what stands beside, the lowest first.
func TestPath(t *testing.T) {
	table := sha.Table()
	chance := rand.New(rand.NewSource(11))
	for h, n := range sizes() {
		leaves := digests(chance, n)
		for leaf := range n {
			p := wantPath(t, &table, leaves, leaf)
			if len(p.Beside) != h || !merkle.Right(p) {
				t.Errorf("%d of %d leaves: %d beside", leaf, n, len(p.Beside))
			}
			if !samePath(p, api.Path{Leaf: leaf, Beside: besideBy(&table, leaves, leaf)}) {
				t.Errorf("%d of %d leaves: %v", leaf, n, p)
			}
		}
	}
}

// P10.2: paths by any table.
func TestPathOtherTables(t *testing.T) {
	all := tables()
	chance := rand.New(rand.NewSource(12))
	for i := range all {
		for _, n := range []int{1, 2, 8, 16} {
			leaves := digests(chance, n)
			for leaf := range n {
				p := wantPath(t, &all[i], leaves, leaf)
				if !samePath(p, api.Path{Leaf: leaf, Beside: besideBy(&all[i], leaves, leaf)}) {
					t.Errorf("table %d, %d of %d leaves: %v", i, leaf, n, p)
				}
			}
		}
	}
}

// P10.2: of eight leaves the paths written out: each digest at its height.
func TestPathOfEight(t *testing.T) {
	table := sha.Table()
	l := digests(rand.New(rand.NewSource(13)), 8)
	node := func(a, b api.Digest) api.Digest { return nodeBy(&table, a, b) }
	n01, n23, n45, n67 := node(l[0], l[1]), node(l[2], l[3]), node(l[4], l[5]), node(l[6], l[7])
	left, right := node(n01, n23), node(n45, n67)
	for leaf, beside := range [][]api.Digest{
		{l[1], n23, right}, {l[0], n23, right}, {l[3], n01, right}, {l[2], n01, right},
		{l[5], n67, left}, {l[4], n67, left}, {l[7], n45, left}, {l[6], n45, left},
	} {
		if p := wantPath(t, &table, l, leaf); !samePath(p, api.Path{Leaf: leaf, Beside: beside}) {
			t.Errorf("%d: %v", leaf, p)
		}
	}
}

// P10.2: a path goes by which leaf it is, not by what that is: of leaves that are the same, too.
func TestPathOfSameLeaves(t *testing.T) {
	table := sha.Table()
	leaves := slices.Repeat([]api.Digest{filled(7)}, 16)
	seven := filled(7)
	for leaf := range leaves {
		p := wantPath(t, &table, leaves, leaf)
		if p.Leaf != leaf || p.Beside[0] != seven || !slices.Equal(p.Beside, besideBy(&table, leaves, leaf)) {
			t.Errorf("%d: %v", leaf, p)
		}
	}
}

// P10.2: refused: a leaf that is not there, at -1, at the number of leaves, and far from both.
func TestPathRefusedLeaf(t *testing.T) {
	table := sha.Table()
	all := digests(rand.New(rand.NewSource(14)), 512)
	for _, n := range sizes() {
		for _, leaf := range append(farLeaves(), n, n+1, 2*n) {
			refusePath(t, &table, all[:n], leaf)
			refusePath(t, nil, all[:n], leaf)
		}
	}
}

// P10.2: refused: leaves that may not be, whichever of them is asked for.
func TestPathRefusedLeaves(t *testing.T) {
	table := sha.Table()
	many := make([]api.Digest, 1<<20)
	for _, n := range wrongSizes() {
		for _, leaf := range []int{math.MinInt, -1, 0, 1, n / 2, n - 1, n, n + 1, 255, 256, math.MaxInt} {
			refusePath(t, &table, many[:n], leaf)
			refusePath(t, nil, many[:n], leaf)
		}
	}
	refusePath(t, &table, nil, 0)
}

// P10.2: along a path that nobody made, of each height and each leaf, by its definition: where a bit of Leaf is 0, and where it is 1.
func TestClimb(t *testing.T) {
	table := sha.Table()
	chance := rand.New(rand.NewSource(15))
	for h, n := range sizes() {
		l := digests(chance, h+1)
		for leaf := range n {
			p := api.Path{Leaf: leaf, Beside: l[1:]}
			if got := wantClimb(t, &table, l[0], p); got != climbBy(&table, l[0], p) {
				t.Errorf("%d, %d beside: %x", leaf, h, got)
			}
		}
	}
}

// P10.2: at each height the bit 0 and the bit 1 alone, step by step.
func TestClimbStepByStep(t *testing.T) {
	table := sha.Table()
	l := digests(rand.New(rand.NewSource(16)), 9)
	x, beside := l[0], l[1:]
	for height := range 8 {
		for _, leaf := range []int{0, 1 << height, 255 &^ (1 << height), 255} {
			y := x
			for i := range 8 {
				if leaf/(1<<i)%2 == 0 {
					y = merkle.Node(&table, y, beside[i])
				} else {
					y = merkle.Node(&table, beside[i], y)
				}
				short := api.Path{Leaf: leaf % (2 << i), Beside: beside[:i+1]}
				if got := wantClimb(t, &table, x, short); got != y {
					t.Errorf("leaf %d, %d beside: %x, not %x", leaf, i+1, got, y)
				}
			}
		}
	}
}

// P10.2: with nothing beside one comes to what one began with.
func TestClimbNowhere(t *testing.T) {
	all := tables()
	for _, x := range append(digests(rand.New(rand.NewSource(17)), 2), api.Digest{}, filled(255)) {
		for i := range all {
			for _, p := range []api.Path{{}, {Beside: []api.Digest{}}} {
				if got := wantClimb(t, &all[i], x, p); got != x {
					t.Errorf("table %d: %x, not %x", i, got, x)
				}
			}
		}
	}
}

// P10.2: by any table.
func TestClimbOtherTables(t *testing.T) {
	all := tables()
	chance := rand.New(rand.NewSource(18))
	seen := map[api.Digest]int{}
	l := digests(chance, 9)
	for i := range all {
		for _, leaf := range []int{0, 1, 128, 170, 255} {
			p := api.Path{Leaf: leaf, Beside: l[1:]}
			got := wantClimb(t, &all[i], l[0], p)
			if got != climbBy(&all[i], l[0], p) {
				t.Errorf("table %d, %d: %x", i, leaf, got)
			}
			seen[got]++
		}
	}
	if len(seen) != 5*len(all) {
		t.Errorf("%d ends, not %d", len(seen), 5*len(all))
	}
}

// P10.2: refused: paths that are not right.
func TestClimbRefused(t *testing.T) {
	table := sha.Table()
	chance := rand.New(rand.NewSource(19))
	for h, n := range sizes() {
		l := digests(chance, h+1)
		for _, leaf := range append(farLeaves(), n, n+1, 2*n) {
			p := api.Path{Leaf: leaf, Beside: l[1:]}
			refuseClimb(t, &table, l[0], p)
			refuseClimb(t, nil, l[0], p)
		}
	}
	for _, h := range []int{9, 10, 32, 63, 64, 65, 256, 1 << 16} {
		for _, leaf := range []int{math.MinInt, -1, 0, 1, 255, 256, 511, math.MaxInt} {
			p := api.Path{Leaf: leaf, Beside: make([]api.Digest, h)}
			refuseClimb(t, &table, filled(1), p)
			refuseClimb(t, nil, filled(1), p)
		}
	}
}

// P10.3: from each leaf of each height, along its path, one comes to the root, by any table.
func TestClimbToTheRoot(t *testing.T) {
	all := tables()
	chance := rand.New(rand.NewSource(20))
	for i := range all {
		for _, n := range sizes() {
			leaves := digests(chance, n)
			root := wantRoot(t, &all[i], leaves)
			step := 1
			if i > 0 {
				step = max(1, n/8-1)
			}
			for leaf := 0; leaf < n; leaf += step {
				if got := wantClimb(t, &all[i], leaves[leaf], wantPath(t, &all[i], leaves, leaf)); got != root {
					t.Errorf("table %d, %d of %d leaves: %x, not %x", i, leaf, n, got, root)
				}
			}
		}
	}
}

// P10.3: a path to the root goes on as the path of what the lower part of it comes to.
func TestClimbInParts(t *testing.T) {
	table := sha.Table()
	leaves := digests(rand.New(rand.NewSource(21)), 256)
	root := wantRoot(t, &table, leaves)
	for low := range 9 {
		size := 1 << low
		var roots []api.Digest
		for part := range slices.Chunk(leaves, size) {
			roots = append(roots, wantRoot(t, &table, part))
		}
		for _, leaf := range []int{0, 1, 77, 127, 128, 200, 255} {
			p := wantPath(t, &table, leaves, leaf)
			under := api.Path{Leaf: leaf % size, Beside: p.Beside[:low]}
			over := api.Path{Leaf: leaf / size, Beside: p.Beside[low:]}
			if got := wantClimb(t, &table, leaves[leaf], under); got != roots[leaf/size] {
				t.Errorf("%d: %x at the height %d", leaf, got, low)
			}
			if got := wantClimb(t, &table, roots[leaf/size], over); got != root {
				t.Errorf("%d: %x from the height %d on", leaf, got, low)
			}
			if !samePath(over, wantPath(t, &table, roots, leaf/size)) {
				t.Errorf("%d: no path of the roots of %d each", leaf, size)
			}
		}
	}
}

// P10.2, P10.3: one digest beside changed, another Leaf, or another digest to begin with: another root, each time another one.
func TestClimbOfChanged(t *testing.T) {
	table := sha.Table()
	chance := rand.New(rand.NewSource(22))
	for h, n := range sizes() {
		leaves := digests(chance, n)
		for _, leaf := range []int{0, n / 3, n / 2, n - 1} {
			x, p := leaves[leaf], wantPath(t, &table, leaves, leaf)
			seen := map[api.Digest]int{wantRoot(t, &table, leaves): 1}
			many := 1
			add := func(x api.Digest, p api.Path) {
				many++
				seen[wantClimb(t, &table, x, p)]++
			}
			for i := range h {
				for bit := range 256 {
					add(x, api.Path{Leaf: leaf, Beside: changed(p.Beside, i, turned(p.Beside[i], bit))})
				}
			}
			for other := range n {
				if other != leaf {
					add(x, api.Path{Leaf: other, Beside: p.Beside})
				}
			}
			for bit := range 256 {
				add(turned(x, bit), p)
			}
			if len(seen) != many {
				t.Errorf("%d of %d leaves: %d roots, not %d", leaf, n, len(seen), many)
			}
		}
	}
}

// P10.2: digests beside in each other's place, one less, one more, or another leaf's: another root.
func TestClimbOfOtherPaths(t *testing.T) {
	table := sha.Table()
	leaves := digests(rand.New(rand.NewSource(23)), 128)
	root := wantRoot(t, &table, leaves)
	for leaf := range leaves {
		x, p := leaves[leaf], wantPath(t, &table, leaves, leaf)
		around := slices.Clone(p.Beside)
		slices.Reverse(around)
		for what, other := range []api.Path{
			{Leaf: leaf, Beside: around},
			{Leaf: leaf % 64, Beside: p.Beside[:6]},
			{Leaf: leaf / 2, Beside: p.Beside[1:]},
			{Leaf: leaf, Beside: append(slices.Clone(p.Beside), root)},
			wantPath(t, &table, leaves, (leaf+1)%128),
			wantPath(t, &table, leaves, leaf^1),
			wantPath(t, &table, leaves, leaf^64),
		} {
			if wantClimb(t, &table, x, other) == root {
				t.Errorf("%d: to the root along the other path %d", leaf, what)
			}
		}
	}
}

// P10.1, P10.2: without a table nodes are noughts; leaves, and what needs no node, are what they are.
func TestWithoutTable(t *testing.T) {
	leaves := digests(rand.New(rand.NewSource(24)), 256)
	none := api.Digest{}
	if got := merkle.Node(nil, leaves[0], leaves[1]); got != none {
		t.Errorf("a node: %x", got)
	}
	if got := wantRoot(t, nil, leaves[:1]); got != leaves[0] {
		t.Errorf("the root of one leaf: %x", got)
	}
	if got := wantClimb(t, nil, leaves[0], api.Path{}); got != leaves[0] {
		t.Errorf("with nothing beside: %x", got)
	}
	for h, n := range sizes()[1:] {
		if got := wantRoot(t, nil, leaves[:n]); got != none {
			t.Errorf("the root of %d leaves: %x", n, got)
		}
		for _, leaf := range []int{0, 1, n / 2, n - 1} {
			p := wantPath(t, nil, leaves[:n], leaf)
			want := append([]api.Digest{leaves[leaf^1]}, make([]api.Digest, h)...)
			if !samePath(p, api.Path{Leaf: leaf, Beside: want}) {
				t.Errorf("%d of %d leaves: %v", leaf, n, p)
			}
			if got := wantClimb(t, nil, leaves[leaf], p); got != none {
				t.Errorf("%d of %d leaves: one comes to %x", leaf, n, got)
			}
		}
	}
}

// R3: leaves, paths, their spare room, and the table are not changed.
func TestNothingChanges(t *testing.T) {
	table := sha.Table()
	chance := rand.New(rand.NewSource(25))
	room := digests(chance, 600)
	old := slices.Clone(room)
	for h, n := range sizes() {
		leaves := room[100 : 100+n]
		for _, leaf := range []int{-1, 0, n / 2, n - 1, n} {
			merkle.Root(&table, leaves)
			merkle.Path(&table, leaves, leaf)
			p := api.Path{Leaf: leaf, Beside: room[200 : 200+h]}
			merkle.Right(p)
			merkle.Climb(&table, room[0], p)
			if p.Leaf != leaf || len(p.Beside) != h {
				t.Errorf("%d, %d beside: a path was changed", leaf, h)
			}
		}
		merkle.Root(&table, room[:n+300])
		merkle.Climb(&table, room[0], api.Path{Leaf: 1, Beside: room[:9]})
		merkle.Node(&table, room[n], room[n+1])
		if !slices.Equal(room, old) {
			t.Fatalf("%d leaves: digests, or their spare room, were changed", n)
		}
	}
	if table != sha.Table() {
		t.Error("the table was changed")
	}
}

// R3: a path shares no memory with leaves, other paths, or what is kept.
func TestPathIsItsOwn(t *testing.T) {
	table := sha.Table()
	leaves := digests(rand.New(rand.NewSource(26)), 256)
	for _, n := range sizes()[1:] {
		for _, leaf := range []int{0, 1, n - 1} {
			own := slices.Clone(leaves[:n])
			one, two := wantPath(t, &table, own, leaf), wantPath(t, &table, own, leaf)
			neighbour := wantPath(t, &table, own, leaf^1)
			clear(one.Beside[:cap(one.Beside)])
			if !slices.Equal(own, leaves[:n]) {
				t.Errorf("%d of %d leaves: a path shares memory with leaves", leaf, n)
			}
			clear(own)
			wantRoot(t, &table, own)
			wantPath(t, &table, own, leaf)
			if !slices.Equal(two.Beside, besideBy(&table, leaves[:n], leaf)) {
				t.Errorf("%d of %d leaves: a path was changed", leaf, n)
			}
			if !slices.Equal(neighbour.Beside, besideBy(&table, leaves[:n], leaf^1)) {
				t.Errorf("%d of %d leaves: the other leaf's path was changed", leaf, n)
			}
			if !samePath(wantPath(t, &table, leaves[:n], leaf), two) {
				t.Errorf("%d of %d leaves: another answer", leaf, n)
			}
		}
	}
}

// R4: what is asked again is answered again, whatever was asked between.
func TestSameAgain(t *testing.T) {
	all := tables()
	leaves := digests(rand.New(rand.NewSource(27)), 64)
	root, p := wantRoot(t, &all[0], leaves), wantPath(t, &all[0], leaves, 40)
	wantRoot(t, &all[2], leaves)
	wantPath(t, &all[2], leaves[:32], 7)
	merkle.Root(nil, leaves)
	merkle.Path(&all[0], leaves, 64)
	merkle.Climb(&all[0], leaves[1], api.Path{Leaf: -1})
	if wantRoot(t, &all[0], leaves) != root || !samePath(wantPath(t, &all[0], leaves, 40), p) || wantClimb(t, &all[0], leaves[40], p) != root {
		t.Error("another answer")
	}
}
