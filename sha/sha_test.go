package sha_test

import (
	"bytes"
	"crypto/sha256"
	"encoding/hex"
	"math"
	"math/big"
	"math/rand"
	"reflect"
	"slices"
	"strings"
	"testing"

	"blockhouse/api"
	"blockhouse/sha"
)

const most = 1 << 56

// text is many bytes that do not repeat block by block.
func text(many int) []byte {
	b := make([]byte, many)
	for i := range b {
		b[i] = byte(i*i/7 + 31*i + many)
	}
	return b
}

// odd is a table that digests are not made by.
func odd(chance *rand.Rand) api.Rounds {
	var t api.Rounds
	for i := range t.First {
		t.First[i] = chance.Uint32()
	}
	for i := range t.Keys {
		t.Keys[i] = chance.Uint32()
	}
	return t
}

// tables are the right one, one of noughts, and others.
func tables() []api.Rounds {
	chance := rand.New(rand.NewSource(1))
	return []api.Rounds{sha.Table(), {}, odd(chance), odd(chance)}
}

func ror(x uint32, n int) uint32 { return x>>n | x<<(32-n) }

// blockBy is the chapter's definition, written out a second time.
func blockBy(t *api.Rounds, s [8]uint32, b []byte) [8]uint32 {
	w := make([]uint32, 64)
	for i := range w {
		if i < 16 {
			w[i] = uint32(new(big.Int).SetBytes(b[4*i : 4*i+4]).Uint64())
			continue
		}
		s0 := ror(w[i-15], 7) ^ ror(w[i-15], 18) ^ w[i-15]>>3
		s1 := ror(w[i-2], 17) ^ ror(w[i-2], 19) ^ w[i-2]>>10
		w[i] = s1 + w[i-7] + s0 + w[i-16]
	}
	now := s
	for i := range w {
		a, e := now[0], now[4]
		x := now[7] + (ror(e, 6) ^ ror(e, 11) ^ ror(e, 25)) + ((e & now[5]) ^ (^e & now[6])) + t.Keys[i] + w[i]
		u := (ror(a, 2) ^ ror(a, 13) ^ ror(a, 22)) + ((a & now[1]) ^ (a & now[2]) ^ (now[1] & now[2]))
		copy(now[1:], slices.Clone(now[:7]))
		now[4] += x
		now[0] = x + u
	}
	for i := range now {
		now[i] += s[i]
	}
	return now
}

// padBy is the chapter's definition: noughts are added till the length is right.
func padBy(n int) []byte {
	total := new(big.Int).Add(big.NewInt(int64(n)), big.NewInt(9))
	b := []byte{128}
	for new(big.Int).Mod(total, big.NewInt(64)).Sign() != 0 {
		total.Add(total, big.NewInt(1))
		b = append(b, 0)
	}
	size := new(big.Int).Mul(big.NewInt(8), big.NewInt(int64(n)))
	size.Mod(size, new(big.Int).Lsh(big.NewInt(1), 64))
	return append(b, size.FillBytes(make([]byte, 8))...)
}

// sumBy is the digest of a right hasher, by the chapter's definition.
func sumBy(t *api.Rounds, h api.Hasher) api.Digest {
	b := append(slices.Clone(h.Rest), padBy(h.Len)...)
	s := h.State
	for ; len(b) > 0; b = b[64:] {
		s = blockBy(t, s, b)
	}
	var d api.Digest
	for i := range d {
		d[i] = byte(s[i/4] >> (24 - i%4*8))
	}
	return d
}

func sameHasher(a, b api.Hasher) bool {
	return a.State == b.State && a.Len == b.Len && bytes.Equal(a.Rest, b.Rest)
}

func wantHasher(t *testing.T, what string, got, want api.Hasher) {
	t.Helper()
	if !sameHasher(got, want) {
		t.Errorf("%s: %v, not %v", what, got, want)
	}
}

func wantDigest(t *testing.T, what string, got api.Digest, want string) {
	t.Helper()
	if s := hex.EncodeToString(got[:]); s != strings.ReplaceAll(want, " ", "") {
		t.Errorf("%s: %s, not %s", what, s, want)
	}
}

// wrong are hashers that are not right.
func wrong(s [8]uint32) []api.Hasher {
	l := []api.Hasher{
		{Len: -1},
		{Len: -1, Rest: text(63)},
		{Len: -1, Rest: text(1)},
		{Len: -63, Rest: text(1)},
		{Len: -64},
		{Len: math.MinInt},
		{Len: most + 1, Rest: text(1)},
		{Len: most + 63, Rest: text(63)},
		{Len: most + 64},
		{Len: math.MaxInt, Rest: text(63)},
		{Len: 0, Rest: text(1)},
		{Len: 0, Rest: text(64)},
		{Len: 1},
		{Len: 1, Rest: text(2)},
		{Len: 1, Rest: text(65)},
		{Len: 63, Rest: text(62)},
		{Len: 63, Rest: text(64)},
		{Len: 64, Rest: text(64)},
		{Len: 64, Rest: text(1)},
		{Len: 65},
		{Len: 65, Rest: text(65)},
		{Len: 128, Rest: text(128)},
		{Len: most, Rest: text(64)},
		{Len: most - 1},
	}
	for i := range l {
		l[i].State = s
	}
	return l
}

// The chapter's examples, and the others of the standard.
func TestExamples(t *testing.T) {
	table := sha.Table()
	for _, x := range []struct{ text, want string }{
		{"", "e3b0c442 98fc1c14 9afbf4c8 996fb924 27ae41e4 649b934c a495991b 7852b855"},
		{"abc", "ba7816bf 8f01cfea 414140de 5dae2223 b00361a3 96177a9c b410ff61 f20015ad"},
		{"abcdbcdecdefdefgefghfghighijhijkijkljklmklmnlmnomnopnopq", "248d6a61 d20638b8 e5c02693 0c3e6039 a33ce459 64ff2167 f6ecedd4 19db06c1"},
		{strings.Repeat("a", 1000000), "cdc76e5c 9914fb92 81a1c7e2 84d73e67 f1809a48 a497200e 046d39cc c7112cd0"},
	} {
		wantDigest(t, x.text[:min(len(x.text), 60)], sha.Of(&table, []byte(x.text)), x.want)
	}
	if table.First[0] != 0x6a09e667 || table.Keys[0] != 0x428a2f98 || table.Keys[63] != 0xc67178f2 {
		t.Error(table)
	}
	if b := sha.Pad(0); !bytes.Equal(b, append([]byte{128}, make([]byte, 63)...)) {
		t.Error(b)
	}
	if b := sha.Pad(55); !bytes.Equal(b, []byte{128, 0, 0, 0, 0, 0, 0, 1, 184}) {
		t.Error(b)
	}
	if b := sha.Pad(56); len(b) != 72 {
		t.Error(b)
	}
}

// root is the first 32 bits behind the point of the power-th root of n: the root of n times 2^(32 power), by halving.
func root(n int64, power int64) uint32 {
	great := new(big.Int).Lsh(big.NewInt(n), uint(32*power))
	low, high := big.NewInt(0), new(big.Int).Lsh(big.NewInt(1), 48)
	for new(big.Int).Sub(high, low).Cmp(big.NewInt(1)) > 0 {
		middle := new(big.Int).Rsh(new(big.Int).Add(low, high), 1)
		if new(big.Int).Exp(middle, big.NewInt(power), nil).Cmp(great) <= 0 {
			low = middle
		} else {
			high = middle
		}
	}
	return uint32(low.Uint64())
}

// P2.1: the table, out of roots of the first primes; each one is handed out anew.
func TestTable(t *testing.T) {
	table := sha.Table()
	many := 0
	for n := int64(2); many < 64; n++ {
		if !big.NewInt(n).ProbablyPrime(10) {
			continue
		}
		if many < 8 && table.First[many] != root(n, 2) {
			t.Errorf("First[%d]: %x, not %x", many, table.First[many], root(n, 2))
		}
		if table.Keys[many] != root(n, 3) {
			t.Errorf("Keys[%d]: %x, not %x", many, table.Keys[many], root(n, 3))
		}
		many++
	}
	spoilt := sha.Table()
	spoilt.First[0], spoilt.Keys[0] = 1, 1
	if sha.Table() != table {
		t.Error("a table that was handed out changed the next one")
	}
}

// P2.1: a state by a block, with any table.
func TestBlock(t *testing.T) {
	chance := rand.New(rand.NewSource(2))
	for _, table := range tables() {
		kept := table
		for i := range 300 {
			var s [8]uint32
			var b [64]byte
			if i > 0 {
				chance.Read(b[:])
				for j := range s {
					s[j] = chance.Uint32()
				}
			}
			if got, want := sha.Block(&table, s, b), blockBy(&table, s, b[:]); got != want {
				t.Fatalf("%x by %x: %x, not %x", s, b, got, want)
			}
		}
		if table != kept {
			t.Error("the table was changed")
		}
	}
}

// P2.1: one bit of the block, of the state or of a key is seen in the new state.
func TestBlockEachBit(t *testing.T) {
	table := sha.Table()
	var b [64]byte
	copy(b[:], text(64))
	seen := map[[8]uint32]int{sha.Block(&table, table.First, b): 1}
	for i := range 512 {
		other := b
		other[i/8] ^= 1 << (i % 8)
		seen[sha.Block(&table, table.First, other)]++
	}
	for i := range 256 {
		s := table.First
		s[i/32] ^= 1 << (i % 32)
		seen[sha.Block(&table, s, b)]++
	}
	for i := range 64 {
		other := table
		other.Keys[i] ^= 1 << (i % 32)
		seen[sha.Block(&other, table.First, b)]++
	}
	if len(seen) != 1+512+256+64 {
		t.Errorf("only %d unlike states", len(seen))
	}
}

// P2.1: without a table the state stays.
func TestBlockWithoutTable(t *testing.T) {
	for _, s := range [][8]uint32{{}, {1, 2, 3, 4, 5, 6, 7, 8}, sha.Table().First} {
		var b [64]byte
		copy(b[:], text(64))
		if got := sha.Block(nil, s, b); got != s {
			t.Errorf("%x, not %x", got, s)
		}
	}
}

// P2.1: the padding of each length, of the edges the chapter names, and of lengths whose bits need more than 64 bits.
func TestPad(t *testing.T) {
	for n := range 700 {
		b := sha.Pad(n)
		if !bytes.Equal(b, padBy(n)) {
			t.Errorf("%d: %v, not %v", n, b, padBy(n))
		}
		if (n+len(b))%64 != 0 || len(b) > 72 {
			t.Errorf("%d: %d bytes", n, len(b))
		}
	}
	for _, x := range []struct{ n, many int }{{0, 64}, {1, 63}, {54, 10}, {55, 9}, {56, 72}, {57, 71}, {63, 65}, {64, 64}, {119, 9}, {120, 72}} {
		if b := sha.Pad(x.n); len(b) != x.many {
			t.Errorf("%d: %d bytes, not %d", x.n, len(b), x.many)
		}
	}
	for _, at := range []int{1 << 29, 1 << 32, most, 1 << 60, 1 << 61, 1 << 62} {
		for d := -70; d <= 70; d++ {
			if b := sha.Pad(at + d); !bytes.Equal(b, padBy(at+d)) {
				t.Errorf("%d: %v, not %v", at+d, b, padBy(at+d))
			}
		}
	}
	for d := range 70 {
		if n := math.MaxInt - d; !bytes.Equal(sha.Pad(n), padBy(n)) {
			t.Errorf("%d: %v, not %v", n, sha.Pad(n), padBy(n))
		}
	}
	if b := sha.Pad(1 << 61); !bytes.Equal(b, append([]byte{128}, make([]byte, 63)...)) {
		t.Errorf("of 2^64 bits the last 64: %v", b)
	}
	for _, n := range []int{-1, -8, -55, -64, math.MinInt} {
		if b := sha.Pad(n); len(b) != 0 {
			t.Errorf("%d: %v", n, b)
		}
	}
}

// P2.2: a new hasher.
func TestNew(t *testing.T) {
	for _, table := range tables() {
		wantHasher(t, "New", sha.New(&table), api.Hasher{State: table.First})
	}
	wantHasher(t, "New without a table", sha.New(nil), api.Hasher{})
}

// P2.2: each 64 bytes of Rest and b are a block; what is left is Rest; Len is so much more.
func TestWrite(t *testing.T) {
	for _, table := range tables() {
		for _, had := range []int{0, 1, 31, 63, 64, 65, 100, 127, 128} {
			for _, many := range []int{0, 1, 27, 28, 29, 62, 63, 64, 65, 127, 128, 129, 191, 192, 193, 300} {
				all := text(had + many)
				want := api.Hasher{State: table.First, Len: len(all)}
				left := all
				for ; len(left) >= 64; left = left[64:] {
					want.State = blockBy(&table, want.State, left)
				}
				want.Rest = left
				h := sha.Write(&table, sha.New(&table), all[:had])
				wantHasher(t, "Write", sha.Write(&table, h, all[had:]), want)
			}
		}
	}
}

// P2.2: the state goes on from whatever it is, also from one that no New told.
func TestWriteAnyState(t *testing.T) {
	table := sha.Table()
	all := text(67)
	h := api.Hasher{State: [8]uint32{1, 2, 3, 4, 5, 6, 7, 8}, Rest: all[:10], Len: 64000 + 10}
	want := api.Hasher{State: blockBy(&table, h.State, all), Rest: all[64:], Len: 64000 + 67}
	wantHasher(t, "Write", sha.Write(&table, h, all[10:]), want)
	if d := sha.Sum(&table, h); d != sumBy(&table, h) {
		t.Errorf("%x, not %x", d, sumBy(&table, h))
	}
	if d := sha.Sum(&table, api.Hasher{}); d != sumBy(&table, api.Hasher{}) {
		t.Errorf("of a hasher of noughts: %x", d)
	}
}

// P2.2: a hasher that is not right is told again as it is, and its digest is noughts.
func TestWrongHashers(t *testing.T) {
	for _, table := range tables() {
		for _, h := range wrong(sha.Table().First) {
			for _, b := range [][]byte{nil, {}, text(1), text(63), text(64), text(200)} {
				wantHasher(t, "Write", sha.Write(&table, h, b), h)
			}
			if d := sha.Sum(&table, h); d != (api.Digest{}) {
				t.Errorf("%v: %x", h, d)
			}
		}
	}
}

// P2.2: without a table Write tells the hasher again, right or not, and Sum and Of tell noughts.
func TestWithoutTable(t *testing.T) {
	table := sha.Table()
	right := []api.Hasher{{}, sha.New(&table), sha.Write(&table, sha.New(&table), text(70))}
	for _, h := range append(right, wrong(table.First)...) {
		for _, b := range [][]byte{nil, text(1), text(64), text(200)} {
			wantHasher(t, "Write", sha.Write(nil, h, b), h)
		}
		if d := sha.Sum(nil, h); d != (api.Digest{}) {
			t.Errorf("%v: %x", h, d)
		}
	}
	for _, b := range [][]byte{nil, []byte("abc"), text(64)} {
		if d := sha.Of(nil, b); d != (api.Digest{}) {
			t.Errorf("%v: %x", b, d)
		}
	}
}

// Limits: 2^56 bytes; a hasher of them is right still, one past them no more.
func TestMost(t *testing.T) {
	table := sha.Table()
	h := api.Hasher{State: table.First, Rest: text(63), Len: most - 1}
	if d := sha.Sum(&table, h); d != sumBy(&table, h) {
		t.Errorf("%x, not %x", d, sumBy(&table, h))
	}
	last := []byte{200}
	full := sha.Write(&table, h, last)
	wantHasher(t, "up to 2^56", full, api.Hasher{State: blockBy(&table, h.State, append(text(63), last...)), Len: most})
	if d := sha.Sum(&table, full); d == (api.Digest{}) || d != sumBy(&table, full) {
		t.Errorf("%x, not %x", d, sumBy(&table, full))
	}
	past := sha.Write(&table, full, last)
	wantHasher(t, "past 2^56", past, api.Hasher{State: full.State, Rest: last, Len: most + 1})
	if d := sha.Sum(&table, past); d != (api.Digest{}) {
		t.Errorf("%x", d)
	}
	wantHasher(t, "written to past 2^56", sha.Write(&table, past, text(63)), past)
}

// P2.2: digests at once, of each length around blocks, are those of the standard.
func TestOf(t *testing.T) {
	table := sha.Table()
	for many := range 400 {
		b := text(many)
		if d := sha.Of(&table, b); d != api.Digest(sha256.Sum256(b)) {
			t.Errorf("of %d bytes: %x", many, d)
		}
	}
	chance := rand.New(rand.NewSource(3))
	for range 200 {
		b := make([]byte, chance.Intn(5000))
		chance.Read(b)
		if d := sha.Of(&table, b); d != api.Digest(sha256.Sum256(b)) {
			t.Errorf("of %d bytes: %x", len(b), d)
		}
	}
	if sha.Of(&table, nil) != sha.Of(&table, []byte{}) {
		t.Error("an empty text and none are not the same")
	}
}

// P2.2: digests by other tables.
func TestOtherTables(t *testing.T) {
	for _, table := range tables() {
		for _, many := range []int{0, 1, 54, 55, 56, 57, 63, 64, 65, 119, 120, 128, 200} {
			b := text(many)
			want := api.Hasher{State: table.First, Len: many}
			left := b
			for ; len(left) >= 64; left = left[64:] {
				want.State = blockBy(&table, want.State, left)
			}
			want.Rest = left
			if d := sha.Of(&table, b); d != sumBy(&table, want) {
				t.Errorf("of %d bytes: %x", many, d)
			}
		}
	}
}

// P2.3: whichever two pieces, the hasher and its digest are the same; likewise byte by byte.
func TestTwoPieces(t *testing.T) {
	table := sha.Table()
	for _, many := range []int{0, 1, 55, 56, 63, 64, 65, 128, 200} {
		b := text(many)
		want := sha.Write(&table, sha.New(&table), b)
		for at := range many + 1 {
			h := sha.Write(&table, sha.Write(&table, sha.New(&table), b[:at]), b[at:])
			wantHasher(t, "two pieces", h, want)
			if d := sha.Sum(&table, h); d != api.Digest(sha256.Sum256(b)) {
				t.Errorf("%d bytes, parted at %d: %x", many, at, d)
			}
		}
		h := sha.New(&table)
		for i := range b {
			h = sha.Write(&table, h, b[i:i+1])
			if d := sha.Sum(&table, h); d != api.Digest(sha256.Sum256(b[:i+1])) {
				t.Errorf("the first %d bytes: %x", i+1, d)
			}
		}
		wantHasher(t, "byte by byte", h, want)
	}
}

// P2.3: many pieces of all lengths, also of none.
func TestManyPieces(t *testing.T) {
	chance := rand.New(rand.NewSource(4))
	for _, table := range tables() {
		for range 200 {
			b := make([]byte, chance.Intn(1500))
			chance.Read(b)
			h := sha.New(&table)
			for left := b; len(left) > 0; {
				n := min(len(left), chance.Intn([]int{2, 65, 130, 400}[chance.Intn(4)]))
				h = sha.Write(&table, h, left[:n])
				left = left[n:]
			}
			if sha.Sum(&table, h) != sha.Of(&table, b) {
				t.Fatalf("%d bytes by pieces have another digest", len(b))
			}
		}
	}
}

// P2.3: a hasher is plain data: it is gone on from twice, in turns, and summed in between.
func TestTwice(t *testing.T) {
	table := sha.Table()
	for _, had := range []int{0, 1, 10, 55, 63, 64, 70, 127} {
		h := sha.Write(&table, sha.New(&table), text(had))
		kept := api.Hasher{State: h.State, Rest: slices.Clone(h.Rest), Len: h.Len}
		one, two := sha.Write(&table, h, []byte("one")), sha.Write(&table, h, []byte("another"))
		sha.Sum(&table, h)
		one, two = sha.Write(&table, one, text(64)), sha.Write(&table, two, text(65))
		sha.Sum(&table, one)
		wantHasher(t, "gone on from", h, kept)
		for _, x := range []struct {
			h    api.Hasher
			want []byte
		}{
			{h, text(had)},
			{one, slices.Concat(text(had), []byte("one"), text(64))},
			{two, slices.Concat(text(had), []byte("another"), text(65))},
		} {
			for range 2 {
				if d := sha.Sum(&table, x.h); d != api.Digest(sha256.Sum256(x.want)) {
					t.Errorf("%d bytes, gone on from: %x", had, d)
				}
			}
		}
	}
}

// R3: what is handed in is not changed, nor its spare room, and not kept; what is told has memory of its own.
func TestOwnMemory(t *testing.T) {
	table := sha.Table()
	kept := table
	for _, h := range []api.Hasher{
		{State: table.First, Len: 10},
		{State: table.First, Len: 64 + 63},
		{State: table.First, Len: most + 10},
		{State: table.First, Len: -10},
	} {
		for _, given := range []*api.Rounds{&table, nil} {
			for _, many := range []int{0, 1, 5, 54, 64, 120} {
				room, b := text(200), text(many)
				h.Rest = room[:((h.Len%64)+64)%64]
				got := sha.Write(given, h, b)
				want := api.Hasher{State: got.State, Rest: slices.Clone(got.Rest), Len: got.Len}
				sha.Sum(given, h)
				sha.Sum(given, got)
				if !bytes.Equal(room, text(200)) || !bytes.Equal(b, text(many)) {
					t.Error("what was handed in, or its spare room, was changed")
				}
				clear(room)
				clear(b)
				wantHasher(t, "told", got, want)
				room = text(200)
				h.Rest = room[:len(h.Rest)]
				got = sha.Write(given, h, b)
				clear(got.Rest[:cap(got.Rest)])
				if !bytes.Equal(room, text(200)) {
					t.Error("Rest is shared with the hasher that was handed in")
				}
			}
		}
	}
	if table != kept {
		t.Error("the table was changed")
	}
	one := sha.Pad(3)
	clear(one)
	if !bytes.Equal(sha.Pad(3), padBy(3)) {
		t.Error("two paddings share memory")
	}
}

// R4: the same arguments have the same answers, to the last field.
func TestSameAgain(t *testing.T) {
	table := sha.Table()
	h := sha.Write(&table, sha.New(&table), text(100))
	if !reflect.DeepEqual(h, sha.Write(&table, sha.New(&table), text(100))) {
		t.Error(h)
	}
	if sha.Sum(&table, h) != sha.Sum(&table, h) || sha.Of(&table, text(100)) != sha.Sum(&table, h) {
		t.Error("two digests of one text")
	}
}
