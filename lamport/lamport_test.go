package lamport_test

import (
	"bytes"
	"crypto/hmac"
	"crypto/sha256"
	"encoding/hex"
	"math"
	"math/rand"
	"slices"
	"testing"

	"blockhouse/api"
	"blockhouse/lamport"
	"blockhouse/mac"
	"blockhouse/sha"
)

const textBytes = 16900 // of a key's text

// digests are those of the bits of a digest.
type digests = [api.Bits]api.Digest

// joined is a new list of all bytes, one behind the other.
func joined(parts ...[]byte) []byte {
	return bytes.Join(parts, nil)
}

// odd is a table that digests are not made by.
func odd(chance *rand.Rand) api.Rounds {
	var t api.Rounds
	for i := range t.First {
		t.First[i] = chance.Uint32()
	}
	for i := range t.Keys {
		t.Keys[i] = chance.Uint32()
	}
	return t
}

// tables are the right one, one of noughts, and others.
func tables() []api.Rounds {
	chance := rand.New(rand.NewSource(1))
	return []api.Rounds{sha.Table(), {}, odd(chance), odd(chance)}
}

// bytes32 are those of chance.
func bytes32(chance *rand.Rand) [32]byte {
	var b [32]byte
	chance.Read(b[:])
	return b
}

// digestsOf are those of chance.
func digestsOf(chance *rand.Rand) digests {
	var l digests
	for i := range l {
		l[i] = bytes32(chance)
	}
	return l
}

// signatureOf is one that nobody has signed.
func signatureOf(chance *rand.Rand) api.Lamport {
	s := api.Lamport{Others: digestsOf(chance)}
	for i := range s.Secrets {
		s.Secrets[i] = bytes32(chance)
	}
	return s
}

// rising are the bytes from 1 to 32.
func rising() [32]byte {
	var b [32]byte
	for i := range b {
		b[i] = byte(i + 1)
	}
	return b
}

// filled is a digest of 32 of the same byte.
func filled(c byte) api.Digest {
	return api.Digest(bytes.Repeat([]byte{c}, 32))
}

// turned is a digest with one bit turned.
func turned(d api.Digest, i int) api.Digest {
	d[i/8] ^= 128 >> (i % 8)
	return d
}

// seeds are some that are unlike.
func seeds() [][32]byte {
	return [][32]byte{{}, {1, 2, 3}, rising(), filled(255)}
}

// leaves are some whose varints have one byte, two, three, and the most.
func leaves() []int {
	return []int{0, 1, 127, 128, 255, 16383, 16384, math.MaxInt}
}

// signable are digests of noughts, of ones, and others.
func signable() []api.Digest {
	chance := rand.New(rand.NewSource(2))
	return []api.Digest{{}, filled(255), filled(170), turned(api.Digest{}, 0), turned(filled(255), 255), bytes32(chance), sha256.Sum256([]byte("text"))}
}

// bitOf is the bit of a digest, by division.
func bitOf(d api.Digest, i int) int {
	weights := [8]byte{128, 64, 32, 16, 8, 4, 2, 1}
	return int(d[i/8] / weights[i%8] % 2)
}

// varint is the chapter's of layer 1, by division.
func varint(n int) []byte {
	if n < 128 {
		return []byte{byte(n)}
	}
	return append([]byte{byte(n%128) + 128}, varint(n/128)...)
}

// textBy is that of a tag and parts, written out a second time.
func textBy(tag byte, parts ...[]byte) []byte {
	b := joined([]byte{75, tag}, varint(len(parts)))
	for _, p := range parts {
		b = append(append(b, varint(len(p))...), p...)
	}
	return b
}

// secretBy is the chapter's definition by the library's HMAC: of numbers from 0 on, by the right table.
func secretBy(seed [32]byte, leaf, bit, val int) [32]byte {
	h := hmac.New(sha256.New, seed[:])
	h.Write(textBy(1, varint(leaf), varint(bit), varint(val)))
	return [32]byte(h.Sum(nil))
}

// halfBy is the chapter's definition, written out a second time.
func halfBy(secret [32]byte) api.Digest {
	return sha256.Sum256(textBy(2, secret[:]))
}

// keyTextBy is the chapter's definition, of halves by their bit and value.
func keyTextBy(half func(bit, val int) api.Digest) []byte {
	var parts [][]byte
	for bit := range 256 {
		zero, one := half(bit, 0), half(bit, 1)
		parts = append(parts, zero[:], one[:])
	}
	return textBy(3, parts...)
}

// keyBy is the chapter's definition, by the right table.
func keyBy(seed [32]byte, leaf int) api.Digest {
	return sha256.Sum256(keyTextBy(func(bit, val int) api.Digest { return halfBy(secretBy(seed, leaf, bit, val)) }))
}

// picked tells, of a bit and a value, the one of the two lists that has it.
func picked(d api.Digest, halves, others *digests) func(bit, val int) api.Digest {
	return func(bit, val int) api.Digest {
		if bitOf(d, bit) == val {
			return halves[bit]
		}
		return others[bit]
	}
}

// openBy is the chapter's definition, by any table.
func openBy(t *api.Rounds, d api.Digest, s api.Lamport) api.Digest {
	var halves digests
	for i, secret := range s.Secrets {
		halves[i] = sha.Of(t, textBy(2, secret[:]))
	}
	return sha.Of(t, keyTextBy(picked(d, &halves, &s.Others)))
}

func wantBytes(t *testing.T, what string, got [32]byte, want string) {
	t.Helper()
	if hex.EncodeToString(got[:]) != want {
		t.Errorf("%s: %x, not %s", what, got, want)
	}
}

// The chapter's examples.
func TestExamples(t *testing.T) {
	d := api.Digest{128}
	if a, b := lamport.Bit(d, 0), lamport.Bit(d, 1); a != 1 || b != 0 {
		t.Error(a, b)
	}
	b := lamport.Text(d, digests{}, digests{})
	if !slices.Equal(b[:4], []byte{75, 3, 128, 4}) || len(b) != textBytes {
		t.Error(b[:4], len(b))
	}
	if !slices.Equal(b[4:], bytes.Repeat(append([]byte{32}, make([]byte, 32)...), 512)) {
		t.Error("no 512 blobs of 32 bytes each")
	}
}

// P9.1: the bits at the ends of bytes and of the digest, of digests that have that bit alone, and that alone not.
func TestBit(t *testing.T) {
	first, second, last := api.Digest{128}, api.Digest{1, 128}, api.Digest{31: 1}
	for _, x := range []struct {
		d    api.Digest
		bits []int
	}{{first, []int{0}}, {second, []int{7, 8}}, {last, []int{255}}, {api.Digest{64, 2}, []int{1, 14}}} {
		for i := range 256 {
			if got := lamport.Bit(x.d, i); (got == 1) != slices.Contains(x.bits, i) || got>>1 != 0 {
				t.Errorf("%x: the bit %d is %d", x.d, i, got)
			}
		}
	}
	for one := range 256 {
		for i := range 256 {
			want := 0
			if i == one {
				want = 1
			}
			if got := lamport.Bit(turned(api.Digest{}, one), i); got != want {
				t.Errorf("the bit %d alone: the bit %d is %d", one, i, got)
			}
			if got := lamport.Bit(turned(filled(255), one), i); got != 1-want {
				t.Errorf("all but the bit %d: the bit %d is %d", one, i, got)
			}
		}
	}
}

// P9.1: of each byte that may be, its digits.
func TestBitEveryByte(t *testing.T) {
	for c := range 256 {
		d := filled(byte(c))
		for _, i := range []int{0, 1, 2, 3, 4, 5, 6, 7, 8, 127, 128, 248, 255} {
			if got := lamport.Bit(d, i); got != bitOf(d, i) {
				t.Errorf("bytes %d: the bit %d is %d", c, i, got)
			}
		}
	}
}

// P9.1: 0 where there is no bit, near and far; also below 0, where the bit 0 is 1.
func TestBitOutside(t *testing.T) {
	for _, d := range signable() {
		for _, i := range []int{-1, -7, -8, -255, -256, -257, 256, 257, 263, 264, 511, 512, 1 << 20, math.MinInt32, math.MaxInt32, 1 << 32, math.MinInt, math.MaxInt} {
			if got := lamport.Bit(d, i); got != 0 {
				t.Errorf("%x: the bit %d is %d", d, i, got)
			}
		}
	}
}

// P9.1: secrets, halves and keys worked out elsewhere, by Python's library.
func TestKnown(t *testing.T) {
	table := sha.Table()
	for _, x := range []struct {
		seed           [32]byte
		leaf, bit, val int
		want           string
	}{
		{[32]byte{}, 0, 0, 0, "ed9fa24c285576666eae3cb870fd9bb268713b9b56e7903495666a2d25ec96d3"},
		{[32]byte{}, 0, 0, 1, "c09bb8d8ca205e78243fa4132ea873c795d21e8046664cbbbfcb3b14c3396fca"},
		{[32]byte{}, 4, 7, 1, "9026b88d6001e397e7c62e48b803fc800602948c5fa259c06d00ed6a044c2349"},
		{rising(), 4, 7, 1, "ad77732ece8242d7e1cee7242dcdfa5c249bb04543565b9ada0c856650753307"},
		{rising(), 200, 255, 0, "9e82cacb5f59399cfec608777dfb9fc5d3825a0eb59b1c9ce781cdaccd6f415a"},
		{rising(), math.MaxInt64, 255, 1, "5e59bf50171c35d12d9ff67b480e5d52e0436b500709989b08de8c8317aaea6a"},
	} {
		wantBytes(t, "a secret", lamport.Secret(&table, x.seed, x.leaf, x.bit, x.val), x.want)
	}
	wantBytes(t, "a half", lamport.Half(&table, [32]byte{}), "bf654ee94b9e4e29228ec13519bcbe6175cd7497aa9e5851c1b65aae6df0792c")
	wantBytes(t, "a half", lamport.Half(&table, rising()), "4730791e9c58ad818898c6685dd9f1d2fee7a82d08f14d00feeb559f57c7decb")
	wantBytes(t, "a key", lamport.Key(&table, [32]byte{}, 0), "6a1a8035b71e1c7cbd54ae03d65cda86d41abdedce4e7207086e8b502066f1c2")
	wantBytes(t, "a key", lamport.Key(&table, rising(), 1), "cee24cf4324d4b3ba774eeaec6ebf3736c34ecca7ac1e515d6587c2b084a2f4d")
	wantBytes(t, "a key", lamport.Key(&table, rising(), 200), "ccb1a0f8240ff2f0c123bf066c57212f28fc1d60265fbc927ece7d13e1176b4e")
	wantBytes(t, "a key", lamport.Key(&table, rising(), math.MaxInt64), "879c6ad3dcae1ac20a1a75590df6f8343f814c23afb3cc8064357f9bb7379baf")
	none := sha256.Sum256(lamport.Text(api.Digest{}, digests{}, digests{}))
	wantBytes(t, "a key of noughts", none, "f052e23863090d3f1112f162d9b1cf33f131c7d6e98f3ea6d47a9b72140cccdc")
}

// P9.1: secrets by their definition, of numbers around a varint's digits.
func TestSecret(t *testing.T) {
	table := sha.Table()
	for _, seed := range seeds() {
		for _, leaf := range leaves() {
			for _, bit := range []int{0, 1, 7, 8, 127, 128, 254, 255} {
				for _, val := range []int{0, 1} {
					if got := lamport.Secret(&table, seed, leaf, bit, val); got != secretBy(seed, leaf, bit, val) {
						t.Errorf("leaf %d, bit %d, value %d: %x", leaf, bit, val, got)
					}
				}
			}
		}
	}
}

// P9.1: bits past the last one, and values above 1, are written down as they are.
func TestSecretAbove(t *testing.T) {
	table := sha.Table()
	seen := map[[32]byte]int{}
	above := []int{2, 3, 127, 128, 255, 256, 257, 16384, math.MaxInt32, 1 << 32, math.MaxInt}
	for _, n := range above {
		bit, val := lamport.Secret(&table, rising(), 5, n, 1), lamport.Secret(&table, rising(), 5, 256, n)
		if bit != secretBy(rising(), 5, n, 1) {
			t.Errorf("the bit %d: %x", n, bit)
		}
		if val != secretBy(rising(), 5, 256, n) {
			t.Errorf("the value %d: %x", n, val)
		}
		seen[bit]++
		seen[val]++
	}
	if len(seen) != 2*len(above) {
		t.Errorf("%d secrets, not %d", len(seen), 2*len(above))
	}
}

// P9.1: what is below 0 counts as 0, each alone, and all of them.
func TestSecretBelow(t *testing.T) {
	table := sha.Table()
	seed := rising()
	for _, n := range []int{-1, -2, -127, -128, -129, -256, math.MinInt32, math.MinInt} {
		for _, x := range []struct{ got, want [32]byte }{
			{lamport.Secret(&table, seed, n, 9, 1), secretBy(seed, 0, 9, 1)},
			{lamport.Secret(&table, seed, 9, n, 1), secretBy(seed, 9, 0, 1)},
			{lamport.Secret(&table, seed, 9, 8, n), secretBy(seed, 9, 8, 0)},
			{lamport.Secret(&table, seed, n, n, n), secretBy(seed, 0, 0, 0)},
		} {
			if x.got != x.want {
				t.Errorf("%d: %x, not %x", n, x.got, x.want)
			}
		}
		if lamport.Key(&table, seed, n) != keyBy(seed, 0) {
			t.Errorf("the key of the leaf %d", n)
		}
		for _, d := range signable() {
			if lamport.Sign(&table, seed, n, d) != lamport.Sign(&table, seed, 0, d) {
				t.Errorf("a signature of the leaf %d", n)
			}
		}
	}
}

// P9.1: secrets of unlike seeds, leaves, bits and values are unlike, and so are their halves.
func TestSecretsAreApart(t *testing.T) {
	table := sha.Table()
	secrets, halves := map[[32]byte]int{}, map[api.Digest]int{}
	many := 0
	add := func(seed [32]byte, leaf, bit, val int) {
		many++
		secret := lamport.Secret(&table, seed, leaf, bit, val)
		secrets[secret]++
		halves[lamport.Half(&table, secret)]++
	}
	for bit := range 256 {
		for val := range 2 {
			for _, leaf := range leaves() {
				add(rising(), leaf, bit, val)
			}
		}
		add(turned(rising(), bit), 0, 0, 0)
	}
	for leaf := 2; leaf < 127; leaf++ {
		add(rising(), leaf, 0, 0)
	}
	if len(secrets) != many || len(halves) != many {
		t.Errorf("%d secrets, %d halves, not %d", len(secrets), len(halves), many)
	}
}

// P9.1: the half of a secret, in which each bit of it counts.
func TestHalf(t *testing.T) {
	table := sha.Table()
	seen := map[api.Digest]int{}
	for _, secret := range append(seeds(), secretBy(rising(), 3, 4, 1)) {
		if got := lamport.Half(&table, secret); got != halfBy(secret) {
			t.Errorf("%x: %x", secret, got)
		}
		for i := range 256 {
			other := turned(secret, i)
			got := lamport.Half(&table, other)
			if got != halfBy(other) || got == lamport.Half(&table, secret) {
				t.Errorf("%x, its bit %d turned: %x", secret, i, got)
			}
			seen[got]++
		}
	}
	if len(seen) != 5*256 {
		t.Errorf("%d halves, not %d", len(seen), 5*256)
	}
}

// P9.1: a key is that of the halves of all secrets, the value 0 of each bit ahead of 1; of unlike seeds and leaves they are unlike.
func TestKey(t *testing.T) {
	table := sha.Table()
	seen := map[api.Digest]int{}
	for _, seed := range seeds() {
		for _, leaf := range leaves() {
			got := lamport.Key(&table, seed, leaf)
			var parts [][]byte
			for bit := range 256 {
				for val := range 2 {
					half := lamport.Half(&table, lamport.Secret(&table, seed, leaf, bit, val))
					parts = append(parts, half[:])
				}
			}
			if got != keyBy(seed, leaf) || got != mac.Tagged(&table, api.TagKey, parts...) {
				t.Errorf("leaf %d: %x", leaf, got)
			}
			seen[got]++
		}
	}
	if len(seen) != len(seeds())*len(leaves()) {
		t.Errorf("%d keys, not %d", len(seen), len(seeds())*len(leaves()))
	}
}

// P9.1, P9.2: all digests are by the table that is handed in.
func TestOtherTables(t *testing.T) {
	all := tables()
	d, seed := filled(170), rising()
	secrets, keys := map[[32]byte]int{}, map[api.Digest]int{}
	for i := range all {
		table := &all[i]
		secret := lamport.Secret(table, seed, 200, 3, 1)
		if secret != mac.Mac(table, seed[:], textBy(1, []byte{200, 1}, []byte{3}, []byte{1})) {
			t.Errorf("table %d: a secret", i)
		}
		if lamport.Half(table, secret) != sha.Of(table, textBy(2, secret[:])) {
			t.Errorf("table %d: a half", i)
		}
		half := func(bit, val int) api.Digest {
			return lamport.Half(table, lamport.Secret(table, seed, 200, bit, val))
		}
		key := lamport.Key(table, seed, 200)
		if key != sha.Of(table, keyTextBy(half)) {
			t.Errorf("table %d: a key", i)
		}
		s := lamport.Sign(table, seed, 200, d)
		for bit := range 256 {
			val := bitOf(d, bit)
			if s.Secrets[bit] != lamport.Secret(table, seed, 200, bit, val) || s.Others[bit] != half(bit, 1-val) {
				t.Errorf("table %d: the bit %d of a signature", i, bit)
			}
		}
		if lamport.Open(table, d, s) != key {
			t.Errorf("table %d: what was signed", i)
		}
		secrets[secret]++
		keys[key]++
	}
	if len(secrets) != len(all) || len(keys) != len(all) {
		t.Errorf("%d secrets, %d keys, not %d", len(secrets), len(keys), len(all))
	}
}

// P9.1, P9.2: noughts without a table; a key's text needs none.
func TestWithoutTable(t *testing.T) {
	chance := rand.New(rand.NewSource(3))
	for _, seed := range seeds() {
		if got := lamport.Secret(nil, seed, 200, 3, 1); got != ([32]byte{}) {
			t.Errorf("a secret: %x", got)
		}
		if got := lamport.Half(nil, seed); got != (api.Digest{}) {
			t.Errorf("a half: %x", got)
		}
		for _, leaf := range []int{-1, 0, 200} {
			if got := lamport.Key(nil, seed, leaf); got != (api.Digest{}) {
				t.Errorf("a key: %x", got)
			}
		}
		for _, d := range signable() {
			if got := lamport.Sign(nil, seed, 200, d); got != (api.Lamport{}) {
				t.Error("a signature")
			}
			if got := lamport.Open(nil, d, signatureOf(chance)); got != (api.Digest{}) {
				t.Errorf("what a signature tells: %x", got)
			}
		}
	}
}

// P9.2: of each bit which secret is told, and which half.
func TestSign(t *testing.T) {
	table := sha.Table()
	for _, seed := range seeds() {
		for _, leaf := range []int{0, 4, 200, math.MaxInt} {
			for _, d := range signable() {
				s := lamport.Sign(&table, seed, leaf, d)
				for bit := range 256 {
					val := bitOf(d, bit)
					if s.Secrets[bit] != secretBy(seed, leaf, bit, val) {
						t.Fatalf("%x, leaf %d: the secret of the bit %d", d, leaf, bit)
					}
					if s.Others[bit] != halfBy(secretBy(seed, leaf, bit, 1-val)) {
						t.Fatalf("%x, leaf %d: the other half of the bit %d", d, leaf, bit)
					}
				}
			}
		}
	}
}

// P9.2: two signatures by one leaf differ in the bits in which the digests do, and in these alone.
func TestSignOneBitTurned(t *testing.T) {
	table := sha.Table()
	d := sha256.Sum256([]byte("text"))
	first := lamport.Sign(&table, rising(), 4, d)
	for _, i := range []int{0, 1, 7, 8, 100, 254, 255} {
		s := lamport.Sign(&table, rising(), 4, turned(d, i))
		for bit := range 256 {
			if (s.Secrets[bit] != first.Secrets[bit]) != (bit == i) || (s.Others[bit] != first.Others[bit]) != (bit == i) {
				t.Errorf("the bit %d turned: the bit %d", i, bit)
			}
		}
	}
}

// P9.3: no secret of the other value is told, neither at its bit nor elsewhere.
func TestSignTellsNoOtherSecret(t *testing.T) {
	table := sha.Table()
	for _, seed := range seeds() {
		for _, d := range signable() {
			s := lamport.Sign(&table, seed, 4, d)
			told := map[[32]byte]int{}
			for i := range s.Secrets {
				told[s.Secrets[i]]++
				told[s.Others[i]]++
			}
			for bit := range 256 {
				val := bitOf(d, bit)
				if told[lamport.Secret(&table, seed, 4, bit, val)] != 1 || told[lamport.Secret(&table, seed, 4, bit, 1-val)] != 0 {
					t.Errorf("%x: the secrets of the bit %d", d, bit)
				}
			}
			if len(told) != 512 {
				t.Errorf("%x: %d things told, not 512", d, len(told))
			}
		}
	}
}

// P9.2: a key's text, of digests of noughts, of ones, and others: of each bit where its two halves stand.
func TestText(t *testing.T) {
	chance := rand.New(rand.NewSource(4))
	for _, d := range signable() {
		halves, others := digestsOf(chance), digestsOf(chance)
		got := lamport.Text(d, halves, others)
		if len(got) != textBytes || !slices.Equal(got[:4], []byte{75, 3, 128, 4}) {
			t.Fatalf("%d bytes: %v", len(got), got[:4])
		}
		for bit := range 256 {
			first, second := got[4+66*bit:][:33], got[4+66*bit+33:][:33]
			if bitOf(d, bit) == 1 {
				first, second = second, first
			}
			if first[0] != 32 || !slices.Equal(first[1:], halves[bit][:]) {
				t.Errorf("%x, the bit %d: its half is %x", d, bit, first)
			}
			if second[0] != 32 || !slices.Equal(second[1:], others[bit][:]) {
				t.Errorf("%x, the bit %d: its other half is %x", d, bit, second)
			}
		}
		if !slices.Equal(got, keyTextBy(picked(d, &halves, &others))) {
			t.Errorf("%x: not as the chapter writes it", d)
		}
	}
}

// P9.2: one bit turned: the two halves of that bit change places, no others.
func TestTextOneBitTurned(t *testing.T) {
	chance := rand.New(rand.NewSource(5))
	halves, others := digestsOf(chance), digestsOf(chance)
	for _, d := range []api.Digest{{}, filled(255), bytes32(chance)} {
		whole := lamport.Text(d, halves, others)
		for i := range 256 {
			want := slices.Clone(whole)
			at := 4 + 66*i
			copy(want[at:], whole[at+33:at+66])
			copy(want[at+33:], whole[at:at+33])
			if !slices.Equal(lamport.Text(turned(d, i), halves, others), want) {
				t.Errorf("%x, its bit %d turned", d, i)
			}
		}
	}
}

// P9.2: all bits turned, and the lists in each other's place: the same text.
func TestTextTurnedAround(t *testing.T) {
	chance := rand.New(rand.NewSource(6))
	halves, others := digestsOf(chance), digestsOf(chance)
	for _, d := range signable() {
		around := d
		for i := range around {
			around[i] ^= 255
		}
		if !slices.Equal(lamport.Text(d, halves, others), lamport.Text(around, others, halves)) {
			t.Errorf("%x", d)
		}
	}
}

// P9.3: Open of what was signed is the key.
func TestOpenOfSigned(t *testing.T) {
	table := sha.Table()
	for _, seed := range seeds() {
		for _, leaf := range []int{-1, 0, 1, 127, 128, 200, math.MaxInt} {
			key := lamport.Key(&table, seed, leaf)
			for _, d := range signable() {
				if got := lamport.Open(&table, d, lamport.Sign(&table, seed, leaf, d)); got != key {
					t.Errorf("%x, leaf %d: %x, not %x", d, leaf, got, key)
				}
			}
		}
	}
}

// P9.2: what a signature tells that nobody has signed, and one of noughts, by any table.
func TestOpenOfOthers(t *testing.T) {
	chance := rand.New(rand.NewSource(7))
	all := tables()
	for i := range all {
		for _, d := range signable() {
			for _, s := range []api.Lamport{{}, signatureOf(chance)} {
				got := lamport.Open(&all[i], d, s)
				if got != openBy(&all[i], d, s) {
					t.Errorf("table %d, %x: %x", i, d, got)
				}
			}
		}
	}
}

// P9.2: Open is the digest of Text, of the halves of the secrets.
func TestOpenIsOfText(t *testing.T) {
	chance := rand.New(rand.NewSource(8))
	table := sha.Table()
	for _, d := range signable() {
		s := signatureOf(chance)
		var halves digests
		for i := range halves {
			halves[i] = lamport.Half(&table, s.Secrets[i])
		}
		if lamport.Open(&table, d, s) != sha256.Sum256(lamport.Text(d, halves, s.Others)) {
			t.Errorf("%x", d)
		}
	}
}

// P9.3: one secret changed, or one other half, or another digest, or another leaf's: another key, each time another one.
func TestOpenOfChanged(t *testing.T) {
	table := sha.Table()
	seed, d := rising(), api.Digest(sha256.Sum256([]byte("text")))
	key := lamport.Key(&table, seed, 4)
	s := lamport.Sign(&table, seed, 4, d)
	seen := map[api.Digest]int{key: 1}
	many := 1
	add := func(d api.Digest, s api.Lamport) {
		many++
		got := lamport.Open(&table, d, s)
		if got != openBy(&table, d, s) {
			t.Errorf("%x, not as the chapter says", got)
		}
		seen[got]++
	}
	for bit := range 256 {
		other := s
		other.Secrets[bit] = turned(s.Secrets[bit], bit)
		add(d, other)
		other = s
		other.Others[bit] = turned(s.Others[bit], 255-bit)
		add(d, other)
		add(turned(d, bit), s)
	}
	swapped := s
	swapped.Secrets[0], swapped.Secrets[1] = s.Secrets[1], s.Secrets[0]
	add(d, swapped)
	told := s
	told.Others[9] = lamport.Secret(&table, seed, 4, 9, 1-bitOf(d, 9))
	add(d, told)
	add(d, lamport.Sign(&table, seed, 5, d))
	add(d, lamport.Sign(&table, turned(seed, 255), 4, d))
	add(d, lamport.Sign(&table, seed, 4, filled(170)))
	if len(seen) != many {
		t.Errorf("%d keys, not %d", len(seen), many)
	}
}

// P9.3: whoever knows both secrets of a bit signs the digest with that bit turned.
func TestOpenOfBothSecrets(t *testing.T) {
	table := sha.Table()
	seed, d := rising(), filled(170)
	s := lamport.Sign(&table, seed, 4, d)
	for _, i := range []int{0, 7, 8, 255} {
		forged := s
		forged.Secrets[i] = lamport.Secret(&table, seed, 4, i, 1-bitOf(d, i))
		forged.Others[i] = lamport.Half(&table, s.Secrets[i])
		if lamport.Open(&table, turned(d, i), forged) != lamport.Key(&table, seed, 4) {
			t.Errorf("the bit %d", i)
		}
	}
}

// R3: nothing that is handed in changes, and no two texts share memory.
func TestNothingChanges(t *testing.T) {
	chance := rand.New(rand.NewSource(9))
	table := sha.Table()
	seed, d, s := rising(), filled(170), signatureOf(chance)
	halves, others := digestsOf(chance), digestsOf(chance)
	oldS, oldHalves, oldOthers := s, halves, others
	lamport.Secret(&table, seed, 4, 5, 1)
	lamport.Half(&table, seed)
	lamport.Key(&table, seed, 4)
	lamport.Sign(&table, seed, 4, d)
	lamport.Open(&table, d, s)
	one, two := lamport.Text(d, halves, others), lamport.Text(d, halves, others)
	clear(one[:cap(one)])
	if !slices.Equal(two, keyTextBy(picked(d, &halves, &others))) {
		t.Error("two texts share memory")
	}
	if !slices.Equal(lamport.Text(d, halves, others), two) {
		t.Error("a text shares memory with what is kept")
	}
	if table != sha.Table() {
		t.Error("the table was changed")
	}
	if seed != rising() || d != filled(170) || s != oldS || halves != oldHalves || others != oldOthers {
		t.Error("what was handed in was changed")
	}
}

// R4: what is asked again is answered again.
func TestSameAgain(t *testing.T) {
	table, other := sha.Table(), tables()[2]
	seed, d := rising(), filled(170)
	key, s := lamport.Key(&table, seed, 4), lamport.Sign(&table, seed, 4, d)
	lamport.Key(&other, seed, 5)
	lamport.Sign(&other, filled(1), 4, filled(85))
	lamport.Open(nil, d, s)
	if lamport.Key(&table, seed, 4) != key || lamport.Sign(&table, seed, 4, d) != s || lamport.Open(&table, d, s) != key {
		t.Error("another answer")
	}
}
