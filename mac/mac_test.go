package mac_test

import (
	"bytes"
	"crypto/hmac"
	"crypto/sha256"
	"encoding/hex"
	"math/rand"
	"slices"
	"strings"
	"testing"
	"time"

	"blockhouse/api"
	"blockhouse/mac"
	"blockhouse/sha"
)

// text is many bytes, none of them a nought.
func text(many int) []byte {
	b := make([]byte, many)
	for i := range b {
		b[i] = byte((i*i/7+31*i+many)%255 + 1)
	}
	return b
}

// joined is a new list of all bytes, one behind the other.
func joined(parts ...[]byte) []byte {
	return bytes.Join(parts, nil)
}

// odd is a table that digests are not made by.
func odd(chance *rand.Rand) api.Rounds {
	var t api.Rounds
	for i := range t.First {
		t.First[i] = chance.Uint32()
	}
	for i := range t.Keys {
		t.Keys[i] = chance.Uint32()
	}
	return t
}

// tables are the right one, one of noughts, and others.
func tables() []api.Rounds {
	chance := rand.New(rand.NewSource(1))
	return []api.Rounds{sha.Table(), {}, odd(chance), odd(chance)}
}

// macBy is the chapter's definition, written out a second time.
func macBy(t *api.Rounds, key, b []byte) api.Digest {
	if len(key) > 64 {
		d := sha.Of(t, key)
		key = d[:]
	}
	var in, out []byte
	for i := range 64 {
		c := byte(0)
		if i < len(key) {
			c = key[i]
		}
		in = append(in, c^54)
		out = append(out, c^92)
	}
	d := sha.Of(t, joined(in, b))
	return sha.Of(t, joined(out, d[:]))
}

// varint is the chapter's of layer 1, by division.
func varint(n int) []byte {
	if n < 128 {
		return []byte{byte(n)}
	}
	return append([]byte{byte(n%128) + 128}, varint(n/128)...)
}

// textBy is the chapter's definition, written out a second time.
func textBy(tag byte, parts [][]byte) []byte {
	b := joined([]byte{75, tag}, varint(len(parts)))
	for _, p := range parts {
		b = append(append(b, varint(len(p))...), p...)
	}
	return b
}

func wantDigest(t *testing.T, what string, got api.Digest, want string) {
	t.Helper()
	if hex.EncodeToString(got[:]) != strings.ReplaceAll(want, " ", "") {
		t.Errorf("%s: %x, not %s", what, got, want)
	}
}

// partings are many lists of parts: all that the pieces make, up to so many of them.
func partings(pieces [][]byte, most int) [][][]byte {
	all := [][][]byte{nil}
	last := all
	for range most {
		var next [][][]byte
		for _, parts := range last {
			for _, p := range pieces {
				next = append(next, append(slices.Clone(parts), p))
			}
		}
		all = append(all, next...)
		last = next
	}
	return all
}

// The chapter's examples.
func TestExamples(t *testing.T) {
	table := sha.Table()
	wantDigest(t, "Hi There", mac.Mac(&table, bytes.Repeat([]byte{11}, 20), []byte("Hi There")),
		"b0344c61 d8db3853 5ca8afce af0bf12b 881dc200 c9833da7 26e9376c 2e32cff7")
	wantDigest(t, "Jefe", mac.Mac(&table, []byte("Jefe"), []byte("what do ya want for nothing?")),
		"5bdcc146 bf60754e 6a042426 089575c7 5a003f08 9d273983 9dec58b9 64ec3843")
	if b := mac.Text(7, []byte("ab"), []byte("")); !slices.Equal(b, []byte{75, 7, 2, 2, 97, 98, 0}) {
		t.Error(b)
	}
	ab := []byte("ab")
	if !mac.Same(ab, []byte("ab")) || mac.Same(ab, []byte("ac")) || mac.Same(ab, []byte("a")) {
		t.Error("Same")
	}
}

// P3.1: the other examples of RFC 4231, with keys longer than a block among them.
func TestMacMoreExamples(t *testing.T) {
	table := sha.Table()
	rising := make([]byte, 25)
	for i := range rising {
		rising[i] = byte(i + 1)
	}
	long := bytes.Repeat([]byte{170}, 131)
	for _, x := range []struct {
		key  []byte
		text string
		want string
	}{
		{bytes.Repeat([]byte{170}, 20), strings.Repeat("\xdd", 50), "773ea91e36800e46854db8ebd09181a72959098b3ef8c122d9635514ced565fe"},
		{rising, strings.Repeat("\xcd", 50), "82558a389a443c0ea4cc819899f2083a85f0faa3e578f8077a2e3ff46729665b"},
		{long, "Test Using Larger Than Block-Size Key - Hash Key First", "60e431591ee0b67f0d8a26aacbf5b77f8e0bc6213728c5140546040f0ee37f54"},
		{long, "This is a test using a larger than block-size key and a larger than block-size data. The key needs to be hashed before being used by the HMAC algorithm.", "9b09ffa71b942fcb27635fbcd5b0e944bfdc63644f0713938a7f51535c3a35e2"},
	} {
		wantDigest(t, x.text, mac.Mac(&table, x.key, []byte(x.text)), x.want)
	}
}

// P3.1: keys of all lengths around a block's, and texts around the ends of blocks, against the library's HMAC.
func TestMacEveryLength(t *testing.T) {
	table := sha.Table()
	for size := range 200 {
		key := text(size)
		for _, many := range []int{0, 1, 54, 55, 56, 63, 64, 65, 119, 120, 128, 1000} {
			b := text(many)
			whole := hmac.New(sha256.New, key)
			whole.Write(b)
			if got := mac.Mac(&table, key, b); !slices.Equal(got[:], whole.Sum(nil)) {
				t.Errorf("a key of %d bytes, a text of %d: %x", size, many, got)
			}
		}
	}
}

// P3.1: all digests in it are by the table that is handed in, that of a long key too.
func TestMacOtherTables(t *testing.T) {
	seen := map[api.Digest]int{}
	all := tables()
	for i := range all {
		for _, size := range []int{0, 1, 63, 64, 65, 200} {
			key, b := text(size), text(77)
			got := mac.Mac(&all[i], key, b)
			if got != macBy(&all[i], key, b) {
				t.Errorf("table %d, a key of %d bytes: %x", i, size, got)
			}
			seen[got]++
		}
	}
	if len(seen) != 6*len(all) {
		t.Errorf("%d digests, not %d", len(seen), 6*len(all))
	}
}

// P3.1: a key of 64 bytes is its own block; one of one byte more is its digest's.
func TestMacLongKeys(t *testing.T) {
	table := sha.Table()
	b := []byte("what is told")
	for _, size := range []int{65, 66, 128, 5000} {
		key := text(size)
		short := sha.Of(&table, key)
		if mac.Mac(&table, key, b) != mac.Mac(&table, short[:], b) {
			t.Errorf("a key of %d bytes is not taken by its digest", size)
		}
	}
	for _, size := range []int{0, 1, 32, 63, 64} {
		key := text(size)
		short := sha.Of(&table, key)
		if mac.Mac(&table, key, b) == mac.Mac(&table, short[:], b) {
			t.Errorf("a key of %d bytes is taken by its digest", size)
		}
	}
}

// P3.1: each byte of a key and of a text counts.
func TestMacEachByte(t *testing.T) {
	table := sha.Table()
	for _, size := range []int{1, 20, 64, 65, 130} {
		key, b := text(size), text(70)
		whole := mac.Mac(&table, key, b)
		for i := range key {
			other := slices.Clone(key)
			other[i] ^= 1
			if mac.Mac(&table, other, b) == whole {
				t.Errorf("a key of %d bytes: the byte %d does not count", size, i)
			}
		}
		for i := range b {
			other := slices.Clone(b)
			other[i] ^= 128
			if mac.Mac(&table, key, other) == whole {
				t.Errorf("a key of %d bytes: the text's byte %d does not count", size, i)
			}
		}
	}
}

// P3.3: noughts at a key's end, up to 64 bytes, change nothing; elsewhere, and past 64 bytes, they do.
func TestMacNoughtsAtTheEnd(t *testing.T) {
	all := tables()
	b := []byte("Hi There")
	for i := range all {
		for size := range 65 {
			key := text(size)
			want := mac.Mac(&all[i], key, b)
			for more := range 65 - size {
				if mac.Mac(&all[i], joined(key, make([]byte, more)), b) != want {
					t.Fatalf("table %d: a key of %d bytes and %d noughts behind it", i, size, more)
				}
			}
		}
	}
	table := &all[0]
	for size := range 65 {
		key := text(size)
		want := mac.Mac(table, key, b)
		if mac.Mac(table, joined(key, make([]byte, 65-size)), b) == want {
			t.Errorf("a key of %d bytes, filled up to 65, is the same", size)
		}
		if size > 0 && mac.Mac(table, joined([]byte{0}, key), b) == want {
			t.Errorf("a key of %d bytes with a nought ahead of it is the same", size)
		}
	}
	long := text(65)
	if mac.Mac(table, joined(long, []byte{0}), b) == mac.Mac(table, long, b) {
		t.Error("a long key with a nought behind it is the same")
	}
}

// P3.1, R6: a key, or a text, of no bytes.
func TestMacNothing(t *testing.T) {
	table := sha.Table()
	const want = "b613679a0814d9ec772f95d778c35fc5ff1697c493715653c6c712144292c5ad"
	wantDigest(t, "none", mac.Mac(&table, nil, nil), want)
	wantDigest(t, "empty", mac.Mac(&table, []byte{}, []byte{}), want)
	wantDigest(t, "noughts", mac.Mac(&table, make([]byte, 64), nil), want)
}

// P3.1, P3.2: noughts, without a table.
func TestWithoutTable(t *testing.T) {
	for _, size := range []int{0, 1, 64, 65, 1000} {
		b := text(size)
		if d := mac.Mac(nil, b, b); d != (api.Digest{}) {
			t.Errorf("Mac of %d bytes: %x", size, d)
		}
		if d := mac.Tagged(nil, 7, b, nil, b); d != (api.Digest{}) {
			t.Errorf("Tagged of %d bytes: %x", size, d)
		}
	}
	if d := mac.Tagged(nil, 0); d != (api.Digest{}) {
		t.Errorf("Tagged of nothing: %x", d)
	}
}

// P3.2: a tag is a byte as it is, also one that no digit of a varint alone could be.
func TestTextEveryTag(t *testing.T) {
	for tag := range 256 {
		want := []byte{75, byte(tag), 1, 1, byte(tag)}
		if got := mac.Text(byte(tag), []byte{byte(tag)}); !slices.Equal(got, want) {
			t.Errorf("%v, not %v", got, want)
		}
	}
}

// P3.2: no parts, parts without bytes, and counts of parts around a varint's digits.
func TestTextCounts(t *testing.T) {
	if got := mac.Text(9); !slices.Equal(got, []byte{75, 9, 0}) {
		t.Errorf("no parts: %v", got)
	}
	if got := mac.Text(9, [][]byte{}...); !slices.Equal(got, []byte{75, 9, 0}) {
		t.Errorf("a list of no parts: %v", got)
	}
	if got := mac.Text(9, nil, []byte{}, nil); !slices.Equal(got, []byte{75, 9, 3, 0, 0, 0}) {
		t.Errorf("parts without bytes: %v", got)
	}
	for _, many := range []int{1, 2, 126, 127, 128, 129, 512, 16383, 16384} {
		parts := make([][]byte, many)
		for i := range parts {
			parts[i] = text(i % 3)
		}
		if got := mac.Text(200, parts...); !slices.Equal(got, textBy(200, parts)) {
			t.Errorf("%d parts: not as the chapter writes them", many)
		}
	}
}

// P3.2: parts of lengths around a varint's digits, each alone and among others.
func TestTextLengths(t *testing.T) {
	for _, size := range []int{0, 1, 32, 63, 64, 127, 128, 129, 16383, 16384, 70000} {
		for _, parts := range [][][]byte{{text(size)}, {text(size), nil}, {[]byte("x"), text(size), text(size)}} {
			if got := mac.Text(3, parts...); !slices.Equal(got, textBy(3, parts)) {
				t.Errorf("%d parts, of %d bytes: not as the chapter writes them", len(parts), size)
			}
		}
	}
}

// P3.2, R1: a text of very many parts, with a count of three digits.
func TestTextManyParts(t *testing.T) {
	const many = 300000
	got := mac.Text(1, make([][]byte, many)...)
	if want := joined([]byte{75, 1}, varint(many), make([]byte, many)); !slices.Equal(got, want) {
		t.Errorf("%d bytes, not %d", len(got), len(want))
	}
}

// P3.2: Tagged is the digest of the text, by the table that is handed in.
func TestTagged(t *testing.T) {
	all := tables()
	lists := append(partings([][]byte{nil, {0}, []byte("ab"), text(64)}, 3), [][]byte{text(5000), text(100)})
	for _, parts := range lists {
		for _, tag := range []byte{0, 1, 75, 128, 255} {
			whole := textBy(tag, parts)
			if got := mac.Tagged(&all[0], tag, parts...); got != sha256.Sum256(whole) {
				t.Errorf("tag %d, %d parts: %x", tag, len(parts), got)
			}
			for i := range all {
				if got := mac.Tagged(&all[i], tag, parts...); got != sha.Of(&all[i], whole) {
					t.Errorf("table %d, tag %d, %d parts: %x", i, tag, len(parts), got)
				}
			}
		}
	}
}

// P3.3: unlike tags or parts have unlike texts, of all short lists of parts, with bytes among them that counts and marks are made of.
func TestTextsAreApart(t *testing.T) {
	var pieces [][]byte
	for _, s := range partings([][]byte{{0}, {1}, {2}, {75}}, 2) {
		pieces = append(pieces, joined(s...))
	}
	texts, digests := map[string]int{}, map[api.Digest]int{}
	table := sha.Table()
	many := 0
	for _, parts := range partings(pieces, 3) {
		for _, tag := range []byte{0, 1, 75} {
			many++
			texts[string(mac.Text(tag, parts...))]++
			digests[mac.Tagged(&table, tag, parts...)]++
		}
	}
	if len(texts) != many || len(digests) != many {
		t.Errorf("%d texts, %d digests, not %d", len(texts), len(digests), many)
	}
}

// P3.3: the same bytes, parted in every way, have texts of their own.
func TestTextsPartedElsewhere(t *testing.T) {
	for _, whole := range []string{"aaaaaaaa", "\x00\x00\x00\x00\x00\x00", "\x01\x01\x01\x01\x01\x01\x01", "\x01a\x01b\x01c"} {
		texts := map[string]int{}
		ways := 1 << (len(whole) - 1)
		for way := range ways {
			parts := [][]byte{{whole[0]}}
			for i := 1; i < len(whole); i++ {
				if way>>(i-1)&1 == 1 {
					parts = append(parts, nil)
				}
				last := len(parts) - 1
				parts[last] = append(parts[last], whole[i])
			}
			texts[string(mac.Text(5, parts...))]++
		}
		if len(texts) != ways {
			t.Errorf("%q: %d texts of %d ways", whole, len(texts), ways)
		}
	}
	long := text(300)
	texts := map[string]int{}
	for i := range 301 {
		texts[string(mac.Text(5, long[:i], long[i:]))]++
	}
	if len(texts) != 301 {
		t.Errorf("%d texts of 301 ways", len(texts))
	}
}

// P3.3: a part that is a whole text, and a text with bytes behind it, are none of another list's.
func TestTextsWithin(t *testing.T) {
	table := sha.Table()
	within := mac.Text(7, []byte("ab"), nil)
	texts := [][]byte{within, mac.Text(7, within), mac.Text(7, within[2:]), mac.Text(7, []byte("ab")), mac.Text(7, nil, []byte("ab")), mac.Text(7, []byte("ab"), nil, nil), mac.Text(7, []byte("ab\x00"))}
	for i := range texts {
		for k := range i {
			if slices.Equal(texts[i], texts[k]) {
				t.Errorf("%d and %d: %v", i, k, texts[i])
			}
		}
	}
	if mac.Tagged(&table, 7, []byte("ab")) == mac.Tagged(&table, 7, []byte("a"), []byte("b")) {
		t.Error("ab is as a and b")
	}
}

// P3.2: bytes that are the same, wherever they lie.
func TestSameIs(t *testing.T) {
	for size := range 300 {
		if b := text(size); !mac.Same(b, slices.Clone(b)) || !mac.Same(b, b) {
			t.Errorf("%d bytes", size)
		}
	}
	for _, a := range [][]byte{nil, {}, make([]byte, 0, 9), []byte("ab")[:0]} {
		if !mac.Same(a, nil) || !mac.Same(nil, a) || !mac.Same(a, []byte{}) {
			t.Error("no bytes")
		}
	}
}

// P3.2: bytes that are unlike in one place alone, in any one bit of it.
func TestSameOnePlace(t *testing.T) {
	for _, size := range []int{1, 2, 31, 32, 33, 64, 100} {
		a := text(size)
		for i := range size {
			for bit := range 8 {
				b := slices.Clone(a)
				b[i] ^= 1 << bit
				if mac.Same(a, b) || mac.Same(b, a) {
					t.Errorf("%d bytes, the bit %d of the byte %d", size, bit, i)
				}
			}
		}
	}
}

// P3.2: bytes that are unlike in several places are not made good by one another.
func TestSameManyPlaces(t *testing.T) {
	for _, x := range [][2]string{
		{"\x00\x00", "\x01\x01"},
		{"\x00\x00", "\x80\x80"},
		{"\x00\x00", "\x01\xff"},
		{"\x01\x02", "\x02\x01"},
		{"abc", "cab"},
		{strings.Repeat("\x00", 256), strings.Repeat("\x01", 256)},
		{strings.Repeat("\x00", 512), strings.Repeat("\x80", 512)},
	} {
		if mac.Same([]byte(x[0]), []byte(x[1])) || mac.Same([]byte(x[1]), []byte(x[0])) {
			t.Errorf("%q and %q", x[0], x[1])
		}
	}
}

// P3.2: bytes that are not as long as each other, where the shorter ones begin the longer ones; also by a multiple of what a byte holds.
func TestSameLengths(t *testing.T) {
	room := make([]byte, 1<<17)
	for _, many := range []int{0, 1, 2, 32, 63, 255, 256, 257} {
		for _, more := range []int{1, 2, 4, 128, 255, 256, 512, 1 << 16} {
			if mac.Same(room[:many], room[:many+more]) || mac.Same(room[:many+more], room[:many]) {
				t.Errorf("%d noughts and %d", many, many+more)
			}
		}
	}
	if mac.Same(nil, []byte{0}) || mac.Same([]byte("ab"), []byte("abc")) || mac.Same([]byte("ab"), []byte("bab")) {
		t.Error("one byte more")
	}
}

// P3.2: all bytes are held against each other: unlike ones at the beginning end nothing early. An early end would be some hundred thousand times faster, so that no load of a machine hides it.
func TestSameLooksAtAll(t *testing.T) {
	const size = 1 << 21
	a := make([]byte, size)
	early, late := slices.Clone(a), slices.Clone(a)
	early[0], late[size-1] = 1, 1
	least := func(b []byte) time.Duration {
		best := time.Hour
		for range 7 {
			from := time.Now()
			same := mac.Same(a, b)
			best = min(best, time.Since(from))
			if same {
				t.Error("same")
			}
		}
		return best
	}
	first, last := least(early), least(late)
	if first < last/20 {
		t.Errorf("unlike first: %v, unlike last: %v", first, last)
	}
}

// R3: what is handed in is not changed, nor its spare room; what is told shares no memory with it.
func TestOwnMemory(t *testing.T) {
	table := sha.Table()
	for _, size := range []int{0, 3, 64, 65, 200} {
		room := text(300)
		want := slices.Clone(room)
		key, b := room[:size], room[20:90]
		parts := [][]byte{key, nil, b, []byte("last")}
		list := parts[:3]
		mac.Mac(&table, key, b)
		mac.Tagged(&table, 7, list...)
		mac.Same(key, b)
		one, two := mac.Text(7, list...), mac.Text(7, list...)
		clear(one[:cap(one)])
		if !slices.Equal(two, textBy(7, list)) {
			t.Error("two texts share memory")
		}
		if !slices.Equal(room, want) {
			t.Error("a key, a part, or its spare room, was changed")
		}
		if len(parts[0]) != size || parts[1] != nil || len(parts[2]) != 70 || string(parts[3]) != "last" {
			t.Error("the list of parts was changed")
		}
	}
	one := text(5)
	told := mac.Text(7, one)
	clear(told[:cap(told)])
	if !slices.Equal(one, text(5)) {
		t.Error("a text shares memory with its part")
	}
	if table != sha.Table() {
		t.Error("the table was changed")
	}
}

// R4: what is asked again is answered again.
func TestSameAgain(t *testing.T) {
	table := sha.Table()
	key, b := text(70), text(90)
	first, tagged := mac.Mac(&table, key, b), mac.Tagged(&table, 3, key, b)
	mac.Mac(&table, b, key)
	mac.Tagged(&table, 4, b)
	if mac.Mac(&table, key, b) != first || mac.Tagged(&table, 3, key, b) != tagged {
		t.Error("another answer")
	}
}
