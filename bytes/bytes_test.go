package bytes_test

import (
	stdbytes "bytes"
	"math"
	"math/rand"
	"slices"
	"testing"

	"blockhouse/api"
	"blockhouse/bytes"
)

// repeat is many bytes c, and last behind them.
func repeat(c byte, many int, last ...byte) []byte {
	return append(stdbytes.Repeat([]byte{c}, many), last...)
}

// numbers are those around every change of how many digits there are, and some of chance.
func numbers() []uint64 {
	l := []uint64{0, 1, 127, 128, 255, 256, 300, 16383, 16384, math.MaxUint32, math.MaxInt64, math.MaxUint64}
	for bits := range 64 {
		n := uint64(1) << bits
		l = append(l, n-1, n, n+1)
	}
	chance := rand.New(rand.NewSource(1))
	for range 2000 {
		l = append(l, chance.Uint64()>>chance.Intn(64))
	}
	return l
}

// written is the chapter's definition, by division.
func written(n uint64) []byte {
	if n < 128 {
		return []byte{byte(n)}
	}
	return append([]byte{byte(n%128) + 128}, written(n/128)...)
}

func wantUint(t *testing.T, b []byte, at int, n uint64, next int, want api.Errno) {
	t.Helper()
	gotN, gotNext, e := bytes.GetUint(b, at)
	if gotN != n || gotNext != next || e != want {
		t.Errorf("GetUint(%v, %d): %d %d %d, not %d %d %d", b, at, gotN, gotNext, e, n, next, want)
	}
}

func wantWord(t *testing.T, b []byte, at int, n uint32, next int, want api.Errno) {
	t.Helper()
	gotN, gotNext, e := bytes.GetWord(b, at)
	if gotN != n || gotNext != next || e != want {
		t.Errorf("GetWord(%v, %d): %d %d %d, not %d %d %d", b, at, gotN, gotNext, e, n, next, want)
	}
}

func wantBlob(t *testing.T, b []byte, at, most int, s string, next int, want api.Errno) {
	t.Helper()
	got, gotNext, e := bytes.GetBlob(b, at, most)
	if string(got) != s || gotNext != next || e != want {
		t.Errorf("GetBlob(%v, %d, %d): %v %d %d, not %v %d %d", b, at, most, got, gotNext, e, []byte(s), next, want)
	}
	if e != api.OK && got != nil {
		t.Errorf("GetBlob(%v, %d, %d): a string beside an error", b, at, most)
	}
}

func wantBytes(t *testing.T, l []uint32, n int, s string, want api.Errno) {
	t.Helper()
	got, e := bytes.Bytes(l, n)
	if string(got) != s || e != want {
		t.Errorf("Bytes(%v, %d): %v %d, not %v %d", l, n, got, e, []byte(s), want)
	}
	if e != api.OK && got != nil {
		t.Errorf("Bytes(%v, %d): bytes beside an error", l, n)
	}
}

// The chapter's examples.
func TestExamples(t *testing.T) {
	for _, x := range []struct {
		got  []byte
		want string
	}{
		{bytes.Uint(nil, 300), "\xac\x02"},
		{bytes.Word(nil, 258), "\x00\x00\x01\x02"},
		{bytes.Blob(nil, []byte("ab")), "\x02ab"},
	} {
		if string(x.got) != x.want {
			t.Errorf("%q, not %q", x.got, x.want)
		}
	}
	wantUint(t, []byte{172, 2}, 0, 300, 2, api.OK)
	wantUint(t, []byte{172}, 0, 0, 0, api.ErrShort)
	wantUint(t, []byte{128, 0}, 0, 0, 0, api.ErrBytes)
	wantBlob(t, []byte{2, 97, 98}, 0, 1, "", 0, api.ErrLong)
	if l := bytes.Words([]byte{1, 2, 3, 4, 5}); !slices.Equal(l, []uint32{16909060, 100663295}) {
		t.Error(l)
	}
	wantBytes(t, []uint32{16909060, 100663295}, 5, "\x01\x02\x03\x04\x05", api.OK)
}

// P1.1: digits to the base 128, the least one first, as few as there can be.
func TestUintWrites(t *testing.T) {
	for _, n := range numbers() {
		if got := bytes.Uint([]byte("ab"), n); string(got) != "ab"+string(written(n)) {
			t.Errorf("%d: %v", n, got)
		}
	}
	for _, x := range []struct {
		n    uint64
		want []byte
	}{
		{0, []byte{0}},
		{127, []byte{127}},
		{128, []byte{128, 1}},
		{16383, []byte{255, 127}},
		{16384, []byte{128, 128, 1}},
		{1<<63 - 1, repeat(255, 8, 127)},
		{1 << 63, repeat(128, 9, 1)},
		{math.MaxUint64, repeat(255, 9, 1)},
	} {
		if got := bytes.Uint(nil, x.n); !slices.Equal(got, x.want) {
			t.Errorf("%d: %v, not %v", x.n, got, x.want)
		}
	}
}

// P1.1, P1.4: what was written down is read back at any place, whatever stands behind it; what it begins with may come.
func TestUintReadsBack(t *testing.T) {
	for _, n := range numbers() {
		for _, behind := range []string{"", "\x00", "\x80", "\xff\xff", "abc"} {
			b := append(bytes.Uint([]byte{200, 0}, n), behind...)
			wantUint(t, b, 2, n, len(b)-len(behind), api.OK)
		}
		whole := bytes.Uint(nil, n)
		for i := range len(whole) {
			wantUint(t, whole[:i], 0, 0, 0, api.ErrShort)
		}
	}
}

// P1.1: every text of at most two bytes, against all numbers that could begin it.
func TestUintShortTexts(t *testing.T) {
	number := map[string]uint64{}
	begin := map[string]int{"": 1}
	for n := range uint64(1 << 14) {
		number[string(written(n))] = n
	}
	for c := range 256 {
		if c >= 128 {
			begin[string([]byte{byte(c)})] = 1
		}
		for d := range 256 {
			if c >= 128 && d >= 128 {
				begin[string([]byte{byte(c), byte(d)})] = 1
			}
		}
	}
	try := func(b []byte) {
		for i := range b {
			if n, ok := number[string(b[:i+1])]; ok {
				wantUint(t, b, 0, n, i+1, api.OK)
				return
			}
		}
		want := api.ErrBytes
		if begin[string(b)] == 1 {
			want = api.ErrShort
		}
		wantUint(t, b, 0, 0, 0, want)
	}
	try(nil)
	for c := range 256 {
		try([]byte{byte(c)})
		for d := range 256 {
			try([]byte{byte(c), byte(d)})
		}
	}
}

// P1.1, Limits: ten digits at most, and then the last one is 1.
func TestUintEdges(t *testing.T) {
	for _, x := range []struct {
		b    []byte
		n    uint64
		next int
		e    api.Errno
	}{
		{repeat(255, 8, 127), 1<<63 - 1, 9, api.OK},
		{repeat(128, 8, 0), 0, 0, api.ErrBytes},
		{repeat(255, 8, 0), 0, 0, api.ErrBytes},
		{repeat(128, 9), 0, 0, api.ErrShort},
		{repeat(255, 9), 0, 0, api.ErrShort},
		{repeat(128, 9, 1), 1 << 63, 10, api.OK},
		{repeat(255, 9, 1), math.MaxUint64, 10, api.OK},
		{repeat(255, 9, 1, 7), math.MaxUint64, 10, api.OK},
		{repeat(255, 9, 0), 0, 0, api.ErrBytes},
		{repeat(255, 9, 2), 0, 0, api.ErrBytes},
		{repeat(128, 9, 127), 0, 0, api.ErrBytes},
		{repeat(128, 9, 128), 0, 0, api.ErrBytes},
		{repeat(128, 9, 129), 0, 0, api.ErrBytes},
		{repeat(255, 10), 0, 0, api.ErrBytes},
		{repeat(255, 10, 1), 0, 0, api.ErrBytes},
		{repeat(128, 10, 1), 0, 0, api.ErrBytes},
		{repeat(255, 100), 0, 0, api.ErrBytes},
		{[]byte{129, 0, 5}, 0, 0, api.ErrBytes},
		{[]byte{255, 128, 0}, 0, 0, api.ErrBytes},
		{[]byte{0, 0}, 0, 1, api.OK},
	} {
		wantUint(t, x.b, 0, x.n, x.next, x.e)
		if x.e == api.OK {
			x.next += 3
		}
		wantUint(t, append([]byte{1, 255, 0}, x.b...), 3, x.n, x.next, x.e)
	}
}

// Places: from 0 to how many bytes there are; any other one is ErrArg, ahead of all else.
func TestPlaces(t *testing.T) {
	for _, b := range [][]byte{nil, {}, {1}, {128, 0}, {1, 2, 3, 4, 5}} {
		for _, at := range []int{math.MinInt, -1, len(b) + 1, len(b) + 5, math.MaxInt} {
			wantUint(t, b, at, 0, 0, api.ErrArg)
			wantWord(t, b, at, 0, 0, api.ErrArg)
			wantBlob(t, b, at, 9, "", 0, api.ErrArg)
			wantBlob(t, b, at, -1, "", 0, api.ErrArg)
		}
		wantUint(t, b, len(b), 0, 0, api.ErrShort)
		wantWord(t, b, len(b), 0, 0, api.ErrShort)
		wantBlob(t, b, len(b), 9, "", 0, api.ErrShort)
		wantBlob(t, b, len(b), -1, "", 0, api.ErrShort)
	}
}

// P1.2, P1.4: words.
func TestWord(t *testing.T) {
	for _, n := range numbers() {
		w := uint32(n)
		b := bytes.Word([]byte{9}, w)
		want := []byte{9, byte(w / (1 << 24)), byte(w / (1 << 16) % 256), byte(w / (1 << 8) % 256), byte(w % 256)}
		if !slices.Equal(b, want) {
			t.Errorf("%d: %v, not %v", w, b, want)
		}
		wantWord(t, b, 1, w, 5, api.OK)
		wantWord(t, append(b, 255, 0), 1, w, 5, api.OK)
		for i := 1; i < 5; i++ {
			wantWord(t, b[:i], 1, 0, 0, api.ErrShort)
		}
	}
	wantWord(t, []byte{255, 255, 255, 255}, 0, math.MaxUint32, 4, api.OK)
	wantWord(t, []byte{0, 0, 0, 0, 1}, 1, 1, 5, api.OK)
	wantWord(t, []byte{0, 0, 0, 0, 1}, 2, 0, 0, api.ErrShort)
}

// P1.2, P1.4: strings.
func TestBlob(t *testing.T) {
	for _, many := range []int{0, 1, 2, 127, 128, 129, 16383, 16384, 70000} {
		s := string(repeat(171, many))
		b := bytes.Blob([]byte("x"), []byte(s))
		if want := "x" + string(written(uint64(many))) + s; string(b) != want {
			t.Errorf("%d bytes: not as the chapter writes them", many)
		}
		for _, most := range []int{many, many + 1, math.MaxInt} {
			wantBlob(t, b, 1, most, s, len(b), api.OK)
			wantBlob(t, append(slices.Clip(b), 255), 1, most, s, len(b), api.OK)
		}
		wantBlob(t, b, 1, many-1, "", 0, api.ErrLong)
		if many > 0 {
			wantBlob(t, b[:len(b)-1], 1, many, "", 0, api.ErrShort)
		}
	}
}

// P1.2: errors of GetBlob, in the order of the section Errors.
func TestBlobErrors(t *testing.T) {
	for _, x := range []struct {
		b        []byte
		at, most int
		e        api.Errno
	}{
		{[]byte{2, 97, 98}, 4, 0, api.ErrArg},
		{[]byte{130}, 0, 0, api.ErrShort},
		{[]byte{128, 0}, 0, -1, api.ErrBytes},
		{repeat(255, 9, 2), 0, 0, api.ErrBytes},
		{[]byte{2, 97, 98}, 0, 1, api.ErrLong},
		{[]byte{2}, 0, 1, api.ErrLong},
		{[]byte{2}, 0, 2, api.ErrShort},
		{[]byte{2, 97}, 0, 2, api.ErrShort},
		{[]byte{0}, 0, -1, api.ErrLong},
		{[]byte{0}, 0, math.MinInt, api.ErrLong},
		{[]byte{1, 5}, 0, -1, api.ErrLong},
		{repeat(255, 9, 1), 0, math.MaxInt, api.ErrLong},
		{repeat(128, 9, 1), 0, math.MaxInt, api.ErrLong},
		{repeat(255, 8, 127), 0, math.MaxInt, api.ErrShort},
		{repeat(255, 8, 127), 0, math.MaxInt - 1, api.ErrLong},
	} {
		wantBlob(t, x.b, x.at, x.most, "", 0, x.e)
	}
	wantBlob(t, []byte{0}, 0, 0, "", 1, api.OK)
	wantBlob(t, []byte{9, 9, 1, 97, 98}, 2, 1, "a", 4, api.OK)
}

// P1.3: words of all lengths, filled up by as few bytes of 255 as there can be.
func TestWords(t *testing.T) {
	for many := range 70 {
		b := make([]byte, many)
		for i := range b {
			b[i] = byte(37*i + many)
		}
		filled := slices.Clone(b)
		for len(filled)%4 != 0 {
			filled = append(filled, 255)
		}
		var want []uint32
		for i := 0; i < len(filled); i += 4 {
			want = append(want, uint32(filled[i])<<24+uint32(filled[i+1])<<16+uint32(filled[i+2])<<8+uint32(filled[i+3]))
		}
		l := bytes.Words(b)
		if !slices.Equal(l, want) {
			t.Errorf("%v: %v, not %v", b, l, want)
		}
		for n := range len(filled) + 1 {
			wantBytes(t, l, n, string(filled[:n]), api.OK)
		}
		wantBytes(t, append(slices.Clip(l), 7), many, string(b), api.OK)
		wantBytes(t, l, len(filled)+1, "", api.ErrShort)
	}
}

// P1.3: what Bytes refuses, in the order of the section Errors.
func TestBytesErrors(t *testing.T) {
	for _, l := range [][]uint32{nil, {}, {1}, {1, 2, 3}} {
		for _, n := range []int{-1, math.MinInt} {
			wantBytes(t, l, n, "", api.ErrArg)
		}
		for _, n := range []int{4*len(l) + 1, 4*len(l) + 4, math.MaxInt} {
			wantBytes(t, l, n, "", api.ErrShort)
		}
		wantBytes(t, l, 0, "", api.OK)
	}
}

// P1.4: there is one way of writing a number: what is read is what would be written.
func TestOneWay(t *testing.T) {
	chance := rand.New(rand.NewSource(2))
	read := 0
	for range 200000 {
		b := make([]byte, chance.Intn(13))
		for i := range b {
			b[i] = [...]byte{0, 1, 2, 127, 128, 129, 255, 255, 128, byte(chance.Intn(256))}[chance.Intn(10)]
		}
		if n, next, e := bytes.GetUint(b, 0); e == api.OK {
			read++
			if !slices.Equal(bytes.Uint(nil, n), b[:next]) {
				t.Fatalf("%v: %d, of %d bytes", b, n, next)
			}
		}
		if s, next, e := bytes.GetBlob(b, 0, 20); e == api.OK && !slices.Equal(bytes.Blob(nil, s), b[:next]) {
			t.Fatalf("%v: %v, of %d bytes", b, s, next)
		}
		if w, next, e := bytes.GetWord(b, 0); e == api.OK && !slices.Equal(bytes.Word(nil, w), b[:next]) {
			t.Fatalf("%v: %d, of %d bytes", b, w, next)
		}
	}
	if read < 1000 {
		t.Errorf("only %d numbers were read", read)
	}
}

// P1.4: nothing is looked at past the end, even where a slice's spare room goes on.
func TestPastTheEnd(t *testing.T) {
	room := []byte{2, 97, 98, 1, 1, 1, 1, 1}
	wantBlob(t, room[:2], 0, 9, "", 0, api.ErrShort)
	wantWord(t, room[:3], 0, 0, 0, api.ErrShort)
	wantUint(t, []byte{172, 2}[:1], 0, 0, 0, api.ErrShort)
	if l := bytes.Words(room[:3]); !slices.Equal(l, []uint32{2<<24 + 97<<16 + 98<<8 + 255}) {
		t.Error(l)
	}
	wantBytes(t, []uint32{1, 2}[:1], 5, "", api.ErrShort)
}

// R3: what is handed in is not changed, nor its spare room; what is told shares no memory with it.
func TestOwnMemory(t *testing.T) {
	for _, write := range []func(out []byte) []byte{
		func(out []byte) []byte { return bytes.Uint(out, 300) },
		func(out []byte) []byte { return bytes.Word(out, 258) },
		func(out []byte) []byte { return bytes.Blob(out, []byte("abc")) },
		func(out []byte) []byte { return bytes.Blob(out, out[:6]) },
		func(out []byte) []byte { return bytes.Blob(out, nil) },
	} {
		room := repeat(7, 40)
		got := write(room[:3])
		clear(got)
		if !slices.Equal(room, repeat(7, 40)) {
			t.Error("out, or its spare room, was changed")
		}
	}
	b := []byte{2, 97, 98, 5}
	s, _, _ := bytes.GetBlob(b, 0, 2)
	clear(s[:cap(s)])
	l := bytes.Words(b)
	l[0] = 0
	if string(b) != "\x02ab\x05" {
		t.Error(b)
	}
	words := []uint32{1, 2}
	told, _ := bytes.Bytes(words, 8)
	clear(told)
	if !slices.Equal(words, []uint32{1, 2}) {
		t.Error(words)
	}
}
