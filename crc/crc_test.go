package crc

import (
	"bytes"
	"hash/crc32"
	"math/rand"
	"strconv"
	"testing"

	"cardcase/api"
)

// is fails where an answer is another than the one that is asked for.
func is[T comparable](t *testing.T, what string, got, want T) {
	t.Helper()
	if got != want {
		t.Errorf("%s: %#v, want %#v", what, got, want)
	}
}

// known are texts whose sums are known elsewhere.
func known() map[string]uint32 {
	return map[string]uint32{
		"":                             0,
		"\x00":                         0xd202ef8d,
		"\xff":                         0xff000000,
		"a":                            0xe8b7be43,
		"abc":                          0x352441c2,
		"123456789":                    0xcbf43926,
		"\xff\xff\xff\xff":             0xffffffff,
		string(make([]byte, 32)):       0x190a55ad,
		string(bytes.Repeat(ff(), 32)): 0xff6cab0b,
		"The quick brown fox jumps over the lazy dog": 0x414fa339,
	}
}

func ff() []byte { return []byte{0xff} }

// plainStep is the word behind a byte as the chapter's 'Words' say it, bit by bit, by lists of bits.
func plainStep(word uint32, b byte) uint32 {
	bits := make([]uint32, 32) // the lowest first
	for i := range bits {
		bits[i] = word >> i & 1
		if i < 8 {
			bits[i] ^= uint32(b) >> i & 1
		}
	}
	for range 8 {
		gone := bits[0]
		bits = append(bits[1:], 0)
		for i := range bits {
			bits[i] ^= gone & (0xEDB88320 >> i)
		}
	}
	word = 0
	for i, bit := range bits {
		word |= bit << i
	}
	return word
}

// cut cuts bytes into parts, some of them of none.
func cut(r *rand.Rand, b []byte) [][]byte {
	var parts [][]byte
	for len(b) > 0 || r.Intn(2) == 0 {
		n := min(r.Intn(9), len(b))
		parts = append(parts, b[:n])
		b = b[n:]
	}
	return parts
}

// randomBytes tells n bytes.
func randomBytes(r *rand.Rand, n int) []byte {
	b := make([]byte, n)
	r.Read(b)
	return b
}

// added tells a sum under way behind some bytes.
func added(t *testing.T, b []byte) *Adder {
	t.Helper()
	a := New()
	is(t, "Write", a.Write(b), api.OK)
	return a
}

func TestSumOfKnownTexts(t *testing.T) { // P2.1
	for text, want := range known() {
		is(t, "Sum of "+strconv.Quote(text), Sum([]byte(text)), want)
	}
}

func TestSumOfNothing(t *testing.T) { // P2.1
	is(t, "no parts", Sum(), 0)
	is(t, "a nil part", Sum(nil), 0)
	is(t, "an empty part", Sum([]byte{}), 0)
	is(t, "parts of none", Sum(nil, []byte{}, nil), 0)
	is(t, "no list of parts", Sum([][]byte(nil)...), 0)
}

func TestSumOfParts(t *testing.T) { // P2.1
	is(t, "two parts", Sum([]byte("1234"), []byte("56789")), 0xcbf43926)
	is(t, "parts of none among them", Sum(nil, []byte("123"), []byte{}, []byte("456789"), nil), 0xcbf43926)
	is(t, "the first part is ahead", Sum([]byte("56789"), []byte("1234")), crc32.ChecksumIEEE([]byte("567891234")))
	part := []byte("ab")
	is(t, "one part twice", Sum(part, part), crc32.ChecksumIEEE([]byte("abab")))
}

func TestSumOfManyBytes(t *testing.T) { // P2.1
	r := rand.New(rand.NewSource(1))
	for _, n := range []int{1, 2, 3, 4, 5, 255, 256, 257, 1 << 16, 1<<20 + 1} {
		b := randomBytes(r, n)
		is(t, "Sum", Sum(b), crc32.ChecksumIEEE(b))
	}
}

func TestSumOfEachByte(t *testing.T) { // P2.1
	for first := range 256 {
		for second := range 256 {
			b := []byte{byte(first), byte(second), byte(first)}
			is(t, "Sum", Sum(b), crc32.ChecksumIEEE(b))
		}
	}
}

func TestStep(t *testing.T) { // P2.1
	is(t, "Step(0, 1)", Step(0, 1), 0x77073096)
	is(t, "Step(0, 0)", Step(0, 0), 0)
	is(t, "Step(0, 128)", Step(0, 128), 0xedb88320)
	is(t, "Step(0, 255)", Step(0, 255), 0x2d02ef8d)
	is(t, "the low bits are xored with the byte", Step(0xa5, 0xa5), 0)
	is(t, "the high bits come down", Step(0xabcdef00, 0), 0x00abcdef)
	is(t, "ones", Step(0xffffffff, 0xff), 0x00ffffff)
}

func TestStepAtAllBytesAndManyWords(t *testing.T) { // P2.1
	r := rand.New(rand.NewSource(2))
	words := []uint32{0, 1, 0x80, 0xff, 0x100, 0x7fffffff, 0x80000000, 0xffffffff, 0xEDB88320}
	for range 40 {
		words = append(words, r.Uint32())
	}
	for _, word := range words {
		for b := range 256 {
			is(t, "Step", Step(word, byte(b)), plainStep(word, byte(b)))
		}
	}
}

func TestSumIsStepsFromOnesTurned(t *testing.T) { // P2.1
	r := rand.New(rand.NewSource(3))
	for n := range 64 {
		b := randomBytes(r, n)
		word := uint32(0xffffffff)
		for _, one := range b {
			word = Step(word, one)
		}
		is(t, "Sum", Sum(b), ^word)
	}
}

func TestNewHasNoBytes(t *testing.T) { // P2.2
	a := New()
	if a == nil {
		t.Fatal("New: nil")
	}
	is(t, "Sum", a.Sum(), 0)
	is(t, "Len", a.Len(), 0)
	is(t, "goes on", a.Write([]byte("123456789")), api.OK)
	is(t, "another one is apart: Sum", New().Sum(), 0)
	is(t, "another one is apart: Len", New().Len(), 0)
}

func TestWriteIsBehindWhatWasWritten(t *testing.T) { // P2.2
	a := New()
	is(t, "Write", a.Write([]byte("1234")), api.OK)
	is(t, "Sum", a.Sum(), crc32.ChecksumIEEE([]byte("1234")))
	is(t, "Len", a.Len(), 4)
	is(t, "Write", a.Write([]byte("56789")), api.OK)
	is(t, "Sum", a.Sum(), 0xcbf43926)
	is(t, "Len", a.Len(), 9)
	is(t, "Sum tells the same again", a.Sum(), 0xcbf43926)
}

func TestWriteOfNoBytes(t *testing.T) { // P2.2
	a := New()
	for _, none := range [][]byte{nil, {}} {
		is(t, "Write to none", a.Write(none), api.OK)
		is(t, "Sum", a.Sum(), 0)
		is(t, "Len", a.Len(), 0)
	}
	is(t, "Write", a.Write([]byte("123456789")), api.OK)
	for _, none := range [][]byte{nil, {}} {
		is(t, "Write to some", a.Write(none), api.OK)
		is(t, "Sum", a.Sum(), 0xcbf43926)
		is(t, "Len", a.Len(), 9)
	}
}

func TestAdderOfKnownTexts(t *testing.T) { // P2.2
	for text, want := range known() {
		a := added(t, []byte(text))
		is(t, "Sum of "+strconv.Quote(text), a.Sum(), want)
		is(t, "Len of "+strconv.Quote(text), a.Len(), int64(len(text)))
	}
}

// A word may come to noughts behind bytes: the sum under way is there all the same.
func TestWordOfNoughts(t *testing.T) { // P2.2
	a := added(t, bytes.Repeat(ff(), 4))
	is(t, "Sum", a.Sum(), 0xffffffff)
	is(t, "Len", a.Len(), 4)
	other := a.Copy()
	if other == nil {
		t.Fatal("Copy: nil")
	}
	for _, one := range []*Adder{a, other} {
		is(t, "Write", one.Write([]byte("abc")), api.OK)
		is(t, "Sum", one.Sum(), crc32.ChecksumIEEE([]byte("\xff\xff\xff\xffabc")))
		is(t, "Len", one.Len(), 7)
	}
}

func TestCopyGoesOnApart(t *testing.T) { // P2.2
	a := added(t, []byte("12345"))
	other := a.Copy()
	if other == nil || other == a {
		t.Fatal("Copy: no other one")
	}
	is(t, "Sum of the copy", other.Sum(), a.Sum())
	is(t, "Len of the copy", other.Len(), 5)
	is(t, "Write", a.Write([]byte("6789")), api.OK)
	is(t, "Sum of the copy, as it was", other.Sum(), crc32.ChecksumIEEE([]byte("12345")))
	is(t, "Len of the copy, as it was", other.Len(), 5)
	is(t, "Write", other.Write([]byte("x")), api.OK)
	is(t, "Sum of the copy", other.Sum(), crc32.ChecksumIEEE([]byte("12345x")))
	is(t, "Len of the copy", other.Len(), 6)
	is(t, "Sum of the first", a.Sum(), 0xcbf43926)
	is(t, "Len of the first", a.Len(), 9)
}

func TestCopyOfNoBytes(t *testing.T) { // P2.2
	other := New().Copy()
	if other == nil {
		t.Fatal("Copy: nil")
	}
	is(t, "Sum", other.Sum(), 0)
	is(t, "Len", other.Len(), 0)
	is(t, "Write", other.Write([]byte("123456789")), api.OK)
	is(t, "Sum", other.Sum(), 0xcbf43926)
}

func TestNoSumUnderWay(t *testing.T) { // P2.2
	for what, a := range map[string]*Adder{"nil": nil, "zero": {}} {
		for _, b := range [][]byte{nil, {}, []byte("123456789")} {
			is(t, what+": Write", a.Write(b), api.ErrNil)
			is(t, what+": Sum", a.Sum(), 0)
			is(t, what+": Len", a.Len(), 0)
			is(t, what+": Copy", a.Copy(), nil)
		}
	}
}

func TestNothingHandedInIsChangedOrKept(t *testing.T) { // P2.1, P2.2
	room := []byte("123456789 and more")
	was := string(room)
	part := room[:9]
	a := New()
	is(t, "Sum", Sum(part, part[:4]), crc32.ChecksumIEEE([]byte("1234567891234")))
	is(t, "Write", a.Write(part), api.OK)
	is(t, "bytes, and the room behind them", string(room), was)
	room[0] = 'x'
	is(t, "Sum, behind a change of what was handed in", a.Sum(), 0xcbf43926)
	parts := [][]byte{[]byte("ab"), []byte("cd"), []byte("ef")}
	Sum(parts[:2]...)
	is(t, "parts, and the room behind them", string(bytes.Join(parts, nil)), "abcdef")
}

func TestCutsDoNotMatter(t *testing.T) { // P2.3
	r := rand.New(rand.NewSource(4))
	for range 500 {
		b := randomBytes(r, r.Intn(80))
		want := crc32.ChecksumIEEE(b)
		parts := cut(r, b)
		is(t, "Sum of parts", Sum(parts...), want)
		a := New()
		for _, part := range parts {
			is(t, "Write", a.Write(part), api.OK)
			if r.Intn(4) == 0 {
				a = a.Copy()
			}
		}
		is(t, "Sum of writes", a.Sum(), want)
		is(t, "Len of writes", a.Len(), int64(len(b)))
	}
}

func TestEachCutInTwo(t *testing.T) { // P2.3
	text := []byte("The quick brown fox jumps over the lazy dog")
	for at := range len(text) + 1 {
		is(t, "Sum of parts", Sum(text[:at], text[at:]), 0x414fa339)
		a := added(t, text[:at])
		is(t, "Write", a.Write(text[at:]), api.OK)
		is(t, "Sum of writes", a.Sum(), 0x414fa339)
	}
}

// turnedBits tells bytes with some of their bits turned: those of a pattern, from a bit on, in each byte the lowest first.
func turnedBits(b []byte, from int, pattern uint64) []byte {
	other := bytes.Clone(b)
	for i := range 64 {
		if pattern>>i&1 == 1 {
			other[(from+i)/8] ^= 1 << ((from + i) % 8)
		}
	}
	return other
}

// unlike fails where two texts have the same sum, by whatever call it is told.
func unlike(t *testing.T, a, b []byte) {
	t.Helper()
	if Sum(a) == Sum(b) || added(t, a).Sum() == added(t, b).Sum() {
		t.Fatalf("the same sum of % x and % x", a, b)
	}
}

func TestNearDifferencesTell(t *testing.T) { // P2.3
	r := rand.New(rand.NewSource(5))
	for _, n := range []int{1, 2, 4, 5, 9, 40} {
		text := randomBytes(r, n)
		for width := 1; width <= min(32, 8*n); width++ {
			for from := range 8*n - width + 1 {
				ends := uint64(1)<<(width-1) | 1
				within := uint64(1)<<width - 1
				unlike(t, text, turnedBits(text, from, ends))
				unlike(t, text, turnedBits(text, from, within))
				unlike(t, text, turnedBits(text, from, (r.Uint64()&within)|ends))
			}
		}
	}
}

// Within 32 bits all that may differ tells; the bits that are let through are 33 wide, in this order of the bits and in no other.
func TestTheBoundIsThirtyTwoBits(t *testing.T) { // P2.3
	r := rand.New(rand.NewSource(6))
	const through = 0xEDB88320<<1 | 1
	text := randomBytes(r, 12)
	for from := range 12*8 - 33 + 1 {
		is(t, "33 bits", Sum(turnedBits(text, from, through)), Sum(text))
		unlike(t, text, turnedBits(text, from, through&^1))
		unlike(t, text, turnedBits(text, from, through&^(1<<32)))
	}
}

func TestEachTextOfTwoBytesHasASumOfItsOwn(t *testing.T) { // P2.3
	seen := map[uint32]int{}
	for n := range 1 << 16 {
		sum := Sum([]byte{byte(n), byte(n >> 8)})
		if other, met := seen[sum]; met {
			t.Fatalf("%#x and %#x have the sum %#x", n, other, sum)
		}
		seen[sum] = n
	}
}
