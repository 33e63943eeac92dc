package ber_test

import (
	"bytes"
	"encoding/hex"
	"math"
	"math/big"
	"math/rand"
	"slices"
	"strconv"
	"strings"
	"testing"

	"cardcase/api"
	"cardcase/ber"
)

// is fails where an answer is another than the one that is asked for.
func is[T comparable](t *testing.T, what string, got, want T) {
	t.Helper()
	if got != want {
		t.Errorf("%s: %#v, want %#v", what, got, want)
	}
}

// equal tells whether two values are the same, with nil and empty the same, by other means than Same.
func equal(a, b api.Ber) bool {
	if a.Class != b.Class || a.Num != b.Num || a.Cons != b.Cons || string(a.Bytes) != string(b.Bytes) || len(a.Items) != len(b.Items) {
		return false
	}
	for i := range a.Items {
		if !equal(a.Items[i], b.Items[i]) {
			return false
		}
	}
	return true
}

// isValue fails where a value is another than the one that is asked for.
func isValue(t *testing.T, what string, got, want api.Ber) {
	t.Helper()
	if !equal(got, want) {
		t.Errorf("%s: %v, want %v", what, got, want)
	}
}

// plainLength tells a length as the chapter's 'Words' say it.
func plainLength(n int) []byte {
	if n < 128 {
		return []byte{byte(n)}
	}
	b := big.NewInt(int64(n)).Bytes()
	return append([]byte{byte(128 + len(b))}, b...)
}

// plainBytes tells a value's bytes as the chapter's 'Words' say them.
func plainBytes(v api.Ber) []byte {
	tag := int(v.Class)*64 + int(v.Num)
	inside := slices.Clone(v.Bytes)
	if v.Cons {
		tag += 32
		inside = nil
		for _, item := range v.Items {
			inside = append(inside, plainBytes(item)...)
		}
	}
	return slices.Concat([]byte{byte(tag)}, plainLength(len(inside)), inside)
}

// plainInt tells a whole number's bytes: the fewest that tell it in two's complement.
func plainInt(n int64) []byte {
	for size := 1; ; size++ {
		half := new(big.Int).Lsh(big.NewInt(1), uint(8*size-1))
		big64 := big.NewInt(n)
		if big64.Cmp(half) >= 0 || big64.Cmp(new(big.Int).Neg(half)) < 0 {
			continue
		}
		if n < 0 {
			big64.Add(big64, new(big.Int).Lsh(half, 1))
		}
		return big64.FillBytes(make([]byte, size))
	}
}

// plainRead reads the value that some bytes begin with, and tells how many it has, or 0 if there is none.
func plainRead(b []byte, depth int) (api.Ber, int) {
	if len(b) < 2 || depth > api.MaxDepth || b[0]%32 == 31 {
		return api.Ber{}, 0
	}
	for _, head := range []int{2, 3, 4, 5} {
		if head > len(b) {
			break
		}
		size := 0
		if head == 2 {
			size = int(b[1])
		} else {
			size = int(new(big.Int).SetBytes(b[2:head]).Int64())
		}
		if !bytes.Equal(plainLength(size), b[1:head]) || head+size > len(b) {
			continue
		}
		v := api.Ber{Class: b[0] / 64, Num: b[0] % 32, Cons: b[0]/32%2 == 1}
		return plainInside(v, b[head:head+size], depth, head+size)
	}
	return api.Ber{}, 0
}

// plainInside tells a value with what it holds, and its size, or 0 if it can't hold these bytes.
func plainInside(v api.Ber, inside []byte, depth, size int) (api.Ber, int) {
	if !v.Cons {
		v.Bytes = inside
		return v, size
	}
	for len(inside) > 0 {
		item, n := plainRead(inside, depth+1)
		if n == 0 {
			return api.Ber{}, 0
		}
		v.Items = append(v.Items, item)
		inside = inside[n:]
	}
	return v, size
}

// encoded tells the bytes of a value that may be.
func encoded(t *testing.T, v api.Ber) []byte {
	t.Helper()
	b, e := ber.Encode(v)
	if e != api.OK {
		t.Fatalf("Encode of %v: %v", v, e)
	}
	return b
}

// isRefused fails where Check and Encode do not refuse a value so.
func isRefused(t *testing.T, what string, v api.Ber, want api.Errno) {
	t.Helper()
	is(t, what+": Check", ber.Check(v), want)
	b, e := ber.Encode(v)
	is(t, what+": Encode", e, want)
	is(t, what+": Encode tells nothing", len(b), 0)
}

// isGood fails where Check, Encode, Decode of a value do not answer as of one that may be.
func isGood(t *testing.T, what string, v api.Ber) {
	t.Helper()
	is(t, what+": Check", ber.Check(v), api.OK)
	b, e := ber.Encode(v)
	is(t, what+": Encode", e, api.OK)
	if !bytes.Equal(b, plainBytes(v)) {
		t.Errorf("%s: Encode tells %d bytes that are others than the Words say", what, len(b))
	}
	again, e := ber.Decode(b)
	is(t, what+": Decode", e, api.OK)
	is(t, what+": Decode tells the value", equal(again, v), true)
}

// isNone fails where Decode does not refuse bytes so.
func isNone(t *testing.T, what string, b []byte, want api.Errno) {
	t.Helper()
	v, e := ber.Decode(b)
	is(t, what+": Decode", e, want)
	isValue(t, what+": Decode tells nothing", v, api.Ber{})
}

// unhex reads bytes that are written to the base 16, with or without spaces.
func unhex(t *testing.T, s string) []byte {
	t.Helper()
	b, err := hex.DecodeString(strings.ReplaceAll(s, " ", ""))
	if err != nil {
		t.Fatal(err)
	}
	return b
}

// text is a value of Num 4 that holds n bytes.
func text(n int) api.Ber { return api.Ber{Num: 4, Bytes: bytes.Repeat([]byte{'t'}, n)} }

// list is a list, made by no call.
func list(l ...api.Ber) api.Ber { return api.Ber{Num: 16, Cons: true, Items: l} }

// nested is a value in so many lists.
func nested(lists int, v api.Ber) api.Ber {
	for range lists {
		v = list(v)
	}
	return v
}

// nestedBytes are the bytes of lists one in the other, so many, behind and ahead of what else the inmost one holds.
func nestedBytes(lists int, inside ...byte) []byte {
	for range lists {
		inside = slices.Concat([]byte{0x30}, plainLength(len(inside)), inside)
	}
	return inside
}

// randomValue tells a value that may be.
func randomValue(r *rand.Rand, depth int) api.Ber {
	v := api.Ber{Class: uint8(r.Intn(4)), Num: uint8(r.Intn(31)), Cons: r.Intn(2) == 0}
	if !v.Cons {
		v.Bytes = randomBytes(r, []int{0, 1, r.Intn(10), r.Intn(140), r.Intn(400)}[r.Intn(5)])
		return v
	}
	for range r.Intn(4) {
		if depth < api.MaxDepth {
			v.Items = append(v.Items, randomValue(r, depth+1))
		}
	}
	return v
}

// randomBytes tells n bytes.
func randomBytes(r *rand.Rand, n int) []byte {
	b := make([]byte, n)
	r.Read(b)
	return b
}

func TestBytesOfValues(t *testing.T) { // P5.1
	for _, c := range []struct {
		v    api.Ber
		want string
	}{
		{api.Ber{}, "00 00"},
		{api.Ber{Num: 1, Bytes: []byte{255}}, "01 01 ff"},
		{api.Ber{Num: 30}, "1e 00"},
		{api.Ber{Class: 1, Num: 2}, "42 00"},
		{api.Ber{Class: 2, Num: 3, Bytes: []byte{0}}, "83 01 00"},
		{api.Ber{Class: 3, Num: 30, Bytes: []byte{1, 2}}, "de 02 01 02"},
		{api.Ber{Cons: true}, "20 00"},
		{api.Ber{Class: 1, Num: 0, Cons: true}, "60 00"},
		{api.Ber{Class: 2, Num: 30, Cons: true, Items: []api.Ber{{}}}, "be 02 00 00"},
		{api.Ber{Class: 3, Num: 30, Cons: true}, "fe 00"},
		{api.Ber{Num: 4, Bytes: []byte("\xff\x00\x80")}, "04 03 ff 00 80"},
		{api.Ber{Num: 16, Bytes: []byte{7}}, "10 01 07"},
		{list(), "30 00"},
		{list(list(), list(list())), "30 06 30 00 30 02 30 00"},
		{list(api.Ber{Num: 4, Bytes: []byte("ab")}, api.Ber{Num: 2, Bytes: []byte{9}}), "30 07 04 02 61 62 02 01 09"},
		{api.Ber{Num: 17, Cons: true, Items: []api.Ber{{Num: 5}}}, "31 02 05 00"},
	} {
		is(t, "Encode to "+c.want, hex.EncodeToString(encoded(t, c.v)), strings.ReplaceAll(c.want, " ", ""))
		is(t, "Check of "+c.want, ber.Check(c.v), api.OK)
		v, e := ber.Decode(unhex(t, c.want))
		is(t, "Decode of "+c.want, e, api.OK)
		isValue(t, "Decode of "+c.want, v, c.v)
	}
}

func TestEveryTag(t *testing.T) { // P5.1
	for tag := range 256 {
		b := []byte{byte(tag), 0}
		if tag%32 == 31 {
			isNone(t, "the tag "+strconv.Itoa(tag), b, api.ErrBer)
			continue
		}
		v := api.Ber{Class: uint8(tag / 64), Num: uint8(tag % 32), Cons: tag/32%2 == 1}
		is(t, "Encode", string(encoded(t, v)), string(b))
		isGood(t, "the tag "+strconv.Itoa(tag), v)
	}
}

func TestLengths(t *testing.T) { // P5.1
	for n, want := range map[int]string{
		0: "00", 1: "01", 127: "7f", 128: "8180", 129: "8181", 255: "81ff", 256: "820100", 257: "820101",
		32767: "827fff", 32768: "828000", 65532: "82fffc",
	} {
		b := encoded(t, text(n))
		is(t, "the length "+strconv.Itoa(n), hex.EncodeToString(b[1:len(b)-n]), want)
		isGood(t, "a text of "+strconv.Itoa(n), text(n))
	}
	for n := range 600 {
		isGood(t, "a text of "+strconv.Itoa(n), text(n))
		isGood(t, "a list of such a text", list(text(n)))
	}
	for n := 118; n < 128; n++ { // the list's length is one byte up to 127, then two
		isGood(t, "a list of some", list(text(n), text(2), text(0)))
	}
}

func TestClassesAndNumsThatMayNotBe(t *testing.T) { // P5.1
	for n := range 256 {
		want := api.ErrArg
		if n < 4 {
			want = api.OK
		}
		is(t, "Check of Class "+strconv.Itoa(n), ber.Check(api.Ber{Class: uint8(n)}), want)
		want = api.ErrArg
		if n < 31 {
			want = api.OK
		}
		is(t, "Check of Num "+strconv.Itoa(n), ber.Check(api.Ber{Num: uint8(n)}), want)
		is(t, "Check of Num, Cons", ber.Check(api.Ber{Num: uint8(n), Cons: true}), want)
	}
	for _, v := range badValues() {
		isRefused(t, "may not be", v, api.ErrArg)
	}
}

// badValues tells one of each kind of values that may not be.
func badValues() []api.Ber {
	return []api.Ber{
		{Class: 4}, {Class: 5, Num: 4}, {Class: 255, Cons: true}, {Class: 64},
		{Num: 31}, {Num: 32}, {Num: 255, Cons: true}, {Class: 4, Num: 31},
		{Cons: true, Bytes: []byte{0}},
		{Cons: true, Bytes: []byte("ab"), Items: []api.Ber{{}}},
		{Num: 4, Items: []api.Ber{{}}},
		{Num: 16, Items: []api.Ber{{}, {}}},
		{Num: 4, Bytes: []byte("ab"), Items: []api.Ber{{}}},
	}
}

func TestWhatIsNotHeldMayBeEmpty(t *testing.T) { // P5.1
	isGood(t, "no Bytes of one that is Cons", api.Ber{Cons: true, Bytes: []byte{}})
	isGood(t, "no Items of one that is not", api.Ber{Num: 4, Items: []api.Ber{}})
	isGood(t, "empty", api.Ber{Bytes: []byte{}, Items: []api.Ber{}})
	isGood(t, "empty, Cons", api.Ber{Cons: true, Bytes: []byte{}, Items: []api.Ber{}})
	isGood(t, "empty inside", list(api.Ber{Cons: true, Bytes: []byte{}}, api.Ber{Items: []api.Ber{}}))
}

func TestWhatMayNotBeInside(t *testing.T) { // P5.1
	for _, bad := range badValues() {
		isRefused(t, "the only Item", list(bad), api.ErrArg)
		isRefused(t, "the last Item", list(text(1), list(), bad), api.ErrArg)
		isRefused(t, "the first Item", list(bad, text(1), list()), api.ErrArg)
		isRefused(t, "in the midst", list(list(text(1)), list(text(1), bad, text(1)), list()), api.ErrArg)
		isRefused(t, "deep", nested(15, bad), api.ErrArg)
	}
}

func TestDepth(t *testing.T) { // P5.1
	for lists := range 40 {
		for what, inmost := range map[string]api.Ber{"a text": text(1), "a list": list(), "an empty one": {}} {
			v := nested(lists, inmost)
			if lists < api.MaxDepth {
				isGood(t, what+" in "+strconv.Itoa(lists), v)
			} else {
				isRefused(t, what+" in "+strconv.Itoa(lists), v, api.ErrDeep)
			}
		}
	}
	isGood(t, "many, none too deep", list(nested(14, text(1)), nested(14, list()), text(1), nested(13, list(text(1), text(2)))))
	isRefused(t, "the last one too deep", list(text(1), nested(3, text(1)), nested(15, text(1))), api.ErrDeep)
	isRefused(t, "the first one too deep", list(nested(15, text(1)), nested(3, text(1)), text(1)), api.ErrDeep)
	isRefused(t, "the last one in the inmost", nested(14, list(text(1), list(), list(text(1)))), api.ErrDeep)
	isRefused(t, "Cons of another tag", api.Ber{Class: 2, Num: 3, Cons: true, Items: []api.Ber{nested(15, text(1))}}, api.ErrDeep)
}

func TestHowLongAValueMayBe(t *testing.T) { // P5.1
	isGood(t, "65536 bytes", text(65532))
	isRefused(t, "65537 bytes", text(65533), api.ErrLong)
	for _, n := range []int{65534, 65535, 65536, 65537, 70000, 1 << 20, 1 << 24, 1<<24 + 1} {
		isRefused(t, strconv.Itoa(n)+" bytes and a head", text(n), api.ErrLong)
	}
	isGood(t, "a list of 65536 bytes", list(text(65528)))
	isRefused(t, "a list of 65537 bytes", list(text(65529)), api.ErrLong)
	isRefused(t, "a list of a text that may be alone", list(text(65532)), api.ErrLong)
	isGood(t, "lists of 65536 bytes", nested(15, text(65532-15*4)))
	isRefused(t, "lists of 65537 bytes", nested(15, text(65533-15*4)), api.ErrLong)
	isGood(t, "a list of two, 65536 bytes", list(text(32766), text(32758)))
	isRefused(t, "a list of two, 65537 bytes", list(text(32766), text(32759)), api.ErrLong)
	isGood(t, "many Items, 65536 bytes", list(slices.Repeat([]api.Ber{{}}, 32766)...))
	isRefused(t, "many Items, 65538 bytes", list(slices.Repeat([]api.Ber{{}}, 32767)...), api.ErrLong)
	isRefused(t, "a great many Items", list(slices.Repeat([]api.Ber{{}}, 1<<20)...), api.ErrLong)
	half := list(slices.Repeat([]api.Ber{{}}, 20000)...)
	isRefused(t, "together too many", list(half, half), api.ErrLong)
	isRefused(t, "too long in the midst", list(text(1), list(text(70000)), text(1)), api.ErrLong)
}

func TestWhichRefusalIsFirst(t *testing.T) { // P5.1
	long, deep := text(70000), nested(20, text(1))
	for _, bad := range badValues() {
		isRefused(t, "what may not be, and long", list(long, bad), api.ErrArg)
		isRefused(t, "what may not be, and deep", list(deep, bad), api.ErrArg)
		isRefused(t, "what may not be, ahead", list(bad, deep, long), api.ErrArg)
		isRefused(t, "all of them", list(long, deep, bad, deep, long), api.ErrArg)
		for lists := 14; lists < 40; lists++ {
			isRefused(t, "what may not be, in "+strconv.Itoa(lists), nested(lists, bad), api.ErrArg)
		}
	}
	isRefused(t, "long, then deep", list(long, deep), api.ErrDeep)
	isRefused(t, "deep, then long", list(deep, long), api.ErrDeep)
	isRefused(t, "a long one too deep", nested(16, long), api.ErrDeep)
	isRefused(t, "many, then deep", list(append(slices.Repeat([]api.Ber{{}}, 40000), deep)...), api.ErrDeep)
	isRefused(t, "itself may not be, and long", api.Ber{Num: 31, Bytes: make([]byte, 70000)}, api.ErrArg)
	isRefused(t, "a text that is Cons, and long", api.Ber{Num: 4, Cons: true, Bytes: make([]byte, 70000)}, api.ErrArg)
}

func TestBytesThatAreNone(t *testing.T) { // P5.1
	for _, s := range []string{
		"",                           // nothing
		"00", "02", "04", "30", "ff", // a tag alone
		"1f 00", "3f 00", "5f 00", "7f 00", "9f 00", "bf 00", "df 00", "ff 00", "1f 01 00", "1f 81 80", // Num 31
		"04 01", "04 02 61", "04 7f 61 62", // less than the length says
		"30 01", "30 02 04", "30 04 02 01 05",
		"04 80", "30 80 00 00", "04 80 61", // no length follows
		"04 81", "04 82", "04 82 01", "04 84 01 00 00", // the length is cut
		"04 81 00", "04 81 01 61", "30 81 02 05 00", "04 82 00 00", "04 82 00 01 61", "04 83 00 00 01 61", // more bytes than need be
		"04 ff", "04 fe 01 02", "04 84 ff ff ff ff", "04 88 ff ff ff ff ff ff ff ff", "04 88 7f ff ff ff ff ff ff ff",
		"04 89 01 00 00 00 00 00 00 00 01 61", "04 88 80 00 00 00 00 00 00 01 61", "04 84 80 00 00 01 61", "04 85 01 00 00 00 01 61",
		"04 00 00", "04 01 61 62", "30 00 30", "02 01 05 02 01 06", "00 00 00 00", // more than one value's
		"30 01 02", "30 02 02 01", "30 03 02 02 05", // an Item is cut
		"30 03 02 02 05 06", "30 05 04 04 61 62 63 64", "30 04 30 03 05 00 05 00", // an Item goes beyond what it is in
		"30 03 05 00 05", "30 03 02 00 1f", "30 04 05 00 1f 00", "30 04 04 81 01 61", "30 03 04 81 00", "30 02 04 80", // none inside
		"30 05 30 03 02 01 05 05", "30 04 30 01 02 05",
	} {
		isNone(t, s, unhex(t, s), api.ErrBer)
	}
	isNone(t, "nil", nil, api.ErrBer)
}

func TestLengthsThatHaveMoreBytesThanNeedBe(t *testing.T) { // P5.1
	for _, n := range []int{0, 1, 2, 126, 127, 128, 129, 255, 256, 257, 1000, 65000} {
		inside := bytes.Repeat([]byte{'i'}, n)
		fewest := big.NewInt(int64(n)).Bytes()
		for more := range 9 {
			length := append(make([]byte, more), fewest...)
			b := slices.Concat([]byte{4, byte(128 + len(length))}, length, inside)
			what := strconv.Itoa(n) + " with " + strconv.Itoa(len(length)) + " bytes of length"
			if more == 0 && n >= 128 {
				v, e := ber.Decode(b)
				is(t, what, e, api.OK)
				isValue(t, what, v, api.Ber{Num: 4, Bytes: inside})
			} else {
				isNone(t, what, b, api.ErrBer)
				isNone(t, what+", in a list", nestedBytes(1, b...), api.ErrBer)
			}
		}
	}
}

// TestFirstBytesOfLengths has each byte begin a length, with many or few bytes behind it.
func TestFirstBytesOfLengths(t *testing.T) { // P5.1
	r := rand.New(rand.NewSource(7))
	for first := range 256 {
		for many := range 400 {
			for _, behind := range [][]byte{make([]byte, many), bytes.Repeat([]byte{0xff}, many), randomBytes(r, many)} {
				b := append([]byte{4, byte(first)}, behind...)
				want, size := plainRead(b, 1)
				v, e := ber.Decode(b)
				if size == 0 || size != len(b) {
					want, size = api.Ber{}, 0
				}
				if (e == api.OK) != (size > 0) || size == 0 && e != api.ErrBer || !equal(v, want) {
					t.Fatalf("Decode of % x: %v, %v, want %v", b, v, e, want)
				}
			}
		}
	}
}

func TestHowManyBytesAreRead(t *testing.T) { // P5.1
	v, e := ber.Decode(plainBytes(text(65532)))
	is(t, "65536 bytes", e, api.OK)
	isValue(t, "65536 bytes", v, text(65532))
	for what, b := range map[string][]byte{
		"a text of 65537 bytes":          plainBytes(text(65533)),
		"a value, and much behind it":    append([]byte{5, 0}, make([]byte, 65535)...),
		"noughts":                        make([]byte, 65537),
		"Num 31 ahead":                   bytes.Repeat([]byte{0x1f}, 65537),
		"lists that are deep, and long":  nestedBytes(20, plainBytes(text(66000))...),
		"a text of many":                 plainBytes(text(1 << 20)),
		"less than the length says":      append([]byte{4, 0x83, 2, 0, 0}, make([]byte, 65532)...),
		"more of length than there need": append([]byte{4, 0x83, 0, 0, 1}, make([]byte, 65532)...),
	} {
		isNone(t, what, b, api.ErrLong)
	}
	isNone(t, "noughts, just as many as may be", make([]byte, 65536), api.ErrBer)
	isNone(t, "a length of 65536, in 65536 bytes", append([]byte{4, 0x83, 1, 0, 0}, make([]byte, 65531)...), api.ErrBer)
}

func TestDepthOfBytes(t *testing.T) { // P5.1
	for lists := 1; lists < 60; lists++ {
		for what, inside := range map[string][]byte{"nothing": nil, "a text": {4, 1, 'a'}, "two": {5, 0, 5, 0}} {
			depth := lists
			if inside != nil {
				depth++
			}
			what += " in " + strconv.Itoa(lists)
			if depth <= api.MaxDepth {
				v, e := ber.Decode(nestedBytes(lists, inside...))
				is(t, what, e, api.OK)
				is(t, what, string(plainBytes(v)), string(nestedBytes(lists, inside...)))
			} else {
				isNone(t, what, nestedBytes(lists, inside...), api.ErrDeep)
			}
		}
	}
	isNone(t, "as deep as may go", nestedBytes(16000), api.ErrDeep)
}

// What is wrong in one of two Items, and what is too deep in the other: the one that stands ahead is told.
func TestWhatIsMetFirst(t *testing.T) { // P5.1
	deep := nestedBytes(20, 5, 0)
	for _, s := range []string{"1f 00", "04 81 01 61", "04 80", "30 03 02 02 05"} {
		bad := unhex(t, s)
		isNone(t, s+" behind", nestedBytes(1, slices.Concat(deep, bad)...), api.ErrDeep)
		isNone(t, s+" ahead", nestedBytes(1, slices.Concat(bad, deep)...), api.ErrBer)
		isNone(t, s+" behind, a value ahead", nestedBytes(2, slices.Concat([]byte{5, 0}, deep, bad)...), api.ErrDeep)
		isNone(t, s+" ahead, a value ahead", nestedBytes(2, slices.Concat([]byte{5, 0}, bad, deep)...), api.ErrBer)
	}
	isNone(t, "wrong as deep as may be", nestedBytes(15, 0x1f, 0), api.ErrBer)
	isNone(t, "cut as deep as may be", nestedBytes(15, 4, 2, 'a'), api.ErrBer)
	isNone(t, "wrong too deep, behind what is too deep", nestedBytes(16, 5, 0, 0x1f, 0), api.ErrDeep)
}

// TestAllShortBytes holds Decode against the Words at all bytes of some lengths.
func TestAllShortBytes(t *testing.T) { // P5.1, P5.3
	against := func(b []byte) {
		want, size := plainRead(b, 1)
		v, e := ber.Decode(b)
		if size == 0 || size != len(b) {
			if e != api.ErrBer || !equal(v, api.Ber{}) {
				t.Fatalf("Decode of % x: %v, %v, want none", b, v, e)
			}
			return
		}
		if e != api.OK || !equal(v, want) {
			t.Fatalf("Decode of % x: %v, %v, want %v", b, v, e, want)
		}
		if !bytes.Equal(encoded(t, v), b) {
			t.Fatalf("Encode of Decode of % x: % x", b, encoded(t, v))
		}
	}
	for one := range 256 {
		against([]byte{byte(one)})
		for two := range 256 {
			against([]byte{byte(one), byte(two)})
		}
	}
	some := []byte{0, 1, 2, 3, 4, 5, 6, 0x1f, 0x20, 0x30, 0x3f, 0x7f, 0x80, 0x81, 0x82, 0xff}
	for n := range 1 << 20 { // five of these bytes
		b := make([]byte, 5)
		for i := range b {
			b[i] = some[n>>(4*i)%16]
		}
		against(b)
		against(b[:3])
		against(b[:4])
	}
}

// TestChangedBytes holds Decode against the Words at values' bytes in which something was changed.
func TestChangedBytes(t *testing.T) { // P5.1, P5.3
	r := rand.New(rand.NewSource(1))
	for range 20000 {
		b := plainBytes(randomValue(r, 1+r.Intn(16)))
		for range r.Intn(3) {
			b = changed(r, b)
		}
		want, size := plainRead(b, 1)
		v, e := ber.Decode(b)
		if size > 0 && size == len(b) {
			if e != api.OK || !equal(v, want) {
				t.Fatalf("Decode of % x: %v, %v, want %v", b, v, e, want)
			}
		} else if e != api.ErrBer && e != api.ErrDeep || !equal(v, api.Ber{}) {
			t.Fatalf("Decode of % x: %v, %v, want none", b, v, e)
		}
	}
}

// changed tells bytes in which something is another, lacks, or is too much.
func changed(r *rand.Rand, b []byte) []byte {
	at := r.Intn(len(b) + 1)
	switch r.Intn(4) {
	case 0:
		return b[:at]
	case 1:
		return slices.Insert(b, at, randomBytes(r, 1+r.Intn(3))...)
	case 2:
		return append(b[:at], b[min(len(b), at+1+r.Intn(3)):]...)
	default:
		b = bytes.Clone(b)
		if at < len(b) {
			b[at] ^= 1 << r.Intn(8)
		}
		return b
	}
}

func TestTruths(t *testing.T) { // P5.2
	isValue(t, "Truth(true)", ber.Truth(true), api.Ber{Num: 1, Bytes: []byte{255}})
	isValue(t, "Truth(false)", ber.Truth(false), api.Ber{Num: 1, Bytes: []byte{0}})
	for n := range 256 {
		truth, there := ber.TruthOf(api.Ber{Num: 1, Bytes: []byte{byte(n)}})
		is(t, "TruthOf: the truth of "+strconv.Itoa(n), truth, n == 255)
		is(t, "TruthOf: whether there is one of "+strconv.Itoa(n), there, n == 255 || n == 0)
	}
	for class := range uint8(4) {
		for num := range uint8(31) {
			truth, there := ber.TruthOf(api.Ber{Class: class, Num: num, Bytes: []byte{255}})
			is(t, "TruthOf of any tag", truth && there, true)
			truth, there = ber.TruthOf(api.Ber{Class: class, Num: num, Bytes: []byte{0}})
			is(t, "TruthOf of any tag", !truth && there, true)
		}
	}
	for what, v := range map[string]api.Ber{
		"nothing":      {Num: 1},
		"two bytes":    {Num: 1, Bytes: []byte{255, 255}},
		"two noughts":  {Num: 1, Bytes: []byte{0, 0}},
		"many bytes":   {Num: 1, Bytes: make([]byte, 70000)},
		"Cons":         {Num: 1, Cons: true},
		"Cons, Bytes":  {Num: 1, Cons: true, Bytes: []byte{255}},
		"Cons, nought": {Num: 1, Cons: true, Bytes: []byte{0}},
		"a list of it": list(api.Ber{Num: 1, Bytes: []byte{255}}),
	} {
		truth, there := ber.TruthOf(v)
		is(t, "TruthOf of "+what, truth, false)
		is(t, "TruthOf of "+what+": whether there is one", there, false)
	}
}

// someNumbers tells numbers at the edges of how many bytes there are, and others.
func someNumbers() []int64 {
	l := []int64{0, math.MaxInt64, math.MinInt64}
	for bit := range 63 {
		n := int64(1) << bit
		l = append(l, n-2, n-1, n, n+1, -n-2, -n-1, -n, -n+1, math.MaxInt64-n, math.MinInt64+n)
	}
	r := rand.New(rand.NewSource(2))
	for range 2000 {
		l = append(l, int64(r.Uint64())>>r.Intn(64))
	}
	for n := int64(-1000); n < 1000; n++ {
		l = append(l, n)
	}
	return l
}

func TestNumbers(t *testing.T) { // P5.2
	for n, want := range map[int64]string{
		0: "00", 1: "01", 5: "05", 127: "7f", 128: "0080", 255: "00ff", 256: "0100", 32767: "7fff", 32768: "008000",
		-1: "ff", -128: "80", -129: "ff7f", -256: "ff00", -257: "feff", -32768: "8000", -32769: "ff7fff",
		math.MaxInt64: "7fffffffffffffff", math.MinInt64: "8000000000000000", math.MaxInt32: "7fffffff", math.MaxUint32: "00ffffffff",
	} {
		is(t, "Int of "+strconv.FormatInt(n, 10), hex.EncodeToString(ber.Int(n).Bytes), want)
	}
	for _, n := range someNumbers() {
		what := strconv.FormatInt(n, 10)
		isValue(t, "Int of "+what, ber.Int(n), api.Ber{Num: 2, Bytes: plainInt(n)})
		isValue(t, "Enum of "+what, ber.Enum(n), api.Ber{Num: 10, Bytes: plainInt(n)})
		for _, v := range []api.Ber{ber.Int(n), ber.Enum(n), {Class: 2, Num: 0, Bytes: plainInt(n)}, {Class: 3, Num: 30, Bytes: plainInt(n)}, {Num: 4, Bytes: plainInt(n)}} {
			got, there := ber.IntOf(v)
			is(t, "IntOf: the number "+what, got, n)
			is(t, "IntOf: whether there is one of "+what, there, true)
		}
	}
}

func TestWhatHoldsNoNumber(t *testing.T) { // P5.2
	none := map[string]api.Ber{
		"Cons":             {Num: 2, Cons: true},
		"Cons, Bytes":      {Num: 2, Cons: true, Bytes: []byte{5}},
		"a list of one":    list(ber.Int(5)),
		"nothing":          {Num: 2},
		"no Bytes":         {Num: 2, Bytes: []byte{}},
		"many noughts":     {Num: 2, Bytes: make([]byte, 70000)},
		"nine bytes":       {Num: 2, Bytes: []byte{1, 2, 3, 4, 5, 6, 7, 8, 9}},
		"nine, nought":     {Num: 2, Bytes: []byte{0, 0x80, 0, 0, 0, 0, 0, 0, 0}},
		"nine, below 0":    {Num: 2, Bytes: []byte{0xff, 0x7f, 0, 0, 0, 0, 0, 0, 0}},
		"sixteen":          {Num: 2, Bytes: append([]byte{1}, make([]byte, 15)...)},
		"eight, too many":  {Num: 2, Bytes: []byte{0, 0x7f, 0, 0, 0, 0, 0, 0}},
		"eight, too many-": {Num: 2, Bytes: []byte{0xff, 0x80, 0, 0, 0, 0, 0, 0}},
	}
	for _, n := range someNumbers() {
		ahead := byte(0)
		if n < 0 {
			ahead = 0xff
		}
		none["too many bytes of "+strconv.FormatInt(n, 10)] = api.Ber{Num: 2, Bytes: append([]byte{ahead}, plainInt(n)...)}
	}
	for what, v := range none {
		n, there := ber.IntOf(v)
		is(t, "IntOf of "+what, n, 0)
		is(t, "IntOf of "+what+": whether there is one", there, false)
	}
}

// TestNumbersOfAllShortBytes tells of each one or two bytes whether they are a whole number's.
func TestNumbersOfAllShortBytes(t *testing.T) { // P5.2
	want := map[string]int64{}
	for n := int64(-1 << 15); n < 1<<15; n++ {
		want[string(plainInt(n))] = n
	}
	for n := range 1<<16 + 1<<8 {
		b := []byte{byte(n)}
		if n >= 1<<8 {
			b = []byte{byte(n>>8) - 1, byte(n)}
		}
		number, is := want[string(b)]
		got, there := ber.IntOf(api.Ber{Num: 2, Bytes: b})
		if got != number || there != is {
			t.Fatalf("IntOf of % x: %d, %v, want %d, %v", b, got, there, number, is)
		}
	}
}

func TestTexts(t *testing.T) { // P5.2
	for _, s := range []string{"", "a", "ab", "\x00", "\xff\xfe", "Z\xc3\xbcrich", strings.Repeat("x", 70000)} {
		isValue(t, "Text", ber.Text(s), api.Ber{Num: 4, Bytes: []byte(s)})
	}
	isRefused(t, "Check of a Text that is too long", ber.Text(strings.Repeat("x", 65533)), api.ErrLong)
}

func TestListsAndSets(t *testing.T) { // P5.2
	bad := api.Ber{Class: 9, Num: 99, Cons: true, Bytes: []byte("b"), Items: []api.Ber{text(2)}}
	for _, l := range [][]api.Ber{nil, {}, {text(1)}, {text(1), text(1)}, {text(3), {}, list(text(1), list())}, {bad, nested(20, bad)}} {
		isValue(t, "List", ber.List(l...), api.Ber{Num: 16, Cons: true, Items: l})
		isValue(t, "Set", ber.Set(l...), api.Ber{Num: 17, Cons: true, Items: l})
	}
	isValue(t, "in order", ber.Set(text(2), text(1), text(3)), api.Ber{Num: 17, Cons: true, Items: []api.Ber{text(2), text(1), text(3)}})
}

func TestTagged(t *testing.T) { // P5.2
	some := []api.Ber{{}, text(3), {Class: 3, Num: 30, Bytes: []byte{1}}, list(), list(text(1), list(text(2))), nested(20, text(1))}
	for _, v := range append(some, badValues()...) {
		for _, class := range []uint8{0, 1, 2, 3, 4, 64, 255} {
			for _, num := range []uint8{0, 1, 4, 16, 30, 31, 32, 255} {
				want := v
				want.Class, want.Num = class, num
				isValue(t, "Tagged", ber.Tagged(v, class, num), want)
			}
		}
	}
	is(t, "Check of a Class that may not be", ber.Check(ber.Tagged(text(1), 4, 0)), api.ErrArg)
	is(t, "Check of a Num that may not be", ber.Check(ber.Tagged(text(1), 0, 31)), api.ErrArg)
	is(t, "Encode", hex.EncodeToString(encoded(t, ber.Tagged(ber.List(ber.Int(5)), 1, 3))), "6303020105")
	is(t, "Encode", hex.EncodeToString(encoded(t, ber.Tagged(ber.Text("ab"), 2, 7))), "87026162")
}

// unlike tells values of which no two are the same, also such as may not be.
func unlike() []api.Ber {
	return append(badValues(),
		api.Ber{}, api.Ber{Class: 1}, api.Ber{Class: 3}, api.Ber{Num: 1}, api.Ber{Num: 30}, api.Ber{Cons: true}, api.Ber{Class: 1, Cons: true},
		api.Ber{Bytes: []byte{0}}, api.Ber{Bytes: []byte{1}}, api.Ber{Bytes: []byte{0, 0}}, api.Ber{Bytes: []byte{0, 1}}, api.Ber{Bytes: []byte{1, 0}}, api.Ber{Bytes: []byte{5, 0}},
		text(1), text(127), text(128), text(129), text(256),
		list(), list(list()), list(api.Ber{}), list(api.Ber{}, api.Ber{}), list(list(), api.Ber{}), list(api.Ber{}, list()),
		list(list(), list()), list(list(list())), list(list(list()), list()), list(list(), list(list())), list(list(list(), list())),
		list(text(1)), list(text(2)), list(text(1), text(2)), list(text(2), text(1)), list(text(3)), list(list(text(1)), text(2)), list(list(text(1), text(2))),
		list(list(text(1)), list(text(2))), list(list(text(2)), list(text(1))), list(list(text(1), text(2)), list()), list(list(), list(text(1), text(2))),
		nested(14, text(1)), nested(14, text(2)), nested(15, text(1)), nested(14, list()), nested(20, text(1)), nested(20, text(2)), nested(21, text(1)),
		api.Ber{Num: 17, Cons: true}, api.Ber{Num: 17, Cons: true, Items: []api.Ber{text(1)}}, api.Ber{Class: 1, Num: 16, Cons: true, Items: []api.Ber{text(1)}},
		api.Ber{Num: 4, Bytes: []byte("t"), Items: []api.Ber{list()}},
	)
}

func TestSame(t *testing.T) { // P5.2
	l, again := unlike(), unlike()
	for i := range l {
		for j := range again {
			is(t, "Same of "+strconv.Itoa(i)+" and "+strconv.Itoa(j), ber.Same(l[i], again[j]), i == j)
		}
	}
	empty := api.Ber{Num: 16, Cons: true, Bytes: []byte{}, Items: []api.Ber{}}
	is(t, "nil and empty", ber.Same(list(), empty), true)
	is(t, "nil and empty", ber.Same(empty, list()), true)
	is(t, "nil and empty inside", ber.Same(list(text(0), list()), list(api.Ber{Num: 4, Items: []api.Ber{}}, empty)), true)
	is(t, "room behind", ber.Same(api.Ber{Bytes: []byte("abc")[:2]}, api.Ber{Bytes: []byte("abd")[:2]}), true)
	r := rand.New(rand.NewSource(3))
	for range 2000 {
		a := randomValue(r, 10)
		b, e := ber.Decode(plainBytes(a))
		is(t, "Decode", e, api.OK)
		is(t, "Same of a value and what Decode tells", ber.Same(a, b), true)
		c := randomValue(r, 10)
		is(t, "Same of any two", ber.Same(a, c), bytes.Equal(plainBytes(a), plainBytes(c)))
	}
}

func TestThereAndBack(t *testing.T) { // P5.3
	r := rand.New(rand.NewSource(4))
	for range 5000 {
		v := randomValue(r, 1)
		isGood(t, "a value", v)
		b := encoded(t, v)
		again, _ := ber.Decode(b)
		is(t, "Encode of Decode", string(encoded(t, again)), string(b))
		is(t, "Same", ber.Same(v, again), true)
	}
	for _, n := range someNumbers() {
		v, e := ber.Decode(encoded(t, ber.List(ber.Int(n), ber.Enum(n), ber.Truth(n > 0))))
		is(t, "Decode", e, api.OK)
		number, _ := ber.IntOf(v.Items[0])
		is(t, "the number", number, n)
		number, _ = ber.IntOf(v.Items[1])
		is(t, "the enumerated one", number, n)
		truth, there := ber.TruthOf(v.Items[2])
		is(t, "the truth", truth, n > 0)
		is(t, "the truth is there", there, true)
	}
}

func TestUnlikeValuesHaveUnlikeBytes(t *testing.T) { // P5.3
	seen := map[string]api.Ber{}
	lay := func(v api.Ber) {
		b, e := ber.Encode(v)
		if e != api.OK {
			return
		}
		if other, there := seen[string(b)]; there && !equal(v, other) {
			t.Errorf("% x are the bytes of %v and of %v", b, v, other)
		}
		seen[string(b)] = v
	}
	for _, v := range unlike() {
		lay(v)
		if b, e := ber.Encode(v); e == api.OK { // a text that holds a value's bytes is not that value in a list
			lay(api.Ber{Num: 4, Bytes: b})
			lay(api.Ber{Num: 16, Bytes: b})
			lay(list(v))
		}
	}
	r := rand.New(rand.NewSource(5))
	for range 3000 {
		lay(randomValue(r, 14))
	}
}

func TestWhatStandsBehind(t *testing.T) { // P5.3
	r := rand.New(rand.NewSource(6))
	values := []api.Ber{{}, list(), text(1), text(127), text(128), list(text(1), list()), nested(15, text(1)), nested(15, list())}
	for range 30 {
		values = append(values, randomValue(r, 12))
	}
	for _, v := range values {
		b := encoded(t, v)
		for next := range 256 {
			isNone(t, "a byte behind", append(slices.Clone(b), byte(next)), api.ErrBer)
		}
		isNone(t, "itself behind", slices.Concat(b, b), api.ErrBer)
		isNone(t, "another one behind", append(slices.Clone(b), 5, 0), api.ErrBer)
		isNone(t, "much behind", append(slices.Clone(b), make([]byte, 300)...), api.ErrBer)
		for cut := range b {
			isNone(t, "cut", b[:cut], api.ErrBer)
		}
	}
}

// filled tells a text's bytes with room behind them that is not nought.
func filled(s string) []byte {
	b := []byte(s + "room behind")
	return b[:len(s):len(b)]
}

func TestNothingHandedInIsChanged(t *testing.T) { // P5.1, P5.2
	items := []api.Ber{{Num: 4, Bytes: filled("one")}, list(api.Ber{Num: 4, Bytes: filled("two")}), text(9), text(8)}
	room := filled("")
	v := api.Ber{Num: 16, Cons: true, Bytes: room, Items: items[:2]}
	call := func() {
		ber.Check(v)
		ber.Encode(v)
		ber.Tagged(v, 1, 2)
		ber.List(items[:2]...)
		ber.Set(items[:2]...)
		ber.Same(v, v)
		ber.IntOf(items[0])
		ber.TruthOf(items[0])
	}
	call()
	is(t, "the room behind no Bytes", string(room[:cap(room)]), "room behind")
	for at, want := range []api.Ber{{Num: 4, Bytes: []byte("one")}, list(api.Ber{Num: 4, Bytes: []byte("two")}), text(9), text(8)} {
		isValue(t, "an Item, and the room behind", items[at], want)
	}
	is(t, "the room behind Bytes", string(items[0].Bytes[:14]), "oneroom behind")
	is(t, "the room behind Bytes inside", string(items[1].Items[0].Bytes[:14]), "tworoom behind")
	b := append(plainBytes(list(text(1), list(text(2)))), "room behind"...)
	was := string(b)
	if _, e := ber.Decode(b[:len(b)-11]); e != api.OK {
		t.Errorf("Decode: %v", e)
	}
	ber.Decode(b)
	ber.Decode(b[:5])
	is(t, "bytes, and the room behind them", string(b), was)
}

// scribble writes over all that a value holds, and over the room behind it.
func scribble(v api.Ber) {
	for i := range v.Bytes[:cap(v.Bytes)] {
		v.Bytes[:cap(v.Bytes)][i] = '#'
	}
	for i := range v.Items[:cap(v.Items)] {
		scribble(v.Items[:cap(v.Items)][i])
		v.Items[:cap(v.Items)][i] = api.Ber{Class: 2, Num: 29}
	}
}

func TestAnswersAreNewMemory(t *testing.T) { // P5.1, P5.2
	inner := list(api.Ber{Num: 4, Bytes: []byte("in")}, list())
	made := func() []api.Ber {
		return []api.Ber{inner, {Num: 4, Bytes: []byte("out")}, inner}
	}
	l := made()
	want := list(list(api.Ber{Num: 4, Bytes: []byte("in")}, list()), api.Ber{Num: 4, Bytes: []byte("out")}, list(api.Ber{Num: 4, Bytes: []byte("in")}, list()))
	for what, call := range map[string]func() api.Ber{
		"List":   func() api.Ber { return ber.List(l...) },
		"Set":    func() api.Ber { return ber.Tagged(ber.Set(l...), 0, 16) },
		"Tagged": func() api.Ber { return ber.Tagged(api.Ber{Class: 2, Cons: true, Items: l}, 0, 16) },
	} {
		first, second := call(), call()
		scribble(first)
		isValue(t, what+": what was handed in", list(l...), want)
		isValue(t, what+": another answer", second, want)
		// What stands in it twice shares nothing either.
		scribble(second.Items[0])
		isValue(t, what+": another Item", second.Items[2], want.Items[2])
		isValue(t, what+": what was handed in", list(l...), want)
	}
	for i := range l {
		kept := ber.List(l...)
		scribble(l[i])
		isValue(t, "List keeps nothing", kept, want)
		inner = list(api.Ber{Num: 4, Bytes: []byte("in")}, list())
		l = made()
	}
}

func TestBytesAreNewMemory(t *testing.T) { // P5.1
	v := list(api.Ber{Num: 4, Bytes: []byte("one")}, api.Ber{Num: 4, Bytes: []byte("two")})
	b, again := encoded(t, v), encoded(t, v)
	was := string(b)
	for i := range b[:cap(b)] {
		b[:cap(b)][i] = '#'
	}
	isValue(t, "the value that was laid", v, list(api.Ber{Num: 4, Bytes: []byte("one")}, api.Ber{Num: 4, Bytes: []byte("two")}))
	is(t, "another answer", string(again), was)
	read, _ := ber.Decode(again)
	other, _ := ber.Decode(again)
	clear(again)
	isValue(t, "a value whose bytes are changed", read, v)
	_ = append(read.Items[0].Bytes, "and more"...)
	_ = append(read.Items[0].Bytes[:0], "0123"...)
	is(t, "the next Item", string(read.Items[1].Bytes), "two")
	again = plainBytes(v)
	read, _ = ber.Decode(again)
	scribble(read)
	is(t, "the bytes that were read", string(again), was)
	isValue(t, "another value", other, v)
	alone := api.Ber{Num: 4, Bytes: []byte("alone")}
	b = encoded(t, alone)
	clear(b)
	is(t, "a text that was laid", string(alone.Bytes), "alone")
	truth, number := ber.Truth(true), ber.Int(5)
	scribble(truth)
	scribble(number)
	isValue(t, "another truth", ber.Truth(true), api.Ber{Num: 1, Bytes: []byte{255}})
	isValue(t, "another number", ber.Int(5), api.Ber{Num: 2, Bytes: []byte{5}})
}

func TestValuesThatAreVeryDeep(t *testing.T) { // P5.1, P5.2
	deep, again := nested(100000, text(1)), nested(100000, text(1))
	other, longer := nested(100000, text(2)), nested(100001, text(1))
	isRefused(t, "very deep", deep, api.ErrDeep)
	isRefused(t, "very deep, and may not be", nested(100000, api.Ber{Num: 31}), api.ErrArg)
	is(t, "Same", ber.Same(deep, again), true)
	is(t, "Same of unlike ones", ber.Same(deep, other), false)
	is(t, "Same of one that is deeper", ber.Same(deep, longer), false)
	is(t, "Same of List", ber.Same(ber.List(deep), longer), true)
	is(t, "Same of Tagged", ber.Same(ber.Tagged(deep, 0, 16), deep), true)
}

func TestExamples(t *testing.T) { // P5.1, P5.3
	is(t, "Encode(List(Int(5), Text(ab)))", hex.EncodeToString(encoded(t, ber.List(ber.Int(5), ber.Text("ab")))), "30070201050402"+"6162")
	is(t, "Encode(Int(-129))", hex.EncodeToString(encoded(t, ber.Int(-129))), "0202ff7f")
	is(t, "Encode(Int(128))", hex.EncodeToString(encoded(t, ber.Int(128))), "02020080")
	isNone(t, "Decode(04 81 01 61)", []byte{4, 0x81, 1, 0x61}, api.ErrBer)
	isNone(t, "Decode(04 02 61)", []byte{4, 2, 0x61}, api.ErrBer)
}
