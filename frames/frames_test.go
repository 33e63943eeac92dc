package frames

import (
	"bytes"
	"encoding/binary"
	"encoding/hex"
	"hash/crc32"
	"math"
	"math/rand"
	"slices"
	"strconv"
	"testing"

	"cardcase/api"
)

// is fails where an answer is another than the one that is asked for.
func is[T comparable](t *testing.T, what string, got, want T) {
	t.Helper()
	if got != want {
		t.Errorf("%s: %#v, want %#v", what, got, want)
	}
}

// frame makes the frame of a record that may be.
func frame(t *testing.T, record []byte) []byte {
	t.Helper()
	f, e := Frame(record)
	if e != api.OK {
		t.Fatalf("Frame of %d bytes: %v", len(record), e)
	}
	return f
}

// framesOf makes the frames of some texts, one behind the other.
func framesOf(t *testing.T, texts ...string) []byte {
	t.Helper()
	var b []byte
	for _, text := range texts {
		b = append(b, frame(t, []byte(text))...)
	}
	return b
}

// plainFrame lays a frame as the chapter's 'Words' say it, with the head and the sum that it is handed.
func plainFrame(head, turned uint32, record []byte, sum uint32) []byte {
	b := binary.LittleEndian.AppendUint32(nil, head)
	b = binary.LittleEndian.AppendUint32(b, turned)
	b = append(b, record...)
	return binary.LittleEndian.AppendUint32(b, sum)
}

// goodFrame is a plainFrame with the numbers that a record of so many bytes has, also of one that is too long.
func goodFrame(record []byte) []byte {
	head := uint32(len(record) + 1)
	return plainFrame(head, ^head, record, crc32.ChecksumIEEE(record))
}

// found is a record, and where its frame begins.
type found struct {
	at     int
	record string
}

// plainFirst tells the first frame by the chapter's 'Words'.
func plainFirst(b []byte) (record []byte, size int, there bool) {
	for n := 0; n <= api.MaxRecord && n+12 <= len(b); n++ {
		if bytes.Equal(b[:n+12], goodFrame(b[8:n+8])) {
			return b[8 : n+8], n + 12, true
		}
	}
	return nil, 0, false
}

// plainAll tells the frames by plainFirst, and where they end.
func plainAll(b []byte) ([]found, int) {
	var list []found
	at := 0
	for {
		record, size, there := plainFirst(b[at:])
		if !there {
			return list, at
		}
		list = append(list, found{at, string(record)})
		at += size
	}
}

// all tells what All goes over.
func all(b []byte) []found {
	var list []found
	for at, record := range All(b) {
		list = append(list, found{at, string(record)})
	}
	return list
}

// hasNone fails where some bytes have a frame, by whatever call it is told.
func hasNone(t *testing.T, what string, b []byte) {
	t.Helper()
	record, size, there := First(b)
	if record != nil || size != 0 || there {
		t.Errorf("%s: First: %d bytes, %d, %v, want none", what, len(record), size, there)
	}
	is(t, what+": All", len(all(b)), 0)
	is(t, what+": End", End(b), 0)
}

// hasThese fails where the records of some bytes are others than those that are asked for.
func hasThese(t *testing.T, what string, b []byte, want []found, end int) {
	t.Helper()
	if got := all(b); !slices.Equal(got, want) {
		t.Errorf("%s: All of %d bytes: %v, want %v", what, len(b), got, want)
	}
	is(t, what+": End", End(b), end)
	record, size, there := First(b)
	is(t, what+": First: there", there, len(want) > 0)
	if len(want) > 0 {
		is(t, what+": First: record", string(record), want[0].record)
		is(t, what+": First: size", size, len(want[0].record)+12)
	}
}

// randomBytes tells n bytes.
func randomBytes(r *rand.Rand, n int) []byte {
	b := make([]byte, n)
	r.Read(b)
	return b
}

func TestFrameIsLaidAsTheWordsSay(t *testing.T) { // P3.1
	for record, want := range map[string]string{
		"":     "01000000feffffff00000000",
		"a":    "02000000fdffffff6143beb7e8",
		"abc":  "04000000fbffffff616263c2412435",
		"\x00": "02000000fdffffff008def02d2",
	} {
		is(t, "Frame of "+strconv.Quote(record), hex.EncodeToString(frame(t, []byte(record))), want)
	}
	is(t, "Frame of nil", hex.EncodeToString(frame(t, nil)), "01000000feffffff00000000")
}

func TestFrameOfManyLengths(t *testing.T) { // P3.1
	r := rand.New(rand.NewSource(1))
	for _, n := range []int{2, 3, 4, 7, 8, 9, 254, 255, 256, 257, 4096, 32766, 32767, 32768} {
		record := randomBytes(r, n)
		f := frame(t, record)
		is(t, "Frame of "+strconv.Itoa(n), bytes.Equal(f, goodFrame(record)), true)
		is(t, "Size of "+strconv.Itoa(n), Size(record), n+12)
		got, size, there := First(f)
		is(t, "First: record", bytes.Equal(got, record), true)
		is(t, "First: size", size, n+12)
		is(t, "First: there", there, true)
		is(t, "End", End(f), n+12)
	}
}

func TestRecordsThatAreTooLong(t *testing.T) { // P3.1
	for _, n := range []int{32769, 32770, 65535, 65536, 1 << 20} {
		f, e := Frame(make([]byte, n))
		is(t, "Frame", e, api.ErrLong)
		is(t, "Frame: nothing", f == nil, true)
		is(t, "Size", Size(make([]byte, n)), 0)
	}
}

func TestSize(t *testing.T) { // P3.1
	is(t, "Size of nil", Size(nil), 12)
	is(t, "Size of none", Size([]byte{}), 12)
	for n := range 300 {
		record := make([]byte, n)
		is(t, "Size", Size(record), n+12)
		is(t, "Frame has as many", len(frame(t, record)), n+12)
	}
}

func TestFrameChangesAndKeepsNothingHandedIn(t *testing.T) { // P3.1
	room := []byte("record and more")
	record := room[:6]
	f := frame(t, record)
	is(t, "the record, and the room behind it", string(room), "record and more")
	was := string(f)
	room[0] = 'x'
	is(t, "the frame", string(f), was)
	f[8] = 'y'
	is(t, "the record", string(record), "xecord")
	other := frame(t, record)
	f[9] = 'z'
	is(t, "another frame", string(other), string(goodFrame([]byte("xecord"))))
}

func TestFirstOfMore(t *testing.T) { // P3.1
	f := framesOf(t, "a")
	for _, behind := range [][]byte{nil, {0}, []byte("x"), f, make([]byte, 40), []byte("\x02\x00\x00\x00\xfd\xff\xff\xffa"), bytes.Repeat([]byte{0xff}, 20)} {
		record, size, there := First(append(bytes.Clone(f), behind...))
		is(t, "First: record", string(record), "a")
		is(t, "First: size", size, 13)
		is(t, "First: there", there, true)
	}
}

func TestFirstOfARecordOfNoBytes(t *testing.T) { // P3.1
	record, size, there := First(framesOf(t, "", "a"))
	is(t, "First: record", len(record), 0)
	is(t, "First: size", size, 12)
	is(t, "First: there", there, true)
}

func TestFewBytesHaveNoFrame(t *testing.T) { // P3.1
	hasNone(t, "nil", nil)
	hasNone(t, "none", []byte{})
	whole := framesOf(t, "", "some record", string(make([]byte, 300)))
	for _, record := range all(whole) {
		f := goodFrame([]byte(record.record))
		for n := range f {
			hasNone(t, "a frame of which there is less", f[:n])
		}
	}
	// The bytes that lack are not taken from the room behind.
	hasNone(t, "a frame's bytes in the room behind", whole[:11])
}

func TestHeadsOutOfBounds(t *testing.T) { // P3.1
	long := make([]byte, 1<<17)
	for _, n := range []int{32769, 32770, 65535, 65536, 1<<17 - 1} {
		hasNone(t, "a record of "+strconv.Itoa(n), goodFrame(long[:n]))
	}
	for _, head := range []uint32{0, 32770, 1 << 16, 1<<31 - 1, 1 << 31, 1<<31 + 1, math.MaxUint32 - 12, math.MaxUint32 - 1, math.MaxUint32} {
		for _, n := range []int{0, 1, 40} {
			hasNone(t, "a head of "+strconv.FormatUint(uint64(head), 10), plainFrame(head, ^head, long[:n], crc32.ChecksumIEEE(long[:n])))
		}
	}
}

func TestHeadThatIsNotTurned(t *testing.T) { // P3.1
	record := []byte("some record")
	head, sum := uint32(len(record)+1), crc32.ChecksumIEEE(record)
	for _, turned := range []uint32{0, head, head - 1, ^head + 1, ^head - 1, ^head ^ 0xff000000, ^(head - 1), math.MaxUint32} {
		hasNone(t, "turned otherwise", plainFrame(head, turned, record, sum))
	}
}

func TestHeadThatSaysAnotherLength(t *testing.T) { // P3.1
	record := []byte("some record")
	sum := crc32.ChecksumIEEE(record)
	for head := range uint32(40) {
		if int(head) != len(record)+1 {
			hasNone(t, "another length", plainFrame(head, ^head, record, sum))
		}
	}
}

func TestSumThatIsNotTheRecords(t *testing.T) { // P3.1
	for _, text := range []string{"", "a", "some record"} {
		record := []byte(text)
		head, sum := uint32(len(record)+1), crc32.ChecksumIEEE(record)
		for _, other := range []uint32{^sum, sum + 1, sum - 1, sum ^ 1<<31, crc32.ChecksumIEEE(append(record, 0)), crc32.ChecksumIEEE(goodFrame(record)[:8+len(record)])} {
			hasNone(t, "another sum of "+text, plainFrame(head, ^head, record, other))
		}
	}
}

func TestEachBitCounts(t *testing.T) { // P3.1
	for _, text := range []string{"", "a", "some record"} {
		f := framesOf(t, text)
		for bit := range 8 * len(f) {
			other := append(bytes.Clone(f), make([]byte, 300)...)
			other[bit/8] ^= 1 << (bit % 8)
			hasNone(t, "bit "+strconv.Itoa(bit)+" of the frame of "+text, other)
		}
	}
}

func TestAllGoesOverThemInOrder(t *testing.T) { // P3.1
	hasThese(t, "one", framesOf(t, "a"), []found{{0, "a"}}, 13)
	hasThese(t, "some", framesOf(t, "bc", "", "a", ""), []found{{0, "bc"}, {14, ""}, {26, "a"}, {39, ""}}, 51)
	hasThese(t, "the same twice", framesOf(t, "a", "a"), []found{{0, "a"}, {13, "a"}}, 26)
	long := string(bytes.Repeat([]byte("long"), 8192))
	hasThese(t, "a long one ahead", framesOf(t, long, "a"), []found{{0, long}, {32780, "a"}}, 32793)
}

func TestTheyEndWhereThereIsNone(t *testing.T) { // P3.1
	two := framesOf(t, "a", "bc")
	want := []found{{0, "a"}, {13, "bc"}}
	torn := framesOf(t, "torn")
	for what, behind := range map[string][]byte{
		"x":                      []byte("x"),
		"a nought":               {0},
		"noughts, then a frame":  append(make([]byte, 4), framesOf(t, "far")...),
		"x, then a frame":        append([]byte("x"), framesOf(t, "far")...),
		"less of a frame":        torn[:len(torn)-1],
		"a frame with a bad sum": append(torn[:len(torn)-1:len(torn)-1], torn[len(torn)-1]^1),
		"a frame without a head": torn[4:],
	} {
		hasThese(t, what, append(bytes.Clone(two), behind...), want, 27)
	}
	hasThese(t, "the first one does not count", append([]byte("x"), two...), nil, 0)
}

func TestAFrameWithinARecord(t *testing.T) { // P3.1
	inner := framesOf(t, "inner")
	hasThese(t, "told as a record alone", framesOf(t, string(inner), "x"), []found{{0, string(inner)}, {29, "x"}}, 42)
}

func TestAllMayBeLeftAtAnyTime(t *testing.T) { // P3.1
	records := all(framesOf(t, "a", "bc", "", "def"))
	going := All(framesOf(t, "a", "bc", "", "def"))
	for n := 1; n <= len(records)+1; n++ {
		var got []found
		for at, record := range going {
			got = append(got, found{at, string(record)})
			if len(got) == n {
				break
			}
		}
		is(t, "left behind some", slices.Equal(got, records[:min(n, len(records))]), true)
	}
}

func TestAllMayBeGoneOverAgain(t *testing.T) { // P3.1
	going := All(framesOf(t, "a", "bc"))
	want := []found{{0, "a"}, {13, "bc"}}
	for range 3 {
		var got []found
		for at, record := range going {
			got = append(got, found{at, string(record)})
			clear(record)
		}
		is(t, "again", slices.Equal(got, want), true)
	}
	pairs := 0
	for outer := range going {
		for inner := range going {
			if outer <= inner {
				pairs++
			}
		}
	}
	is(t, "one within the other", pairs, 3)
	for range All(nil) {
		t.Error("All of nil tells something")
	}
}

func TestAnswersAreNewMemory(t *testing.T) { // P3.1
	b := framesOf(t, "abc", "def")
	was := string(b)
	first, _, _ := First(b)
	for _, record := range All(b) {
		for i := range record[:cap(record)] {
			record[:cap(record)][i] = 'x'
		}
	}
	for i := range first[:cap(first)] {
		first[:cap(first)][i] = 'y'
	}
	is(t, "what was handed in", string(b), was)
	again, _, _ := First(b)
	is(t, "another answer", string(again), "abc")
	var list [][]byte
	for _, record := range All(b) {
		list = append(list, record)
	}
	list[0] = append(list[0], "123456789012345"...)
	is(t, "the next record", string(list[1]), "def")
}

func TestAllKeepsNothingHandedIn(t *testing.T) { // P3.1
	b := framesOf(t, "abc", "def")
	going := All(b)
	clear(b)
	var got []found
	for at, record := range going {
		got = append(got, found{at, string(record)})
	}
	is(t, "as they were at the call", slices.Equal(got, []found{{0, "abc"}, {15, "def"}}), true)
	room := append(framesOf(t, "abc"), "room behind"...)
	was := string(room)
	First(room[:15])
	all(room[:15])
	End(room[:15])
	is(t, "bytes, and the room behind them", string(room), was)
}

func TestFramesWithNoughtsBehindThem(t *testing.T) { // P3.2
	r := rand.New(rand.NewSource(2))
	for range 300 {
		var b []byte
		var want []found
		for range r.Intn(6) {
			record := randomBytes(r, r.Intn(50))
			want = append(want, found{len(b), string(record)})
			b = append(b, frame(t, record)...)
		}
		end := len(b)
		b = append(b, make([]byte, r.Intn(60))...)
		hasThese(t, "with noughts behind", b, want, end)
	}
}

func TestRecordsOfNoughts(t *testing.T) { // P3.2
	for n := range 60 {
		record := string(make([]byte, n))
		b := framesOf(t, record, record)
		want := []found{{0, record}, {n + 12, record}}
		for behind := range 30 {
			hasThese(t, "noughts in noughts", append(bytes.Clone(b), make([]byte, behind)...), want, 2*n+24)
		}
	}
}

func TestBytesThatBeginWithNoughts(t *testing.T) { // P3.2
	noughts := make([]byte, 1<<17)
	for _, n := range []int{1, 2, 4, 7, 8, 11, 12, 13, 300, 32780, 1 << 17} {
		hasNone(t, strconv.Itoa(n)+" noughts", noughts[:n])
	}
	for n := 4; n < 40; n++ {
		hasNone(t, "noughts, then a frame", append(noughts[:n:n], framesOf(t, "a")...))
		hasNone(t, "noughts, then ones", append(noughts[:n:n], bytes.Repeat([]byte{0xff}, 40)...))
	}
}

// Of a head that is cut, whatever the length that it says, nothing is taken for a frame: noughts turned are ones.
func TestHeadsThatAreCutOff(t *testing.T) { // P3.2
	b := make([]byte, api.MaxRecord+100)
	for n := range api.MaxRecord + 1 {
		head := binary.LittleEndian.AppendUint32(nil, uint32(n+1))
		head = binary.LittleEndian.AppendUint32(head, ^uint32(n+1))
		for cut := range head {
			clear(b[:8])
			copy(b, head[:cut])
			if _, _, there := First(b); there || End(b) != 0 {
				t.Fatalf("the head of %d bytes, cut off behind %d, has a frame", n, cut)
			}
		}
	}
}

func TestTheLastHeadIsCutOff(t *testing.T) { // P3.2
	two := framesOf(t, "a", "")
	want := []found{{0, "a"}, {13, ""}}
	for _, record := range []string{"", "b", string(make([]byte, 255)), string(make([]byte, 256)), string(make([]byte, 32768))} {
		last := framesOf(t, record)
		for cut := range 8 {
			b := append(bytes.Clone(two), last[:cut]...)
			hasThese(t, "with nothing behind", b, want, 25)
			hasThese(t, "with noughts behind", append(b, make([]byte, len(last))...), want, 25)
		}
	}
}

// A frame that is cut off behind its head, too, is none, unless what lacks was noughts.
func TestFramesThatAreCutOff(t *testing.T) { // P3.1, P3.2
	for _, record := range []string{"", "a", "some record", "some\x00\x00\x00"} {
		f := framesOf(t, record)
		for cut := range f {
			b := append(bytes.Clone(f[:cut]), make([]byte, len(f))...)
			if bytes.Equal(b[:len(f)], f) {
				hasThese(t, "nothing lacks", b, []found{{0, record}}, len(f))
			} else {
				hasNone(t, "cut off behind "+strconv.Itoa(cut), b)
			}
		}
	}
}

// TestAgainstTheWords holds all calls against what the chapter's 'Words' say, on frames in which something was changed.
func TestAgainstTheWords(t *testing.T) { // P3.1, P3.2
	r := rand.New(rand.NewSource(3))
	for range 2000 {
		var b []byte
		for range r.Intn(5) {
			b = append(b, frame(t, randomBytes(r, r.Intn(20)))...)
		}
		b = append(b, make([]byte, r.Intn(20))...)
		for range r.Intn(3) {
			b = changed(r, b)
		}
		want, end := plainAll(b)
		hasThese(t, "changed", b, want, end)
		if t.Failed() {
			t.FailNow()
		}
	}
}

// changed tells bytes in which something is another, lacks, or is too much.
func changed(r *rand.Rand, b []byte) []byte {
	at := r.Intn(len(b) + 1)
	switch r.Intn(4) {
	case 0:
		return b[:at]
	case 1:
		return slices.Insert(b, at, randomBytes(r, r.Intn(3))...)
	case 2:
		return append(b[:at], b[min(len(b), at+r.Intn(15)):]...)
	default:
		clear(b[at:min(len(b), at+r.Intn(5))])
		return b
	}
}

func TestExamples(t *testing.T) { // P3.1, P3.2
	that := frame(t, []byte("a"))
	is(t, "Frame(a)", hex.EncodeToString(that), "02000000"+"fdffffff"+"61"+"43beb7e8")
	record, size, there := First(append(bytes.Clone(that), 'x'))
	is(t, "First(that and x): record", string(record), "a")
	is(t, "First(that and x): size", size, 13)
	is(t, "First(that and x): there", there, true)
	is(t, "End(that and that and x)", End(slices.Concat(that, that, []byte("x"))), 26)
	hasNone(t, "First(noughts)", make([]byte, 30))
}
