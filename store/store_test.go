package store

import (
	"bytes"
	"math"
	"math/rand"
	"slices"
	"sort"
	"strconv"
	"strings"
	"testing"

	"cardcase/api"
	"cardcase/disk"
	"cardcase/frames"
)

// is fails where an answer is another than the one that is asked for.
func is[T comparable](t *testing.T, what string, got, want T) {
	t.Helper()
	if got != want {
		t.Errorf("%s: %#v, want %#v", what, got, want)
	}
}

// newDisk makes a disk that may be made.
func newDisk(t *testing.T, size int) *disk.Disk {
	t.Helper()
	d, e := disk.New(size)
	if e != api.OK {
		t.Fatalf("disk.New(%d): %v", size, e)
	}
	return d
}

// open opens the store of a disk that may be opened.
func open(t *testing.T, d *disk.Disk) *Store {
	t.Helper()
	s, e := Open(d)
	if e != api.OK || s == nil {
		t.Fatalf("Open: %v", e)
	}
	return s
}

// newStore opens the store of a new disk.
func newStore(t *testing.T, size int) *Store {
	t.Helper()
	return open(t, newDisk(t, size))
}

// put puts changes that go.
func put(t *testing.T, s *Store, l ...api.Change) {
	t.Helper()
	if e := s.Put(l...); e != api.OK {
		t.Fatalf("Put of %d changes: %v", len(l), e)
	}
}

// crash tells the disk that a crash leaves.
func crash(t *testing.T, d *disk.Disk, keep, torn int) *disk.Disk {
	t.Helper()
	left, e := d.Crash(api.Crash{Keep: keep, Torn: torn})
	if e != api.OK {
		t.Fatalf("Crash(%d, %d): %v", keep, torn, e)
	}
	return left
}

// set and gone are changes.
func set(key, value string) api.Change { return api.Change{Key: key, Value: value} }
func gone(key string) api.Change       { return api.Change{Key: key, Gone: true} }

// many are changes that set n keys, from a number on, to one value.
func many(from, n int, value string) []api.Change {
	var l []api.Change
	for i := range n {
		l = append(l, set("k"+strconv.Itoa(1000+from+i), value))
	}
	return l
}

// sure fails at once where something is refused that a test needs.
func sure(t *testing.T, what string, e api.Errno) {
	t.Helper()
	if e != api.OK {
		t.Fatalf("%s: %v", what, e)
	}
}

// told tells a table as one text.
func told(pairs []api.Pair) string {
	var b strings.Builder
	for _, p := range pairs {
		b.WriteString(strconv.Quote(p.Key) + ": " + strconv.Quote(p.Value) + "\n")
	}
	return b.String()
}

// model is a table told by the chapter's 'Words' alone.
type model map[string]string

// behind tells another one, behind changes.
func (m model) behind(l []api.Change) model {
	other := model{}
	for k, v := range m {
		other[k] = v
	}
	for _, c := range l {
		delete(other, c.Key)
		if !c.Gone {
			other[c.Key] = c.Value
		}
	}
	return other
}

// pairs tells it, rising by its keys.
func (m model) pairs() []api.Pair {
	var l []api.Pair
	for k, v := range m {
		l = append(l, api.Pair{Key: k, Value: v})
	}
	sort.Slice(l, func(i, j int) bool { return l[i].Key < l[j].Key })
	return l
}

// weight tells how heavy it is.
func (m model) weight() int {
	sum := 0
	for k, v := range m {
		sum += 16 + len(k) + len(v)
	}
	return sum
}

// has fails where a store has another table than the one that is asked for, by whatever call it is told.
func has(t *testing.T, what string, s *Store, m model) {
	t.Helper()
	is(t, what+": All", told(s.All()), told(m.pairs()))
	is(t, what+": Weight", s.Weight(), m.weight())
	for k, v := range m {
		got, there := s.Get(k)
		is(t, what+": Get", got, v)
		is(t, what+": Get: there", there, true)
	}
}

// lasts fails where a disk keeps another table, as it stands, as it lasts, and as it is left by a crash that keeps all.
func lasts(t *testing.T, what string, s *Store, m model) {
	t.Helper()
	has(t, what, s, m)
	has(t, what+", opened anew", open(t, s.Disk()), m)
	has(t, what+", behind a crash that keeps nothing", open(t, crash(t, s.Disk(), 0, 0)), m)
	has(t, what+", behind a crash that keeps all", open(t, crash(t, s.Disk(), -1, 0)), m)
}

func TestOpenRefuses(t *testing.T) { // P4.1
	for name, d := range map[string]*disk.Disk{"none": nil, "a zero one": new(disk.Disk)} {
		s, e := Open(d)
		is(t, "Open of "+name, e, api.ErrNil)
		is(t, "Open of "+name+": nothing", s, nil)
	}
	for _, size := range []int{1, 2, 128, 255} {
		s, e := Open(newDisk(t, size))
		is(t, "Open", e, api.ErrArg)
		is(t, "Open: nothing", s, nil)
	}
}

func TestOpenOfNewDisks(t *testing.T) { // P4.1
	for _, size := range []int{256, 257, 1000, 1 << 18} {
		d := newDisk(t, size)
		s := open(t, d)
		has(t, "a new disk", s, model{})
		is(t, "Broken", s.Broken(), false)
		if s.Disk() != d {
			t.Error("Open did not keep the disk itself")
		}
		is(t, "nothing was changed", disk.Same(d, newDisk(t, size)), true)
		is(t, "Steps", d.Steps(), 0)
	}
}

func TestOpenDoesNoStep(t *testing.T) { // P4.1
	for _, armed := range []int{-1, 0, 7} {
		s := newStore(t, 1000)
		put(t, s, set("a", "1"))
		d := s.Disk()
		sure(t, "Write", d.Write(999, []byte{7}))
		sure(t, "Arm", d.Arm(armed))
		was, steps := d.Copy(), d.Steps()
		has(t, "on a disk on which something waits", open(t, d), model{"a": "1"})
		is(t, "Steps", d.Steps(), steps)
		is(t, "the disk is as it was", disk.Same(d, was), true)
	}
}

func TestPutDoesChanges(t *testing.T) { // P4.1
	s := newStore(t, 4000)
	m := model{}
	for _, l := range [][]api.Change{
		{set("b", "1")},
		{set("a", "2"), set("c", "")},
		{set("b", "3")},
		{},
		nil,
		{gone("c"), gone("not there")},
		{set("a", "2")},
		{set("x", "1"), set("x", "2"), gone("y"), set("y", "4"), set("z", "5"), gone("z"), gone("a"), set("a", "6")},
		{gone("a"), gone("b"), gone("x"), gone("y")},
		{gone("a")},
		{set("a", "again")},
	} {
		put(t, s, l...)
		m = m.behind(l)
		lasts(t, "behind "+strconv.Itoa(len(l))+" changes", s, m)
		is(t, "Broken", s.Broken(), false)
	}
}

func TestPutAnyBytes(t *testing.T) { // P4.1, P4.2
	s := newStore(t, 8000)
	var l []api.Change
	for i := range 32 {
		l = append(l, set(string([]byte{byte(i * 8), 0, 255}), string([]byte{255, byte(i), 0})))
	}
	l = append(l, set("\x00", "\x00"), set("\x00\x00", ""), set("é\xff", "\n\xc3"))
	f, _ := frames.Frame([]byte("a frame of its own"))
	l = append(l, set(string(f), string(f)+string(f)))
	put(t, s, l...)
	lasts(t, "any bytes", s, model{}.behind(l))
}

func TestChangesThatMayNotBe(t *testing.T) { // P4.1
	long := strings.Repeat("x", 1<<15)
	tooMany := make([]api.Change, 101)
	for i := range tooMany {
		tooMany[i] = set("a", "")
	}
	for name, l := range map[string][]api.Change{
		"no key":                      {{}},
		"no key, gone":                {gone("")},
		"a key of 201":                {set(long[:201], "v")},
		"a key of 201, gone":          {gone(long[:201])},
		"a value of 8193":             {set("k", long[:8193])},
		"a value of 2^15":             {set("k", long)},
		"gone with a value":           {{Key: "a", Value: "1", Gone: true}},
		"one of some":                 {set("k", "v"), set("", "v"), set("l", "v")},
		"the last one":                {set("k", "v"), set("l", "v"), gone("")},
		"101":                         tooMany,
		"101 that are gone":           slices.Repeat([]api.Change{gone("k")}, 101),
		"16385 bytes":                 {set("k", long[:8192]), set("l", long[:8190]), set("m", "")},
		"16385 bytes, set again":      {set("k", long[:8192]), set("k", long[:8191])},
		"16385 bytes in keys, too":    append(slices.Repeat([]api.Change{gone(long[:200])}, 81), set(long[:185], "")),
		"much that would not be long": {set("k", long[:8192]), gone("k"), set("k", long[:8192]), gone("k")},
	} {
		s := newStore(t, 1<<18)
		put(t, s, set("a", "1"))
		was, steps := s.Disk().Copy(), s.Disk().Steps()
		is(t, name, s.Put(l...), api.ErrArg)
		is(t, name+": Steps", s.Disk().Steps(), steps)
		is(t, name+": the disk is as it was", disk.Same(s.Disk(), was), true)
		lasts(t, name, s, model{"a": "1"})
		put(t, s, set("b", "2"))
		lasts(t, name+", then one that goes", s, model{"a": "1", "b": "2"})
	}
}

func TestChangesAtTheirBounds(t *testing.T) { // P4.1
	long := strings.Repeat("x", 8192)
	for name, l := range map[string][]api.Change{
		"a key of 1":           {set("k", "v")},
		"a key of 200":         {set(long[:200], "v")},
		"a value of 8192":      {set("k", long)},
		"both":                 {set(long[:200], long)},
		"100":                  many(0, 100, "v"),
		"100 of one key":       slices.Repeat([]api.Change{set("k", "v")}, 100),
		"16384 bytes":          {set("k", long), set("l", long[:8190])},
		"16384 bytes of gones": append(slices.Repeat([]api.Change{gone(long[:200])}, 81), gone(long[:184])),
	} {
		s := newStore(t, 1<<18)
		put(t, s, l...)
		lasts(t, name, s, model{}.behind(l))
	}
}

func TestKeysAtTheirBound(t *testing.T) { // P4.1
	s := newStore(t, 1<<18)
	put(t, s, many(0, 100, "v")...)
	is(t, "101 of them at once are too many changes", s.Put(many(100, 101, "w")...), api.ErrArg)
	put(t, s, many(100, 99, "w")...)
	put(t, s, set("the 200th", ""))
	m := model{}.behind(many(0, 100, "v")).behind(many(100, 99, "w")).behind([]api.Change{set("the 200th", "")})
	lasts(t, "200 keys", s, m)
	steps := s.Disk().Steps()
	is(t, "one more", s.Put(set("more", "")), api.ErrLong)
	is(t, "one more for one that is not there", s.Put(gone("not there"), set("more", "")), api.ErrLong)
	is(t, "two more for one", s.Put(gone("the 200th"), set("more", ""), set("most", "")), api.ErrLong)
	is(t, "Steps", s.Disk().Steps(), steps)
	lasts(t, "200 keys still", s, m)
	one := []api.Change{set("more", "1"), gone("the 200th"), set("k1000", "other")}
	put(t, s, one...)
	lasts(t, "one for another", s, m.behind(one))
}

func TestRoom(t *testing.T) { // P4.1
	for _, size := range []int{256, 257, 258, 259, 1000, 1001, 5000, 16384} {
		free := size/2 - 64 - 16 - 1
		s := newStore(t, size)
		steps := s.Disk().Steps()
		is(t, "a byte too much", s.Put(set("k", strings.Repeat("v", free+1))), api.ErrRoom)
		is(t, "a byte too much in the key", s.Put(set("kk", strings.Repeat("v", free))), api.ErrRoom)
		is(t, "Steps", s.Disk().Steps(), steps)
		lasts(t, "nothing yet", s, model{})
		full := set("k", strings.Repeat("v", free))
		put(t, s, full)
		m := model{}.behind([]api.Change{full})
		lasts(t, "just room", s, m)
		is(t, "Weight", s.Weight(), size/2-64)
		is(t, "one more", s.Put(set("l", "")), api.ErrRoom)
		is(t, "one byte more", s.Put(set("k", full.Value+"v")), api.ErrRoom)
		lasts(t, "as it was", s, m)
		put(t, s, set("k", strings.Repeat("w", free)))
		lasts(t, "others of as many bytes", s, model{"k": strings.Repeat("w", free)})
		put(t, s, set("k", "much"), gone("k"), set("l", strings.Repeat("x", free)))
		lasts(t, "room for the table behind all changes", s, model{"l": strings.Repeat("x", free)})
	}
}

func TestRoomForManySmallRows(t *testing.T) { // P4.1
	const size = 2*64 + 2*200*17
	s := newStore(t, size)
	var l []api.Change
	for i := range 200 {
		l = append(l, set(string([]byte{byte(i)}), ""))
	}
	put(t, s, l[:100]...)
	put(t, s, l[100:]...)
	is(t, "Weight", s.Weight(), 200*17)
	lasts(t, "200 keys of a byte", s, model{}.behind(l))
	is(t, "a byte more", s.Put(set("\x00", "v")), api.ErrRoom)
	put(t, s, set("\x01", ""))
	lasts(t, "200 keys of a byte, once more", s, model{}.behind(l))
}

func TestWhichErrorIsAhead(t *testing.T) { // P4.1
	bad, tooHeavy := set("", ""), set("k", strings.Repeat("v", 8192))
	s := newStore(t, 2*64+2*200*24)
	put(t, s, many(0, 100, "")...)
	put(t, s, many(100, 100, "")...)
	is(t, "ErrArg ahead of ErrLong", s.Put(set("more", ""), bad), api.ErrArg)
	is(t, "ErrLong ahead of ErrRoom", s.Put(set("more", tooHeavy.Value)), api.ErrLong)
	sure(t, "Arm", s.Disk().Arm(0))
	is(t, "ErrLong ahead of a step", s.Put(set("more", "")), api.ErrLong)
	is(t, "ErrRoom ahead of a step", s.Put(gone("k1000"), tooHeavy), api.ErrRoom)
	is(t, "not broken yet", s.Broken(), false)
	is(t, "a step", s.Put(set("k1000", "")), api.ErrStop)
	is(t, "ErrArg ahead of ErrBroken", s.Put(bad), api.ErrArg)
	is(t, "ErrLong ahead of ErrBroken", s.Put(set("more", "")), api.ErrLong)
	is(t, "ErrBroken ahead of ErrRoom", s.Put(gone("k1000"), tooHeavy), api.ErrBroken)
	is(t, "ErrBroken ahead of a step", s.Put(set("k1000", "")), api.ErrBroken)
	is(t, "ErrNil ahead of all", (*Store)(nil).Put(bad), api.ErrNil)
}

func TestErrFullAheadOfErrStop(t *testing.T) { // P4.1
	s := newStore(t, 1000)
	sure(t, "Limit", s.Disk().Limit(0))
	sure(t, "Arm", s.Disk().Arm(0))
	is(t, "the first error of a step", s.Put(set("a", "1")), api.ErrFull)
	is(t, "Broken", s.Broken(), false)
}

func TestFull(t *testing.T) { // P4.1, P4.3
	const size = 600
	first, second, third := set("a", strings.Repeat("1", 90)), set("b", strings.Repeat("2", 60)), set("a", "3")
	for limit := range size + 1 {
		s := newStore(t, size)
		put(t, s, set("old", "0"), first)
		m := model{"old": "0"}.behind([]api.Change{first})
		sure(t, "Limit", s.Disk().Limit(limit))
		for _, c := range []api.Change{second, third, gone("old"), gone("none")} {
			switch e := s.Put(c); e {
			case api.OK:
				m = m.behind([]api.Change{c})
			case api.ErrFull:
			default:
				t.Fatalf("limited to %d: Put: %v", limit, e)
			}
			lasts(t, "limited to "+strconv.Itoa(limit), s, m)
			is(t, "Broken", s.Broken(), false)
		}
		sure(t, "Limit", s.Disk().Limit(size))
		put(t, s, set("new", "9"))
		lasts(t, "it goes on", s, m.behind([]api.Change{set("new", "9")}))
	}
	s := newStore(t, size)
	sure(t, "Limit", s.Disk().Limit(0))
	is(t, "nothing may be written", s.Put(first), api.ErrFull)
	sure(t, "Limit", s.Disk().Limit(size))
	put(t, s, first)
	lasts(t, "all may be written", s, model{}.behind([]api.Change{first}))
}

// stepsOf tells how many steps a Put of these changes does on a copy of a store.
func stepsOf(t *testing.T, s *Store, l []api.Change) int {
	t.Helper()
	c := s.Copy()
	before := c.Disk().Steps()
	put(t, c, l...)
	return c.Disk().Steps() - before
}

func TestStop(t *testing.T) { // P4.1, P4.2
	s := newStore(t, 1000)
	put(t, s, set("a", "1"), set("b", "2"))
	was := model{"a": "1", "b": "2"}
	l := []api.Change{set("a", "3"), gone("b"), set("c", "4")}
	steps := stepsOf(t, s, l)
	if steps < 1 {
		t.Fatal("a Put that does no step can't last")
	}
	for n := range steps {
		c := s.Copy()
		sure(t, "Arm", c.Disk().Arm(n))
		is(t, "stopped", c.Put(l...), api.ErrStop)
		is(t, "Broken", c.Broken(), true)
		has(t, "its table is as it was", c, was)
		sure(t, "Arm", c.Disk().Arm(-1))
		before := c.Disk().Copy()
		is(t, "it puts nothing any more", c.Put(set("d", "5")), api.ErrBroken)
		is(t, "nor nothing", c.Put(), api.ErrBroken)
		is(t, "nor what is gone", c.Put(gone("a")), api.ErrBroken)
		is(t, "the disk is as it was", disk.Same(c.Disk(), before), true)
		is(t, "Broken", c.Broken(), true)
		has(t, "its table is as it was", c, was)
	}
	sure(t, "Arm", s.Disk().Arm(steps))
	put(t, s, l...)
	lasts(t, "just enough steps", s, was.behind(l))
}

func TestPutOfNothingLastsToo(t *testing.T) { // P4.1
	s := newStore(t, 1000)
	put(t, s)
	lasts(t, "of a new disk", s, model{})
	put(t, s, set("a", "1"))
	// Where a table stands that does not last yet, no changes make it last.
	l := []api.Change{set("a", "2")}
	for n := range stepsOf(t, s, l) {
		c := s.Copy()
		sure(t, "Arm", c.Disk().Arm(n))
		is(t, "Put", c.Put(l...), api.ErrStop)
		sure(t, "Arm", c.Disk().Arm(-1))
		again := open(t, c.Disk())
		v, _ := again.Get("a")
		put(t, again)
		lasts(t, "made to last", again, model{"a": v})
	}
}

func TestGet(t *testing.T) { // P4.2
	s := newStore(t, 1000)
	put(t, s, set("a", "1"), set("empty", ""), set("gone", "2"))
	put(t, s, gone("gone"))
	for key, want := range map[string]struct {
		value string
		there bool
	}{
		"a":                       {"1", true},
		"empty":                   {"", true},
		"gone":                    {},
		"A":                       {},
		"":                        {},
		"aa":                      {},
		"a\x00":                   {},
		strings.Repeat("a", 1000): {},
	} {
		v, there := s.Get(key)
		is(t, "Get of "+key, v, want.value)
		is(t, "Get of "+key+": there", there, want.there)
	}
}

func TestAllRises(t *testing.T) { // P4.2
	s := newStore(t, 4000)
	is(t, "of none", len(s.All()), 0)
	keys := []string{"b", "a", "ab", "B", "é", "\xff", "\x00", "10", "9", "a\x00", "aa"}
	for i, key := range keys {
		put(t, s, set(key, strconv.Itoa(i)))
	}
	for _, each := range []*Store{s, open(t, s.Disk())} {
		var got []string
		for _, p := range each.All() {
			got = append(got, p.Key)
		}
		want := slices.Sorted(slices.Values(keys))
		is(t, "in order", strings.Join(got, " "), strings.Join(want, " "))
	}
}

func TestAllIsNewMemory(t *testing.T) { // P4.2
	s := newStore(t, 1000)
	put(t, s, set("a", "1"), set("b", "2"))
	l := s.All()
	l[0] = api.Pair{Key: "x", Value: "y"}
	_ = append(l[:1], api.Pair{Key: "z"})
	lasts(t, "an answer was changed", s, model{"a": "1", "b": "2"})
}

func TestWhatIsHandedInIsNotKept(t *testing.T) { // P4.1
	s := newStore(t, 1000)
	room := []api.Change{set("a", "1"), set("b", "2"), set("room", "behind")}
	was := slices.Clone(room)
	put(t, s, room[:2]...)
	is(t, "it is as it was", slices.Equal(room, was), true)
	room[0] = set("x", "y")
	lasts(t, "what was handed in was changed", s, model{"a": "1", "b": "2"})
}

func TestWeight(t *testing.T) { // P4.2
	s := newStore(t, 1000)
	is(t, "of nothing", s.Weight(), 0)
	put(t, s, set("a", ""))
	is(t, "of a key", s.Weight(), 17)
	put(t, s, set("key", "value"))
	is(t, "of two", s.Weight(), 17+24)
	put(t, s, gone("a"), set("key", "v"))
	is(t, "of one again", s.Weight(), 20)
}

func TestCopyGoesOnApart(t *testing.T) { // P4.2
	s := newStore(t, 1000)
	put(t, s, set("a", "1"))
	c := s.Copy()
	if c.Disk() == s.Disk() || !disk.Same(c.Disk(), s.Disk()) {
		t.Fatal("Copy: not over a copy of the disk")
	}
	is(t, "Steps", c.Disk().Steps(), s.Disk().Steps())
	put(t, s, set("b", "2"))
	lasts(t, "a copy of what was", c, model{"a": "1"})
	put(t, c, gone("a"), set("c", "3"))
	lasts(t, "a copy that went on", c, model{"c": "3"})
	lasts(t, "what was copied", s, model{"a": "1", "b": "2"})
	put(t, s, set("b", "4"))
	put(t, c, set("c", "5"))
	lasts(t, "a copy that went on", c, model{"c": "5"})
	lasts(t, "what was copied", s, model{"a": "1", "b": "4"})
}

func TestCopyOfABrokenOne(t *testing.T) { // P4.2
	s := newStore(t, 1000)
	put(t, s, set("a", "1"))
	sure(t, "Arm", s.Disk().Arm(stepsOf(t, s, []api.Change{set("a", "2")})-1))
	is(t, "Put", s.Put(set("a", "2")), api.ErrStop)
	c := s.Copy()
	is(t, "Broken", c.Broken(), true)
	has(t, "as it was", c, model{"a": "1"})
	is(t, "the same disk", disk.Same(c.Disk(), s.Disk()), true)
	is(t, "Put", c.Put(set("a", "3")), api.ErrBroken)
	ahead := newStore(t, 1000).Copy()
	put(t, ahead, set("a", "1"))
	lasts(t, "a copy of a new one", ahead, model{"a": "1"})
}

func TestNoStore(t *testing.T) { // P4.1, P4.2
	for name, s := range map[string]*Store{"nil": nil, "zero": new(Store)} {
		is(t, name+": Put", s.Put(set("a", "1")), api.ErrNil)
		is(t, name+": Put of nothing", s.Put(), api.ErrNil)
		is(t, name+": Put of what may not be", s.Put(set("", "")), api.ErrNil)
		v, there := s.Get("a")
		is(t, name+": Get", v, "")
		is(t, name+": Get: there", there, false)
		is(t, name+": All", len(s.All()), 0)
		is(t, name+": Weight", s.Weight(), 0)
		is(t, name+": Broken", s.Broken(), false)
		is(t, name+": Disk", s.Disk(), nil)
		is(t, name+": Copy", s.Copy(), nil)
	}
}

// eachCrash goes over crashes of a disk: each number of writes that are kept, each number of bytes of the next one.
func eachCrash(t *testing.T, d *disk.Disk, most int, do func(left *disk.Disk)) {
	t.Helper()
	for keep := range d.Waits() + 1 {
		last := ""
		for torn := range most {
			left := crash(t, d, keep, torn)
			b, _ := left.Read(0, left.Size())
			// A crash that tears no other bytes leaves nothing that was not looked at.
			if string(b) != last {
				do(left)
			}
			last = string(b)
		}
	}
}

// onDisk tells the table that a disk has.
func onDisk(t *testing.T, d *disk.Disk) string {
	t.Helper()
	return told(open(t, d).All())
}

// TestWholeOrNot stops a disk at each step of some Puts, and crashes it in each way there.
func TestWholeOrNot(t *testing.T) { // P4.3
	const size = 300
	s := newStore(t, size)
	m := model{}
	for _, l := range [][]api.Change{
		{set("a", "1")},
		{set("a", "2"), set("b", "long enough")},
		{gone("b")},
		{set("a", "3")},
		{},
		{set("a", "4"), set("c", "\x00\x00\x00\x00")},
		{gone("a"), gone("c")},
		{gone("a")},
		{set("k", strings.Repeat("v", 60))},
		{set("k", strings.Repeat("w", 60))},
	} {
		ahead, behind := told(m.pairs()), told(m.behind(l).pairs())
		steps := stepsOf(t, s, l)
		for n := range steps + 1 {
			c := s.Copy()
			sure(t, "Arm", c.Disk().Arm(n))
			stopped := c.Put(l...) != api.OK
			is(t, "stopped", stopped, n < steps)
			eachCrash(t, c.Disk(), size, func(left *disk.Disk) {
				got := onDisk(t, left)
				if got != behind && (got != ahead || !stopped) {
					t.Fatalf("stopped at step %d of %d: %s, want %sor %s", n, steps, got, ahead, behind)
				}
			})
		}
		put(t, s, l...)
		m = m.behind(l)
	}
}

// TestCrashesBehindCrashes goes on with what crashes leave, and stops and crashes again.
func TestCrashesBehindCrashes(t *testing.T) { // P4.3
	r := rand.New(rand.NewSource(1))
	for range 40 {
		d := newDisk(t, 300+r.Intn(900))
		m := model{}
		for range 60 {
			s := open(t, d)
			has(t, "opened", s, m)
			sure(t, "Limit", d.Limit(d.Size()))
			sure(t, "Arm", d.Arm(r.Intn(14)))
			behind := m
			for e := api.OK; e != api.ErrStop; {
				l := someChanges(r)
				sure(t, "Limit", d.Limit(d.Size()-r.Intn(2)*r.Intn(d.Size())))
				e = s.Put(l...)
				switch e {
				case api.OK:
					m = m.behind(l)
				case api.ErrStop:
					behind = m.behind(l)
				case api.ErrFull, api.ErrRoom:
				default:
					t.Fatalf("Put: %v", e)
				}
				has(t, "as it was, or behind", s, m)
			}
			d = crash(t, d, r.Int()-r.Int(), r.Int()-r.Int())
			if got := onDisk(t, d); got == told(behind.pairs()) {
				m = behind
			} else if got != told(m.pairs()) {
				t.Fatalf("a crash left %s, want %sor %s", got, told(m.pairs()), told(behind.pairs()))
			}
		}
	}
}

// someChanges are changes of few keys.
func someChanges(r *rand.Rand) []api.Change {
	var l []api.Change
	for range r.Intn(5) {
		c := set(strings.Repeat(string([]byte{byte(r.Intn(3)) * 127}), 1+r.Intn(3)), strings.Repeat(string([]byte{byte(r.Intn(256))}), r.Intn(60)))
		if r.Intn(4) == 0 {
			c = gone(c.Key)
		}
		l = append(l, c)
	}
	return l
}

// TestOpenedWhereSomethingWaits goes on without a crash on the disk that stopped: its table is the one that stands, and what is put then lasts.
func TestOpenedWhereSomethingWaits(t *testing.T) { // P4.1
	s := newStore(t, 500)
	put(t, s, set("a", "1"))
	l := []api.Change{set("a", "2")}
	for n := range stepsOf(t, s, l) {
		c := s.Copy()
		sure(t, "Arm", c.Disk().Arm(n))
		is(t, "Put", c.Put(l...), api.ErrStop)
		sure(t, "Arm", c.Disk().Arm(-1))
		again := open(t, c.Disk())
		v, _ := again.Get("a")
		if v != "1" && v != "2" {
			t.Errorf("stopped at step %d: %q stands", n, v)
		}
		put(t, again, set("b", "3"))
		lasts(t, "put where something waited", again, model{"a": v, "b": "3"})
	}
}

// TestManyPuts holds a store, through many Puts, against a table told by the chapter's words.
func TestManyPuts(t *testing.T) { // P4.1 to P4.3
	r := rand.New(rand.NewSource(2))
	for range 10 {
		size := 256 + r.Intn(2000)
		s, m := newStore(t, size), model{}
		for range 200 {
			l := someChanges(r)
			behind := m.behind(l)
			want := api.OK
			if behind.weight()+64 > size/2 {
				want = api.ErrRoom
			}
			is(t, "Put", s.Put(l...), want)
			if want == api.OK {
				m = behind
			}
			lasts(t, "behind many", s, m)
			if r.Intn(3) == 0 {
				s = open(t, s.Disk())
			}
			if t.Failed() {
				t.FailNow()
			}
		}
	}
}

func TestHeavyTables(t *testing.T) { // P4.1, P4.3
	s := newStore(t, 1<<18)
	m := model{}
	for i := range 7 {
		l := []api.Change{set("x"+strconv.Itoa(i), strings.Repeat(strconv.Itoa(i), 8190)), set("y"+strconv.Itoa(i), strings.Repeat("y", 8190))}
		put(t, s, l...)
		m = m.behind(l)
	}
	rest := (1<<17 - 64) - s.Weight() - 17
	is(t, "a byte too much", s.Put(set("z", strings.Repeat("z", 8192)), set("zz", strings.Repeat("z", rest-8192-18+1))), api.ErrRoom)
	l := []api.Change{set("z", strings.Repeat("z", 8192)), set("w", strings.Repeat("z", rest-8192-17))}
	put(t, s, l...)
	m = m.behind(l)
	is(t, "Weight", s.Weight(), 1<<17-64)
	lasts(t, "a heavy one", s, m)
	l = []api.Change{gone("x0"), set("x1", "light")}
	for n := range stepsOf(t, s, l) {
		c := s.Copy()
		sure(t, "Arm", c.Disk().Arm(n))
		is(t, "Put", c.Put(l...), api.ErrStop)
		for keep := range c.Disk().Waits() + 1 {
			for _, torn := range []int{0, 1, 4, 7, 8, 9, 1000, 100000} {
				got := onDisk(t, crash(t, c.Disk(), keep, torn))
				if got != told(m.pairs()) && got != told(m.behind(l).pairs()) {
					t.Errorf("step %d, keep %d, torn %d: another table", n, keep, torn)
				}
			}
		}
	}
	put(t, s, l...)
	lasts(t, "a lighter one", s, m.behind(l))
}

// Turns are held against one another also where they wrap round.
func TestTurnsWrapRound(t *testing.T) { // P4.3
	for _, turn := range []uint32{math.MaxInt32 - 2, math.MaxUint32 - 2, math.MaxUint32} {
		s := newStore(t, 500)
		s.turn = turn
		for i := range 6 {
			value := strconv.Itoa(i)
			put(t, s, set("a", value))
			lasts(t, "turns that wrap round", s, model{"a": value})
			s = open(t, s.Disk())
		}
	}
}

// laidBy lays frames of these records on a new disk, from a place on.
func laidBy(t *testing.T, size, at int, records ...string) *disk.Disk {
	t.Helper()
	d := newDisk(t, size)
	for _, record := range records {
		f, e := frames.Frame([]byte(record))
		sure(t, "Frame", e)
		sure(t, "Write", d.Write(at, f))
		at += len(f)
	}
	sure(t, "Sync", d.Sync())
	return d
}

// What no Put laid is no table, and is not in the way of one.
func TestBytesOfNoTable(t *testing.T) { // P4.1
	row := "\x01\x00\x00\x00kv"
	for name, records := range map[string][]string{
		"no title":               {""},
		"a title that is short":  {"\x01\x00\x00\x00\x00\x00\x00"},
		"a title that is long":   {"\x01\x00\x00\x00\x00\x00\x00\x00\x00"},
		"fewer rows":             {"\x01\x00\x00\x00\x02\x00\x00\x00", row},
		"far fewer rows":         {"\x01\x00\x00\x00\xff\xff\xff\xff", row},
		"a row that is short":    {"\x01\x00\x00\x00\x01\x00\x00\x00", "\x01\x00\x00"},
		"a row of nothing":       {"\x01\x00\x00\x00\x01\x00\x00\x00", ""},
		"no key":                 {"\x01\x00\x00\x00\x01\x00\x00\x00", "\x00\x00\x00\x00v"},
		"a key that is short":    {"\x01\x00\x00\x00\x01\x00\x00\x00", "\x03\x00\x00\x00kv"},
		"a key that is long":     {"\x01\x00\x00\x00\x01\x00\x00\x00", "\xc9\x00\x00\x00" + strings.Repeat("k", 201)},
		"a key of 2^31 bytes":    {"\x01\x00\x00\x00\x01\x00\x00\x00", "\x00\x00\x00\x80" + strings.Repeat("k", 300)},
		"a key of 2^32 - 1":      {"\x01\x00\x00\x00\x01\x00\x00\x00", "\xff\xff\xff\xffk"},
		"a key twice":            {"\x01\x00\x00\x00\x02\x00\x00\x00", row, row},
		"a table without room":   {"\x01\x00\x00\x00\x01\x00\x00\x00", "\x01\x00\x00\x00k" + strings.Repeat("v", 500-64-16)},
		"a row ahead of a title": {row, "\x01\x00\x00\x00\x01\x00\x00\x00", row},
	} {
		for _, at := range []int{0, 500} {
			s := open(t, laidBy(t, 1000, at, records...))
			has(t, name, s, model{})
			put(t, s, set("a", "1"))
			lasts(t, name+", then a Put", s, model{"a": "1"})
			put(t, s, set("b", "2"))
			lasts(t, name+", then another", s, model{"a": "1", "b": "2"})
		}
	}
}

func TestMoreRowsThanMayBe(t *testing.T) { // P4.1
	for rows, want := range map[int]int{200: 200, 201: 0} {
		records := []string{string([]byte{1, 0, 0, 0, byte(rows), 0, 0, 0})}
		for i := range rows {
			records = append(records, string([]byte{1, 0, 0, 0, byte(i)}))
		}
		s := open(t, laidBy(t, 10000, 0, records...))
		is(t, strconv.Itoa(rows)+" rows", len(s.All()), want)
	}
}

func TestDisksOfAnyBytes(t *testing.T) { // P4.1
	r := rand.New(rand.NewSource(3))
	for range 300 {
		size := 256 + r.Intn(800)
		d := newDisk(t, size)
		b := make([]byte, size)
		r.Read(b)
		sure(t, "Write", d.Write(0, b))
		sure(t, "Sync", d.Sync())
		s := open(t, d)
		has(t, "any bytes", s, model{})
		put(t, s, set("a", "1"))
		lasts(t, "any bytes, then a Put", s, model{"a": "1"})
	}
}

// A byte that is spoilt leaves the table that lay there before, or none, and none of its own.
func TestASpoiltByte(t *testing.T) { // P4.1
	s := newStore(t, 300)
	put(t, s, set("a", "1"))
	put(t, s, set("a", "2"))
	whole := []string{told(nil), told(model{"a": "1"}.pairs()), told(model{"a": "2"}.pairs())}
	for at := range 300 {
		for _, x := range []byte{1, 0x80, 0xff} {
			d := s.Disk().Copy()
			b, _ := d.Read(at, 1)
			sure(t, "Write", d.Write(at, []byte{b[0] ^ x}))
			sure(t, "Sync", d.Sync())
			if got := onDisk(t, d); !slices.Contains(whole, got) {
				t.Errorf("byte %d is spoilt: %s", at, got)
			}
			again := open(t, d)
			put(t, again, set("b", "3"))
			is(t, "and is put on", onDisk(t, crash(t, d, 0, 0)), told(again.All()))
		}
	}
}

// What the disk is left with hangs on the changes alone, not on how a map is gone through.
func TestTheSameTwice(t *testing.T) { // P4.1
	var before []byte
	for range 5 {
		s := newStore(t, 1<<14)
		put(t, s, many(0, 90, "v")...)
		put(t, s, many(40, 90, "w")...)
		b, _ := s.Disk().Read(0, s.Disk().Size())
		is(t, "the same bytes", before == nil || bytes.Equal(b, before), true)
		before = b
	}
}

func TestExamples(t *testing.T) { // P4.1, P4.2
	s := newStore(t, 1000)
	is(t, "Put(a: 1)", s.Put(set("a", "1")), api.OK)
	v, there := s.Get("a")
	is(t, "Get(a)", v, "1")
	is(t, "Get(a): there", there, true)
	is(t, "Put(a Gone)", s.Put(gone("a")), api.OK)
	_, there = s.Get("a")
	is(t, "Get(a): there", there, false)
	is(t, "Put(b: 600 bytes)", s.Put(set("b", strings.Repeat("x", 600))), api.ErrRoom)
	is(t, "Weight", s.Weight(), 0)
	is(t, "Put(c: x)", s.Put(set("c", "x")), api.OK)
	left := open(t, crash(t, s.Disk(), 0, 0))
	is(t, "All", told(left.All()), told([]api.Pair{{Key: "c", Value: "x"}}))
}
