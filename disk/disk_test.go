package disk

import (
	"bytes"
	"math"
	"math/rand"
	"testing"

	"cardcase/api"
)

// must makes a disk that may be made.
func must(t *testing.T, size int) *Disk {
	t.Helper()
	d, e := New(size)
	if e != api.OK || d == nil {
		t.Fatalf("New(%d): %v", size, e)
	}
	return d
}

// is fails where an answer is another than the one that is asked for.
func is[T comparable](t *testing.T, what string, got, want T) {
	t.Helper()
	if got != want {
		t.Errorf("%s: %#v, want %#v", what, got, want)
	}
}

// stands tells all bytes that stand on a disk.
func stands(t *testing.T, d *Disk) string {
	t.Helper()
	b, e := d.Read(0, d.Size())
	if e != api.OK {
		t.Fatalf("Read of all: %v", e)
	}
	return string(b)
}

// lasting tells all bytes that last on a disk: those that a crash leaves that keeps nothing.
func lasting(t *testing.T, d *Disk) string {
	t.Helper()
	return crashed(t, d, 0, 0)
}

// crashed tells all bytes that a crash leaves.
func crashed(t *testing.T, d *Disk, keep, torn int) string {
	t.Helper()
	left, e := d.Crash(api.Crash{Keep: keep, Torn: torn})
	if e != api.OK {
		t.Fatalf("Crash(%d, %d): %v", keep, torn, e)
	}
	return stands(t, left)
}

func TestNewSizes(t *testing.T) { // P1.1
	for _, size := range []int{1, 2, 255, 1 << 18} {
		d := must(t, size)
		is(t, "Size", d.Size(), size)
		is(t, "Waits", d.Waits(), 0)
		is(t, "Steps", d.Steps(), 0)
		is(t, "stands", stands(t, d), string(make([]byte, size)))
		is(t, "lasts", lasting(t, d), string(make([]byte, size)))
		is(t, "may be written whole", d.Write(size-1, []byte{1}), api.OK)
	}
	for _, size := range []int{0, -1, 1<<18 + 1, math.MaxInt, math.MinInt} {
		d, e := New(size)
		is(t, "New: error", e, api.ErrArg)
		is(t, "New: no disk", d, nil)
	}
}

func TestWriteStandsAndWaits(t *testing.T) { // P1.1
	d := must(t, 4)
	is(t, "Write", d.Write(1, []byte{7, 8}), api.OK)
	is(t, "stands", stands(t, d), "\x00\x07\x08\x00")
	is(t, "lasts", lasting(t, d), "\x00\x00\x00\x00")
	is(t, "Waits", d.Waits(), 1)
	is(t, "Write over", d.Write(2, []byte{9}), api.OK)
	is(t, "stands", stands(t, d), "\x00\x07\x09\x00")
	is(t, "Waits", d.Waits(), 2)
	is(t, "Write none", d.Write(4, nil), api.OK)
	is(t, "Write none", d.Write(0, []byte{}), api.OK)
	is(t, "Waits: also none", d.Waits(), 4)
	is(t, "Steps: also none", d.Steps(), 4)
	is(t, "stands", stands(t, d), "\x00\x07\x09\x00")
	is(t, "Write all", d.Write(0, []byte{1, 2, 3, 4}), api.OK)
	is(t, "stands", stands(t, d), "\x01\x02\x03\x04")
}

func TestWriteRefusesPlaces(t *testing.T) { // P1.1
	d := must(t, 4)
	for _, x := range []struct{ at, n int }{{-1, 0}, {-1, 1}, {-1, 5}, {5, 0}, {4, 1}, {3, 2}, {0, 5}, {math.MaxInt, 0}, {math.MaxInt, 1}, {math.MaxInt, 4}, {math.MinInt, 0}, {math.MinInt, 4}} {
		is(t, "Write", d.Write(x.at, make([]byte, x.n)), api.ErrRange)
	}
	is(t, "Waits", d.Waits(), 0)
	is(t, "Steps", d.Steps(), 0)
	is(t, "stands", stands(t, d), "\x00\x00\x00\x00")
}

func TestWriteKeepsAndChangesNothingHandedIn(t *testing.T) { // P1.1
	d := must(t, 4)
	room := []byte{1, 2, 3, 4}
	is(t, "Write", d.Write(0, room[:2]), api.OK)
	is(t, "handed in", string(room), "\x01\x02\x03\x04")
	room[0], room[1] = 8, 9
	is(t, "stands", stands(t, d), "\x01\x02\x00\x00")
	is(t, "waits", crashed(t, d, 1, 0), "\x01\x02\x00\x00")
	is(t, "Sync", d.Sync(), api.OK)
	is(t, "lasts", lasting(t, d), "\x01\x02\x00\x00")
}

func TestSyncMakesAllLast(t *testing.T) { // P1.1
	d := must(t, 4)
	d.Write(0, []byte{1, 2, 3})
	d.Write(1, []byte{9})
	is(t, "Sync", d.Sync(), api.OK)
	is(t, "Waits", d.Waits(), 0)
	is(t, "Steps", d.Steps(), 3)
	is(t, "stands", stands(t, d), "\x01\x09\x03\x00")
	is(t, "lasts", lasting(t, d), "\x01\x09\x03\x00")
	is(t, "Sync of nothing", d.Sync(), api.OK)
	is(t, "Steps", d.Steps(), 4)
	d.Write(3, []byte{5})
	is(t, "lasts still", lasting(t, d), "\x01\x09\x03\x00")
}

func TestArm(t *testing.T) { // P1.1
	d := must(t, 4)
	is(t, "Arm", d.Arm(2), api.OK)
	is(t, "Write", d.Write(0, []byte{1}), api.OK)
	is(t, "Sync", d.Sync(), api.OK)
	is(t, "Write at the end", d.Write(0, []byte{2}), api.ErrStop)
	is(t, "Write of none at the end", d.Write(0, nil), api.ErrStop)
	is(t, "Sync at the end", d.Sync(), api.ErrStop)
	is(t, "Sync at the end, again", d.Sync(), api.ErrStop)
	is(t, "Steps", d.Steps(), 2)
	is(t, "Waits", d.Waits(), 0)
	is(t, "stands", stands(t, d), "\x01\x00\x00\x00")
	is(t, "Arm anew", d.Arm(1), api.OK)
	is(t, "Write", d.Write(1, []byte{3}), api.OK)
	is(t, "Sync at the end", d.Sync(), api.ErrStop)
	is(t, "lasts", lasting(t, d), "\x01\x00\x00\x00")
	is(t, "Waits", d.Waits(), 1)
	for _, n := range []int{-1, -2, math.MinInt} {
		d.Arm(0)
		is(t, "Sync", d.Sync(), api.ErrStop)
		is(t, "Arm below 0", d.Arm(n), api.OK)
		for range 5 {
			is(t, "not armed", d.Write(0, nil), api.OK)
		}
	}
	is(t, "Arm huge", d.Arm(math.MaxInt), api.OK)
	is(t, "Sync", d.Sync(), api.OK)
}

func TestWhatIsRefusedIsNoStep(t *testing.T) { // P1.1
	d := must(t, 4)
	d.Arm(1)
	d.Limit(2)
	is(t, "Write", d.Write(9, nil), api.ErrRange)
	is(t, "Write", d.Write(1, []byte{1, 1}), api.ErrFull)
	is(t, "Steps", d.Steps(), 0)
	is(t, "Write", d.Write(0, []byte{1}), api.OK)
	is(t, "Steps", d.Steps(), 1)
}

func TestLimit(t *testing.T) { // P1.1
	d := must(t, 4)
	for _, n := range []int{-1, 5, math.MaxInt, math.MinInt} {
		is(t, "Limit", d.Limit(n), api.ErrRange)
	}
	is(t, "a Limit that is refused changes nothing", d.Write(3, []byte{6}), api.OK)
	is(t, "Limit", d.Limit(2), api.OK)
	is(t, "up to it", d.Write(0, []byte{1, 2}), api.OK)
	for _, x := range []struct{ at, n int }{{1, 2}, {2, 1}, {0, 3}, {3, 1}} {
		is(t, "beyond it", d.Write(x.at, make([]byte, x.n)), api.ErrFull)
	}
	is(t, "stands", stands(t, d), "\x01\x02\x00\x06")
	is(t, "Waits", d.Waits(), 2)
	is(t, "Steps", d.Steps(), 2)
	is(t, "Sync", d.Sync(), api.OK)
	is(t, "Limit", d.Limit(0), api.OK)
	is(t, "no byte", d.Write(0, []byte{1}), api.ErrFull)
	is(t, "none", d.Write(0, nil), api.OK)
	is(t, "Limit", d.Limit(4), api.OK)
	is(t, "all again", d.Write(0, []byte{4, 4, 4, 4}), api.OK)
}

// TestNoBytesAreNotBeyondTheLimit: none of the bytes that may not be written is written by a write of none.
func TestNoBytesAreNotBeyondTheLimit(t *testing.T) { // P1.1
	for _, x := range []struct{ size, limit, at int }{{1, 0, 0}, {1, 0, 1}, {4, 2, 2}, {4, 2, 3}, {4, 2, 4}, {1 << 18, 7, 8}, {1 << 18, 0, 1 << 18}} {
		for _, none := range [][]byte{nil, {}} {
			d := must(t, x.size)
			is(t, "Limit", d.Limit(x.limit), api.OK)
			is(t, "none, behind the end", d.Write(x.size+1, none), api.ErrRange)
			is(t, "none, ahead of 0", d.Write(-1, none), api.ErrRange)
			is(t, "Waits", d.Waits(), 0)
			is(t, "none, at or behind the bound", d.Write(x.at, none), api.OK)
			is(t, "Waits", d.Waits(), 1)
			is(t, "Steps", d.Steps(), 1)
			is(t, "a crash that keeps it", crashed(t, d, 1, 0), string(make([]byte, x.size)))
			is(t, "a crash that tears it", crashed(t, d, 0, 1), string(make([]byte, x.size)))
			is(t, "Arm", d.Arm(0), api.OK)
			is(t, "ErrStop", d.Write(x.at, none), api.ErrStop)
		}
	}
}

func TestOrderOfErrors(t *testing.T) { // P1.1, P1.2
	d := must(t, 4)
	d.Limit(2)
	d.Arm(0)
	is(t, "ErrRange ahead of ErrFull and ErrStop", d.Write(3, []byte{5, 6}), api.ErrRange)
	is(t, "ErrFull ahead of ErrStop", d.Write(2, []byte{5}), api.ErrFull)
	is(t, "ErrStop", d.Write(1, []byte{5}), api.ErrStop)
	_, e := d.Read(-1, -1)
	is(t, "ErrArg ahead of ErrRange", e, api.ErrArg)
	_, e = d.Read(0, 4)
	is(t, "Read is no step", e, api.OK)
	is(t, "Limit is no step", d.Limit(4), api.OK)
	_, e = d.Crash(api.Crash{})
	is(t, "Crash is no step", e, api.OK)
}

func TestNoDisk(t *testing.T) { // P1.1, P1.2
	for _, d := range []*Disk{nil, {}} {
		is(t, "Write", d.Write(-1, nil), api.ErrNil)
		is(t, "Sync", d.Sync(), api.ErrNil)
		is(t, "Arm", d.Arm(1), api.ErrNil)
		is(t, "Limit", d.Limit(-1), api.ErrNil)
		b, e := d.Read(-1, -1)
		is(t, "Read", e, api.ErrNil)
		is(t, "Read: nothing", b == nil, true)
		left, e := d.Crash(api.Crash{Keep: 3, Torn: -3})
		is(t, "Crash", e, api.ErrNil)
		is(t, "Crash: nothing", left, nil)
		is(t, "Size", d.Size(), 0)
		is(t, "Waits", d.Waits(), 0)
		is(t, "Steps", d.Steps(), 0)
		is(t, "Copy", d.Copy(), nil)
		is(t, "Same nil", Same(d, nil), true)
		is(t, "Same nil", Same(nil, d), true)
		is(t, "Same zero", Same(d, &Disk{}), true)
		is(t, "Same as one", Same(d, must(t, 1)), false)
		is(t, "Same as one", Same(must(t, 1), d), false)
	}
}

func TestRead(t *testing.T) { // P1.2
	d := must(t, 4)
	d.Write(0, []byte{1, 2, 3, 4})
	for _, x := range []struct {
		at, n int
		want  string
		e     api.Errno
	}{
		{0, 4, "\x01\x02\x03\x04", api.OK}, {1, 2, "\x02\x03", api.OK}, {3, 1, "\x04", api.OK}, {0, 0, "", api.OK}, {4, 0, "", api.OK},
		{0, -1, "", api.ErrArg}, {9, -1, "", api.ErrArg}, {-1, math.MinInt, "", api.ErrArg},
		{-1, 0, "", api.ErrRange}, {-1, 2, "", api.ErrRange}, {5, 0, "", api.ErrRange}, {4, 1, "", api.ErrRange}, {0, 5, "", api.ErrRange},
		{math.MaxInt, math.MaxInt, "", api.ErrRange}, {1, math.MaxInt, "", api.ErrRange}, {math.MaxInt, 1, "", api.ErrRange}, {math.MinInt, 1, "", api.ErrRange}, {math.MinInt, math.MaxInt, "", api.ErrRange},
	} {
		b, e := d.Read(x.at, x.n)
		is(t, "Read: error", e, x.e)
		is(t, "Read", string(b), x.want)
		if e != api.OK && b != nil {
			t.Errorf("Read(%d, %d): bytes beside an error", x.at, x.n)
		}
	}
}

func TestReadAnswersNewMemory(t *testing.T) { // P1.2
	d := must(t, 4)
	d.Write(0, []byte{1, 2, 3, 4})
	b, _ := d.Read(0, 2)
	again, _ := d.Read(0, 2)
	b = b[:cap(b)]
	for i := range b {
		b[i] = 9
	}
	is(t, "stands", stands(t, d), "\x01\x02\x03\x04")
	is(t, "another answer", string(again), "\x01\x02")
	d.Write(0, []byte{7, 7})
	is(t, "an answer stays", string(again), "\x01\x02")
}

func TestCrashKeepsAndTears(t *testing.T) { // P1.2
	d := must(t, 6)
	d.Write(0, []byte{1, 1, 1, 1, 1, 1})
	d.Sync()
	d.Write(0, []byte{2, 2, 2})
	d.Write(1, nil)
	d.Write(2, []byte{3, 3})
	for _, x := range []struct {
		keep, torn int
		want       string
	}{
		{0, 0, "\x01\x01\x01\x01\x01\x01"},
		{0, 1, "\x02\x01\x01\x01\x01\x01"},
		{0, 3, "\x02\x02\x02\x01\x01\x01"},
		{0, 4, "\x01\x01\x01\x01\x01\x01"},
		{0, -1, "\x02\x02\x02\x01\x01\x01"},
		{0, -4, "\x01\x01\x01\x01\x01\x01"},
		{0, -3, "\x02\x01\x01\x01\x01\x01"},
		{1, 5, "\x02\x02\x02\x01\x01\x01"},
		{2, 0, "\x02\x02\x02\x01\x01\x01"},
		{2, 1, "\x02\x02\x03\x01\x01\x01"},
		{2, 2, "\x02\x02\x03\x03\x01\x01"},
		{3, 1, "\x02\x02\x03\x03\x01\x01"},
		{4, 1, "\x02\x01\x01\x01\x01\x01"},
		{-1, 0, "\x02\x02\x03\x03\x01\x01"},
		{-2, 1, "\x02\x02\x03\x01\x01\x01"},
		{-4, 2, "\x02\x02\x01\x01\x01\x01"},
		{-5, 2, "\x02\x02\x03\x03\x01\x01"},
		{math.MaxInt, math.MaxInt, "\x02\x02\x03\x03\x01\x01"}, // 3 modulo 4
		{math.MinInt, math.MinInt, "\x01\x01\x01\x01\x01\x01"}, // 0 modulo 4
		{math.MinInt, math.MaxInt, "\x02\x02\x02\x01\x01\x01"},
	} {
		is(t, "Crash", crashed(t, d, x.keep, x.torn), x.want)
	}
	is(t, "this one stays: stands", stands(t, d), "\x02\x02\x03\x03\x01\x01")
	is(t, "this one stays: Waits", d.Waits(), 3)
	is(t, "this one stays: Steps", d.Steps(), 5)
}

func TestWhatACrashLeaves(t *testing.T) { // P1.2
	d := must(t, 4)
	d.Limit(3)
	d.Arm(2)
	d.Write(0, []byte{1, 2})
	d.Write(1, []byte{3})
	left, e := d.Crash(api.Crash{Keep: 1})
	is(t, "Crash", e, api.OK)
	is(t, "Size", left.Size(), 4)
	is(t, "Waits", left.Waits(), 0)
	is(t, "Steps", left.Steps(), 0)
	is(t, "what stands lasts", lasting(t, left), "\x01\x02\x00\x00")
	is(t, "Limit stays", left.Write(2, []byte{1, 1}), api.ErrFull)
	is(t, "not armed", left.Write(0, []byte{9, 9, 9}), api.OK)
	is(t, "not armed", left.Sync(), api.OK)
	is(t, "the other goes on apart", stands(t, d), "\x01\x03\x00\x00")
	is(t, "the other is armed still", d.Sync(), api.ErrStop)
	d.Arm(-1)
	d.Write(0, []byte{5})
	d.Sync()
	is(t, "it goes on apart", stands(t, left), "\x09\x09\x09\x00")
}

func TestCopyGoesOnApart(t *testing.T) { // P1.2
	d := must(t, 4)
	d.Write(0, []byte{1})
	d.Sync()
	for i := range byte(3) { // three writes leave spare room behind the list of those that wait
		d.Write(int(i), []byte{2 + i})
	}
	d.Limit(3)
	d.Arm(5)
	c := d.Copy()
	is(t, "Same", Same(c, d), true)
	is(t, "Size", c.Size(), 4)
	is(t, "Steps", c.Steps(), 5)
	is(t, "Waits", c.Waits(), 3)
	is(t, "Limit", c.Write(3, []byte{1}), api.ErrFull)
	c.Write(0, []byte{8, 8, 8})
	is(t, "Same", Same(c, d), false)
	d.Write(0, []byte{9, 9, 9})
	is(t, "stands", stands(t, c), "\x08\x08\x08\x00")
	is(t, "stands", stands(t, d), "\x09\x09\x09\x00")
	is(t, "waits apart", crashed(t, c, -1, 0), "\x08\x08\x08\x00")
	is(t, "waits apart", crashed(t, d, -1, 0), "\x09\x09\x09\x00")
	c.Sync()
	is(t, "lasts apart", lasting(t, d), "\x01\x00\x00\x00")
	is(t, "lasts", lasting(t, c), "\x08\x08\x08\x00")
	for range 3 {
		is(t, "armed as it was", c.Sync(), api.OK)
	}
	is(t, "armed as it was", c.Sync(), api.ErrStop)
	is(t, "armed apart", d.Sync(), api.OK)
	c.Limit(1)
	is(t, "limited apart", d.Write(0, []byte{1, 1, 1}), api.OK)
}

func TestSameHoldsEachPart(t *testing.T) { // P1.2
	base := func() *Disk {
		d := must(t, 4)
		d.Write(0, []byte{1, 2})
		d.Sync()
		d.Write(0, []byte{1, 2})
		d.Write(1, []byte{2})
		return d
	}
	for name, change := range map[string]func(d *Disk) *Disk{
		"stands, and one waits": func(d *Disk) *Disk { d.Write(0, []byte{7}); return d },
		"one more waits":        func(d *Disk) *Disk { d.Write(0, []byte{1}); return d },
		"none waits":            func(d *Disk) *Disk { d.Sync(); return d },
		"fewer may be written":  func(d *Disk) *Disk { d.Limit(3); return d },
		"no step":               func(d *Disk) *Disk { d.Arm(0); return d },
		"one step":              func(d *Disk) *Disk { d.Arm(1); return d },
		"no disk":               func(d *Disk) *Disk { return nil },
	} {
		a, b := base(), change(base())
		if Same(a, b) || Same(b, a) || !Same(b, b) {
			t.Errorf("Same, %s", name)
		}
	}
	for name, same := range map[string]func(d *Disk){
		"as it was":            func(d *Disk) {},
		"armed below 0":        func(d *Disk) { d.Arm(-7) },
		"armed, then not":      func(d *Disk) { d.Arm(3); d.Arm(-1) },
		"limited to all":       func(d *Disk) { d.Limit(4) },
		"refused":              func(d *Disk) { d.Write(4, []byte{1}); d.Limit(9) },
		"limited, then to all": func(d *Disk) { d.Limit(0); d.Write(0, []byte{1}); d.Limit(4) },
	} {
		a, b := base(), base()
		same(b)
		if !Same(a, b) || !Same(b, a) {
			t.Errorf("Same, %s", name)
		}
	}
	is(t, "two nil ones", Same(nil, nil), true)
	is(t, "of other sizes", Same(must(t, 4), must(t, 5)), false)
}

func TestSameOfWhatLastsAndWaits(t *testing.T) { // P1.2
	made := func(do func(d *Disk)) *Disk {
		d := must(t, 4)
		do(d)
		return d
	}
	a := made(func(d *Disk) { d.Write(0, []byte{1, 1}) })
	b := made(func(d *Disk) { d.Write(0, []byte{1}); d.Write(1, []byte{1}) })
	is(t, "cut otherwise", Same(a, b), false)
	c := made(func(d *Disk) { d.Write(1, []byte{1}); d.Write(0, []byte{1}) })
	is(t, "in another order", Same(b, c), false)
	is(t, "none at other places", Same(made(func(d *Disk) { d.Write(0, nil) }), made(func(d *Disk) { d.Write(1, nil) })), false)
	is(t, "none, nil or empty", Same(made(func(d *Disk) { d.Write(1, nil) }), made(func(d *Disk) { d.Write(1, []byte{}) })), true)
	x := made(func(d *Disk) { d.Write(0, []byte{5}); d.Sync(); d.Write(0, []byte{6}) })
	y := made(func(d *Disk) { d.Write(0, []byte{4}); d.Sync(); d.Write(0, []byte{6}) })
	is(t, "another that lasts", Same(x, y), false)
	s := made(func(d *Disk) { d.Sync(); d.Sync(); d.Write(0, []byte{1, 1}) })
	is(t, "how many steps were done does not count", Same(a, s), true)
	armed := made(func(d *Disk) { d.Arm(3); d.Sync(); d.Arm(2) })
	is(t, "how many more does", Same(armed, made(func(d *Disk) { d.Arm(2) })), true)
	is(t, "how many more does", Same(armed, made(func(d *Disk) { d.Arm(3) })), false)
	is(t, "how many more, behind steps", Same(armed, made(func(d *Disk) { d.Arm(4); d.Sync(); d.Sync() })), true)
}

func TestCrashOfNothingAndOfAll(t *testing.T) { // P1.3
	r := rand.New(rand.NewSource(1))
	for range 300 {
		d := must(t, 1+r.Intn(12))
		for range r.Intn(12) {
			someStep(r, d)
		}
		waits := d.Waits()
		synced := d.Copy()
		synced.Sync()
		is(t, "one that keeps all leaves what stands", crashed(t, d, waits, r.Int()), stands(t, d))
		is(t, "one that keeps all leaves what stands", crashed(t, d, -1, r.Int()), stands(t, synced))
		for range 3 {
			is(t, "nothing was written since the sync", crashed(t, synced, r.Int()-r.Int(), r.Int()-r.Int()), stands(t, synced))
		}
		was := stands(t, synced)
		synced.Write(0, []byte{byte(r.Int())})
		is(t, "one that keeps nothing leaves what lasts", crashed(t, synced, 0, 0), was)
	}
}

// someStep writes somewhere, or syncs.
func someStep(r *rand.Rand, d *Disk) {
	if r.Intn(5) == 0 {
		d.Sync()
		return
	}
	at := r.Intn(d.Size() + 1)
	b := make([]byte, r.Intn(d.Size()-at+1))
	r.Read(b)
	d.Write(at, b)
}

// notArmed is so far below 0 that no test counts it down to where it ends.
const notArmed = math.MinInt / 2

// told is a disk told by its whole past: every write that was done, and how many of them are ahead of the last sync.
type told struct {
	size, limit, left, steps, synced int
	writes                           []write
}

// bytes tells what the first n of its writes leave on noughts.
func (m *told) bytes(n int) []byte {
	b := make([]byte, m.size)
	for _, w := range m.writes[:n] {
		copy(b[w.at:], w.bytes)
	}
	return b
}

// step tells whether a step is done, and counts it.
func (m *told) step() bool {
	if m.left == 0 {
		return false
	}
	m.left--
	m.steps++
	return true
}

func (m *told) write(at int, b []byte) api.Errno {
	switch end := at + len(b); {
	case at < 0 || end > m.size:
		return api.ErrRange
	case len(b) > 0 && end > m.limit:
		return api.ErrFull
	case !m.step():
		return api.ErrStop
	}
	m.writes = append(m.writes, write{at, bytes.Clone(b)})
	return api.OK
}

func (m *told) sync() api.Errno {
	if !m.step() {
		return api.ErrStop
	}
	m.synced = len(m.writes)
	return api.OK
}

// crash tells the bytes that are left, with picks that are within their bounds already.
func (m *told) crash(keep, torn int) []byte {
	b := m.bytes(m.synced + keep)
	if m.synced+keep < len(m.writes) {
		w := m.writes[m.synced+keep]
		copy(b[w.at:], w.bytes[:torn])
	}
	return b
}

// TestAgainstItsPast holds a disk, through many steps, against one that is told by its whole past alone.
func TestAgainstItsPast(t *testing.T) { // P1.1 to P1.3
	r := rand.New(rand.NewSource(2))
	for range 200 {
		size := 1 + r.Intn(9)
		d, m := must(t, size), &told{size: size, limit: size, left: notArmed}
		for range 60 {
			bothDo(t, r, d, m)
			is(t, "stands", stands(t, d), string(m.bytes(len(m.writes))))
			is(t, "Waits", d.Waits(), len(m.writes)-m.synced)
			is(t, "Steps", d.Steps(), m.steps)
			if t.Failed() {
				t.FailNow()
			}
			keep, torn := r.Intn(d.Waits()+1), 0
			among := 1
			if keep < d.Waits() {
				among += len(m.writes[m.synced+keep].bytes)
				torn = r.Intn(among)
			}
			far, further := (r.Intn(9)-4)*(d.Waits()+1), (r.Intn(9)-4)*among
			is(t, "Crash", crashed(t, d, keep+far, torn+further), string(m.crash(keep, torn)))
		}
	}
}

// bothDo does the same something to both.
func bothDo(t *testing.T, r *rand.Rand, d *Disk, m *told) {
	t.Helper()
	switch r.Intn(8) {
	case 0:
		n := r.Intn(8) - 1
		m.left = n
		if n < 0 {
			m.left = notArmed
		}
		is(t, "Arm", d.Arm(n), api.OK)
	case 1:
		m.limit = r.Intn(m.size + 1)
		is(t, "Limit", d.Limit(m.limit), api.OK)
	case 2, 3:
		is(t, "Sync", d.Sync(), m.sync())
	default:
		at, b := r.Intn(m.size+3)-1, make([]byte, r.Intn(5))
		r.Read(b)
		is(t, "Write", d.Write(at, b), m.write(at, b))
	}
}

func TestExamples(t *testing.T) { // P1.1, P1.2
	d := must(t, 4)
	is(t, "Write", d.Write(0, []byte{1, 2}), api.OK)
	is(t, "Sync", d.Sync(), api.OK)
	is(t, "Write", d.Write(1, []byte{8, 9}), api.OK)
	is(t, "Write", d.Write(3, []byte{5, 6}), api.ErrRange)
	is(t, "Crash(0, 1)", crashed(t, d, 0, 1), "\x01\x08\x00\x00")
	is(t, "Crash(-1, 0)", crashed(t, d, -1, 0), "\x01\x08\x09\x00")
	is(t, "Limit", d.Limit(2), api.OK)
	is(t, "Write", d.Write(1, []byte{7, 7}), api.ErrFull)
	is(t, "Arm", d.Arm(1), api.OK)
	is(t, "Sync", d.Sync(), api.OK)
	is(t, "Sync", d.Sync(), api.ErrStop)
}
