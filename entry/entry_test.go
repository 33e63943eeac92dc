package entry_test

import (
	"fmt"
	"math"
	"math/rand"
	"regexp"
	"slices"
	"sort"
	"strconv"
	"strings"
	"testing"

	"cardcase/api"
	"cardcase/entry"
)

// is fails where an answer is another than the one that is asked for.
func is[T comparable](t *testing.T, what string, got, want T) {
	t.Helper()
	if got != want {
		t.Errorf("%s: %s, want %s", short(what), short(got), short(want))
	}
}

// isEntry fails where an entry is another than the one that is asked for. Nil and empty are the same.
func isEntry(t *testing.T, what string, got, want api.Entry) {
	t.Helper()
	if !equal(got, want) {
		is(t, what, plain(got), plain(want))
	}
}

// equal tells whether two entries have the same, nil and empty being the same.
func equal(a, b api.Entry) bool {
	return slices.EqualFunc(a, b, func(x, y api.Attr) bool { return x.Name == y.Name && slices.Equal(x.Values, y.Values) })
}

// areValues fails where Values are others than those that are asked for.
func areValues(t *testing.T, what string, got, want []string) {
	t.Helper()
	is(t, what, fmt.Sprintf("%q", got), fmt.Sprintf("%q", want))
}

// areMods fails where changes are others than those that are asked for.
func areMods(t *testing.T, what string, got, want []api.Mod) {
	t.Helper()
	is(t, what, plainMods(got), plainMods(want))
}

// plainMods tells all that is in changes, nil and empty being the same.
func plainMods(l []api.Mod) string {
	s := ""
	for _, m := range l {
		s += fmt.Sprintf("%d %q: %q; ", m.Kind, m.Name, m.Values)
	}
	return s
}

// plain tells all that is in an entry, nil and empty being the same.
func plain(e api.Entry) string {
	s := ""
	for _, a := range e {
		s += fmt.Sprintf("%q: %q; ", a.Name, a.Values)
	}
	return s
}

// short tells something, or how it begins.
func short(x any) string {
	s := fmt.Sprint(x)
	if len(s) > 300 {
		return fmt.Sprintf("%s .. (%d bytes)", s[:300], len(s))
	}
	return s
}

// attr makes an attribute.
func attr(name string, values ...string) api.Attr { return api.Attr{Name: name, Values: values} }

// add makes a change.
func add(name string, values ...string) api.Mod { return api.Mod{Kind: 1, Name: name, Values: values} }

// remove makes a change.
func remove(name string, values ...string) api.Mod {
	return api.Mod{Kind: 2, Name: name, Values: values}
}

// replace makes a change.
func replace(name string, values ...string) api.Mod {
	return api.Mod{Kind: 3, Name: name, Values: values}
}

// numbered makes so many texts that rise, and begin so.
func numbered(begin string, n int) []string {
	var l []string
	for i := range n {
		l = append(l, fmt.Sprintf("%s%06d", begin, i))
	}
	return l
}

// wide makes an entry of so many attributes, whose Names begin so, of a Value each.
func wide(begin string, n int) api.Entry {
	var e api.Entry
	for _, name := range numbered(begin, n) {
		e = append(e, attr(name, "v"))
	}
	return e
}

// fullest makes the entry that has the most of all.
func fullest() api.Entry {
	var e api.Entry
	for _, name := range numbered("a"+strings.Repeat("-", 57), 24) {
		var values []string
		for _, v := range numbered("v", 16) {
			values = append(values, v+strings.Repeat("x", 2041))
		}
		e = append(e, attr(name, values...))
	}
	return e
}

// allBytes is a text of each byte, rising.
func allBytes() string {
	b := make([]byte, 256)
	for c := range b {
		b[c] = byte(c)
	}
	return string(b)
}

// goodEntries are entries that may be.
func goodEntries() []api.Entry {
	l := []api.Entry{
		nil, {},
		{attr("cn", "x")},
		{attr("x-1", " ")},
		{attr("a0123456789-", "x")},
		{attr("a", "x"), attr("a-", "x"), attr("a--", "x"), attr("a-1", "x"), attr("a1", "x"), attr("a10", "x"), attr("a2", "x"), attr("aa", "x"), attr("b", "x"), attr("z", "x")},
		{attr(strings.Repeat("q", 64), strings.Repeat("y", 2048))},
		{attr("cn", numbered("v", 16)...)},
		{attr("cn", "A", "B", "a", "b")},
		{attr("cn", "\x00", "\x00\x00", "\n", " ", "1", "10", "2", "a", "aa", "ab", "b", "\x7f", "\x80", "\xc3", "\xff")},
		{attr("cn", allBytes()), attr("sn", "\xff\xfe", "\xff\xff")},
		{attr("cn", "1 2\n3 a\n"), attr("mail", "a", "b"), attr("sn", "x")},
		wide("a", 24), fullest(),
	}
	for c := 'a'; c <= 'z'; c++ {
		l = append(l, api.Entry{attr(string(c), string(c))})
	}
	return l
}

// badNames are Names that may not be, in whatever letters.
func badNames() []string {
	l := []string{"", " ", "a ", " a", "-", "-a", "1", "1a", "a.b", "a_b", "a=b", "a\n", "ä", "aä", "a\xff", "\u212a", strings.Repeat("a", 65), strings.Repeat("A", 65), strings.Repeat("a", 100000)}
	for c := range 256 {
		one := string([]byte{byte(c)})
		if !regexp.MustCompile(`^[A-Za-z0-9-]$`).MatchString(one) {
			l = append(l, one, "a"+one, "a"+one+"b")
		}
	}
	for c := '0'; c <= '9'; c++ {
		l = append(l, string(c), string(c)+"a")
	}
	return l
}

// badValues are Values that may not be.
func badValues() []string {
	return []string{"", strings.Repeat("x", 2049), strings.Repeat("\x00", 2049), strings.Repeat("x", 100000)}
}

// badAttrs are attributes of Names that begin with letters below z, none of which may be in an entry.
func badAttrs() []api.Attr {
	l := []api.Attr{
		{}, attr("cn"), {Name: "cn", Values: []string{}}, attr("", "x"),
		attr("CN", "x"), attr("cN", "x"), attr("c-N", "x"), attr("A", "x"), attr("Z", "x"), attr("mZ", "x"),
		attr("cn", "b", "a"), attr("cn", "a", "a"), attr("cn", "a", "b", "b"), attr("cn", "a", "c", "b"), attr("cn", "a", "B"), attr("cn", "2", "10"), attr("cn", "\xff", "\x7f"), attr("cn", "ab", "a"),
		attr("cn", numbered("v", 17)...), attr("cn", numbered("v", 1000)...),
	}
	for _, name := range badNames() {
		l = append(l, attr(name, "x"))
	}
	for _, v := range badValues() {
		l = append(l, attr("cn", v), attr("cn", "a", v), attr("cn", v, "z"), attr("cn", "a", v, "z"))
	}
	return l
}

// badEntries are entries that may not be.
func badEntries() []api.Entry {
	l := []api.Entry{
		{attr("b", "x"), attr("a", "x")}, {attr("a", "x"), attr("a", "x")}, {attr("a", "x"), attr("a", "y")},
		{attr("a", "x"), attr("c", "x"), attr("b", "x")}, {attr("a", "x"), attr("b", "x"), attr("b", "x")},
		{attr("a1", "x"), attr("a-", "x")}, {attr("aa", "x"), attr("a", "x")}, {attr("a2", "x"), attr("a10", "x")},
		{attr("a", "x"), attr("B", "x")}, {attr("B", "x"), attr("a", "x")},
		wide("a", 25), wide("a", 1000), append(wide("a", 24), attr("b")),
	}
	for _, a := range badAttrs() {
		l = append(l, api.Entry{a}, api.Entry{attr("a", "x"), a}, api.Entry{a, attr("z", "x")}, api.Entry{attr("a", "x"), a, attr("z", "x")})
	}
	return l
}

// badMods are changes that may not be, whatever the entry.
func badMods() []api.Mod {
	l := []api.Mod{{}, add("cn"), {Kind: 1, Name: "cn", Values: []string{}}}
	for _, kind := range []api.ModKind{0, -1, -2, -3, 4, 5, 256, 257, 1 << 32, 1<<32 + 1, math.MaxInt, math.MinInt} {
		l = append(l, api.Mod{Kind: kind, Name: "cn", Values: []string{"new"}}, api.Mod{Kind: kind, Name: "cn"})
	}
	for kind := api.ModKind(1); kind <= 3; kind++ {
		l = append(l, api.Mod{Kind: kind, Name: "cn", Values: numbered("v", 17)}, api.Mod{Kind: kind, Name: "cn", Values: slices.Repeat([]string{"x"}, 17)})
		for _, name := range badNames() {
			l = append(l, api.Mod{Kind: kind, Name: name, Values: []string{"x"}}, api.Mod{Kind: kind, Name: name})
		}
		for _, v := range badValues() {
			l = append(l, api.Mod{Kind: kind, Name: "cn", Values: []string{v}}, api.Mod{Kind: kind, Name: "cn", Values: []string{"a", v}}, api.Mod{Kind: kind, Name: "cn", Values: []string{v, "a"}})
		}
	}
	return l
}

// plainSmall tells a text whose letters A to Z are a to z.
func plainSmall(s string) string {
	for c := 'A'; c <= 'Z'; c++ {
		s = strings.ReplaceAll(s, string(c), strings.ToLower(string(c)))
	}
	return s
}

// great tells a text whose letters a to z are A to Z.
func great(s string) string {
	for c := 'a'; c <= 'z'; c++ {
		s = strings.ReplaceAll(s, string(c), strings.ToUpper(string(c)))
	}
	return s
}

// plainTable is what an entry says, attribute by attribute, Value by Value.
type plainTable map[string]map[string]bool

// tableOf tells the table of attributes.
func tableOf(l []api.Attr) plainTable {
	t := plainTable{}
	for _, a := range l {
		for _, v := range a.Values {
			t.say(plainSmall(a.Name), v)
		}
	}
	return t
}

// say makes a Value be there.
func (t plainTable) say(name, value string) {
	if t[name] == nil {
		t[name] = map[string]bool{}
	}
	t[name][value] = true
}

// entry tells the entry of a table, as the chapter's 'Words' say it.
func (t plainTable) entry() api.Entry {
	var e api.Entry
	for name, values := range t {
		a := attr(name)
		for v := range values {
			a.Values = append(a.Values, v)
		}
		sort.Strings(a.Values)
		if len(a.Values) > 0 {
			e = append(e, a)
		}
	}
	sort.Slice(e, func(i, j int) bool { return e[i].Name < e[j].Name })
	return e
}

// plainDo tells the entry behind changes that may be, as the chapter's 'Words' say it.
func plainDo(e api.Entry, l ...api.Mod) (api.Entry, api.Errno) {
	t := tableOf(e)
	for _, m := range l {
		name := plainSmall(m.Name)
		twice := map[string]int{}
		if m.Kind == api.ModReplace || (m.Kind == api.ModDelete && len(m.Values) == 0 && len(t[name]) > 0) {
			delete(t, name)
		} else if m.Kind == api.ModDelete && len(m.Values) == 0 {
			return nil, api.ErrMissing
		}
		for _, v := range m.Values {
			twice[v]++
			switch {
			case m.Kind == api.ModAdd && (t[name][v] || twice[v] > 1):
				return nil, api.ErrThere
			case m.Kind == api.ModDelete && !t[name][v]:
				return nil, api.ErrMissing
			case m.Kind == api.ModDelete:
				delete(t[name], v)
			default:
				t.say(name, v)
			}
		}
		e = t.entry()
		if len(e) > 24 || slices.ContainsFunc(e, func(a api.Attr) bool { return len(a.Values) > 16 }) {
			return nil, api.ErrLong
		}
	}
	return e, api.OK
}

// plainText tells an entry's text, as the chapter's 'Words' say it.
func plainText(e api.Entry) string {
	s := ""
	for _, a := range e {
		s += fmt.Sprintf("%s %d\n", a.Name, len(a.Values))
		for _, v := range a.Values {
			s += fmt.Sprintf("%d %s\n", len(v), v)
		}
	}
	return s
}

// The lines that a text is made of, the second up to its Value.
var (
	nameLine  = regexp.MustCompile(`\A([a-z][a-z0-9-]{0,63}) ([1-9]|1[0-6])\n`)
	valueHead = regexp.MustCompile(`\A([1-9][0-9]{0,3}) `)
)

// plainRead tells the entry of a text, and whether it is one's.
func plainRead(s string) (api.Entry, bool) {
	var e api.Entry
	last := ""
	for s != "" {
		head := nameLine.FindStringSubmatch(s)
		if head == nil || head[1] <= last || len(e) == 24 {
			return nil, false
		}
		last = head[1]
		s = s[len(head[0]):]
		a := attr(head[1])
		many, _ := strconv.Atoi(head[2])
		for range many {
			v, left, is := plainValue(s)
			if !is || (len(a.Values) > 0 && v <= a.Values[len(a.Values)-1]) {
				return nil, false
			}
			a.Values, s = append(a.Values, v), left
		}
		e = append(e, a)
	}
	return e, true
}

// plainValue tells the Value that a text begins with, what stands behind it, and whether there is one.
func plainValue(s string) (string, string, bool) {
	head := valueHead.FindStringSubmatch(s)
	if head == nil {
		return "", "", false
	}
	s = s[len(head[0]):]
	size, _ := strconv.Atoi(head[1])
	if size > 2048 || size >= len(s) || s[size] != '\n' {
		return "", "", false
	}
	return s[:size], s[size+1:], true
}

// isRead fails where Read does not answer of a text as its lines do.
func isRead(t *testing.T, s string) {
	t.Helper()
	want, may := plainRead(s)
	if !may {
		isNoText(t, s)
		return
	}
	e, no := entry.Read(s)
	if no != api.OK || !equal(e, want) {
		t.Errorf("Read of %s: %v, %s, want %s", short(fmt.Sprintf("%q", s)), no, short(plain(e)), short(plain(want)))
	}
}

// isNoText fails where a text is taken for an entry's.
func isNoText(t *testing.T, s string) {
	t.Helper()
	e, no := entry.Read(s)
	if no != api.ErrEntry || len(e) > 0 {
		t.Errorf("Read of %s: %v, %s, want %v", short(fmt.Sprintf("%q", s)), no, short(plain(e)), api.ErrEntry)
	}
}

// isDone fails where Do does not answer as it is asked for.
func isDone(t *testing.T, want api.Entry, wantNo api.Errno, e api.Entry, l ...api.Mod) {
	t.Helper()
	got, no := entry.Do(e, l...)
	if no != wantNo || !equal(got, want) {
		t.Errorf("Do of %s and %s: %v, %s, want %v, %s", short(plain(e)), short(plainMods(l)), no, short(plain(got)), wantNo, short(plain(want)))
	}
}

// isOrdered fails where Order does not answer as it is asked for.
func isOrdered(t *testing.T, want api.Entry, wantNo api.Errno, l ...api.Attr) {
	t.Helper()
	got, no := entry.Order(l...)
	if no != wantNo || !equal(got, want) {
		t.Errorf("Order of %s: %v, %s, want %v, %s", short(plain(l)), no, short(plain(got)), wantNo, short(plain(want)))
	}
}

func TestCheckOfGoodEntries(t *testing.T) { // P7.1
	for _, e := range goodEntries() {
		if no := entry.Check(e); no != api.OK {
			t.Errorf("Check of %s: %v", short(plain(e)), no)
		}
	}
}

func TestCheckOfBadEntries(t *testing.T) { // P7.1
	for _, e := range badEntries() {
		if no := entry.Check(e); no != api.ErrArg {
			t.Errorf("Check of %s: %v, want %v", short(plain(e)), no, api.ErrArg)
		}
	}
}

func TestEachBoundOfAnEntry(t *testing.T) { // P7.1
	no := func(is bool) api.Errno {
		if is {
			return api.OK
		}
		return api.ErrArg
	}
	for n := range 70 {
		is(t, fmt.Sprintf("Check of %d attributes", n), entry.Check(wide("a", n)), no(n <= 24))
		is(t, fmt.Sprintf("Check of %d Values", n), entry.Check(api.Entry{attr("cn", numbered("v", n)...)}), no(n >= 1 && n <= 16))
		is(t, fmt.Sprintf("Check of a Name of %d bytes", n), entry.Check(api.Entry{attr(strings.Repeat("a", n), "x")}), no(n >= 1 && n <= 64))
	}
	for n := range 2100 {
		is(t, fmt.Sprintf("Check of a Value of %d bytes", n), entry.Check(api.Entry{attr("cn", strings.Repeat("a", n))}), no(n >= 1 && n <= 2048))
	}
}

func TestOrder(t *testing.T) { // P7.1
	isOrdered(t, nil, api.OK)
	isOrdered(t, api.Entry{attr("cn", "x"), attr("mail", "a", "b")}, api.OK, attr("Mail", "b", "a"), attr("CN", "x"), attr("mail", "a"))
	isOrdered(t, api.Entry{attr("cn", "a", "b", "c")}, api.OK, attr("cN", "c"), attr("Cn", "a", "a"), attr("CN"), attr("cn", "b", "c"))
	isOrdered(t, api.Entry{attr("cn", "A", "a")}, api.OK, attr("cn", "a", "A"))
	isOrdered(t, api.Entry{attr("cn", "\x7f", "\x80", "\xff")}, api.OK, attr("cn", "\xff", "\x7f", "\x80"))
	isOrdered(t, api.Entry{attr("a-", "x"), attr("a0", "x"), attr("aa", "x")}, api.OK, attr("AA", "x"), attr("A0", "x"), attr("A-", "x"))
	isOrdered(t, api.Entry{attr(strings.Repeat("a", 64), "x")}, api.OK, attr(strings.Repeat("A", 64), "x"))
	// Those without Values are let go.
	isOrdered(t, nil, api.OK, attr("cn"), api.Attr{Name: "SN", Values: []string{}})
	isOrdered(t, api.Entry{attr("b", "x")}, api.OK, attr("a"), attr("b", "x"), attr("c"))
	for _, e := range goodEntries() {
		isOrdered(t, e, api.OK, e...)
		isOrdered(t, e, api.OK, append(slices.Clone(e), e...)...)
		var turned api.Entry
		for _, a := range e {
			for _, v := range a.Values {
				turned = append(turned, attr(great(a.Name), v))
			}
		}
		slices.Reverse(turned)
		isOrdered(t, e, api.OK, turned...)
	}
}

func TestOrderOfTooMany(t *testing.T) { // P7.1
	for n := range 60 {
		want, no := wide("a", n), api.OK
		if n > 24 {
			want, no = nil, api.ErrLong
		}
		isOrdered(t, want, no, wide("a", n)...)
		// Those without Values, and the same once more, are no more.
		isOrdered(t, want, no, append(wide("a", n), attr("b"), attr("c"))...)
		isOrdered(t, want, no, append(wide("A", n), wide("a", n)...)...)
		values := numbered("v", n)
		want, no = tableOf([]api.Attr{attr("cn", values...)}).entry(), api.OK
		if n > 16 {
			want, no = nil, api.ErrLong
		}
		isOrdered(t, want, no, attr("cn", values...))
		isOrdered(t, want, no, attr("CN", values...), attr("cn", values...))
		isOrdered(t, want, no, attr("cn", slices.Repeat(values, 3)...))
		isOrdered(t, want, no, attr("cn", values[:n/2]...), attr("cn", values[n/2:]...))
	}
	isOrdered(t, api.Entry{attr("cn", "x")}, api.OK, slices.Repeat([]api.Attr{attr("Cn", "x")}, 10000)...)
	isOrdered(t, api.Entry{attr("cn", "x")}, api.OK, attr("cn", slices.Repeat([]string{"x"}, 10000)...))
	many := attr("b", numbered("v", 17)...)
	isOrdered(t, nil, api.ErrLong, attr("a", "x"), many)
	isOrdered(t, nil, api.ErrLong, many, attr("c", "x"))
}

func TestOrderOfWhatMayNotBe(t *testing.T) { // P7.1
	tooMany := wide("a", 25)
	for _, name := range badNames() {
		for _, a := range []api.Attr{attr(name), attr(name, "x")} {
			isOrdered(t, nil, api.ErrArg, a)
			isOrdered(t, nil, api.ErrArg, attr("a", "x"), a, attr("z", "x"))
			isOrdered(t, nil, api.ErrArg, append(tooMany, a)...)
		}
	}
	for _, v := range badValues() {
		for _, a := range []api.Attr{attr("b", v), attr("B", "x", v), attr("b", v, "x"), attr("b", append(numbered("v", 17), v)...)} {
			isOrdered(t, nil, api.ErrArg, a)
			isOrdered(t, nil, api.ErrArg, attr("a", "x"), a, attr("z", "x"))
			isOrdered(t, nil, api.ErrArg, append(tooMany, a)...)
			isOrdered(t, nil, api.ErrArg, append(api.Entry{a}, tooMany...)...)
		}
	}
}

func TestGet(t *testing.T) { // P7.1
	e := api.Entry{attr("a-1", "x"), attr("cn", "A", "a", "b"), attr("mail", "m"), attr("z", "\xff")}
	for name, want := range map[string][]string{
		"cn": {"A", "a", "b"}, "CN": {"A", "a", "b"}, "cN": {"A", "a", "b"}, "a-1": {"x"}, "A-1": {"x"}, "MAIL": {"m"}, "z": {"\xff"}, "Z": {"\xff"},
		"": nil, "c": nil, "cnn": nil, "cn ": nil, " cn": nil, "sn": nil, "a": nil, "a-": nil, "a-2": nil, "zz": nil, "\xff": nil, "1": nil, "\u212a": nil, "m": nil, "mail\x00": nil,
		strings.Repeat("a", 65): nil, strings.Repeat("cn", 100000): nil,
	} {
		areValues(t, "Get "+name, entry.Get(e, name), want)
		areValues(t, "Get of none "+name, entry.Get(nil, name), nil)
		areValues(t, "Get of none "+name, entry.Get(api.Entry{}, name), nil)
	}
	for _, e := range goodEntries() {
		for _, a := range e {
			areValues(t, "Get "+a.Name, entry.Get(e, a.Name), a.Values)
			areValues(t, "Get "+great(a.Name), entry.Get(e, great(a.Name)), a.Values)
		}
	}
}

func TestAdd(t *testing.T) { // P7.2
	isDone(t, api.Entry{attr("cn", "x")}, api.OK, nil, add("CN", "x"))
	isDone(t, api.Entry{attr("cn", "a", "b", "c", "d")}, api.OK, api.Entry{attr("cn", "b", "d")}, add("cn", "c", "a"))
	isDone(t, api.Entry{attr("cn", "X", "x")}, api.OK, api.Entry{attr("cn", "x")}, add("cN", "X"))
	isDone(t, api.Entry{attr("a", "x"), attr("b", "x"), attr("c", "x")}, api.OK, api.Entry{attr("a", "x"), attr("c", "x")}, add("b", "x"))
	e := api.Entry{attr("cn", "a", "b"), attr("sn", "c")}
	for _, m := range []api.Mod{add("cn", "a"), add("CN", "b"), add("cn", "z", "b"), add("cn", "a", "z"), add("cn", "z", "z"), add("x", "z", "z"), add("x", "z", "y", "z"), add("sn", "c", "c")} {
		isDone(t, nil, api.ErrThere, e, m)
		isDone(t, nil, api.ErrThere, e, add("new", "x"), m)
		isDone(t, nil, api.ErrThere, e, m, remove("none"))
	}
}

func TestRemove(t *testing.T) { // P7.2
	e := api.Entry{attr("cn", "a", "b", "c"), attr("sn", "d")}
	isDone(t, api.Entry{attr("cn", "b"), attr("sn", "d")}, api.OK, e, remove("CN", "c", "a"))
	isDone(t, api.Entry{attr("sn", "d")}, api.OK, e, remove("cn", "c", "a", "b"))
	isDone(t, api.Entry{attr("sn", "d")}, api.OK, e, remove("cN"))
	isDone(t, api.Entry{attr("sn", "d")}, api.OK, e, api.Mod{Kind: 2, Name: "cn", Values: []string{}})
	isDone(t, api.Entry{attr("cn", "a", "b", "c")}, api.OK, e, remove("sn", "d"))
	isDone(t, nil, api.OK, e, remove("sn"), remove("cn", "b"), remove("cn"))
	for _, m := range []api.Mod{remove("x"), remove("x", "a"), remove("cn", "x"), remove("cn", "d"), remove("cn", "A"), remove("cn", "a", "x"), remove("cn", "x", "a"), remove("cn", "a", "a"), remove("cn", "a", "b", "a"), remove("cn", "a", "b", "c", "d"), remove("cn", "a", "b", "c", "a"), remove("sn", "d", "d"), remove("X", "x", "x")} {
		isDone(t, nil, api.ErrMissing, e, m)
		isDone(t, nil, api.ErrMissing, e, add("new", "x"), m)
		isDone(t, nil, api.ErrMissing, e, m, add("cn", "a"))
	}
	isDone(t, nil, api.ErrMissing, nil, remove("cn"))
	isDone(t, nil, api.ErrMissing, nil, remove("cn", "a"))
	isDone(t, nil, api.ErrMissing, e, remove("cn"), remove("cn"))
	isDone(t, nil, api.ErrMissing, e, remove("sn", "d"), remove("sn"))
	isDone(t, nil, api.ErrMissing, e, remove("sn", "d"), remove("sn", "d"))
}

func TestReplace(t *testing.T) { // P7.2
	e := api.Entry{attr("cn", "a", "b"), attr("sn", "d")}
	isDone(t, api.Entry{attr("cn", "b", "c"), attr("sn", "d")}, api.OK, e, replace("Cn", "c", "b"))
	isDone(t, api.Entry{attr("cn", "x"), attr("sn", "d")}, api.OK, e, replace("cn", "x", "x", "x"))
	isDone(t, e, api.OK, e, replace("cn", "b", "a", "b"))
	isDone(t, api.Entry{attr("cn", "a", "b"), attr("o", "x", "y"), attr("sn", "d")}, api.OK, e, replace("O", "y", "x", "y"))
	isDone(t, api.Entry{attr("sn", "d")}, api.OK, e, replace("CN"))
	isDone(t, api.Entry{attr("sn", "d")}, api.OK, e, api.Mod{Kind: 3, Name: "cn", Values: []string{}})
	isDone(t, e, api.OK, e, replace("x"))
	isDone(t, nil, api.OK, nil, replace("x"))
	isDone(t, e, api.OK, e, replace("cn", slices.Repeat([]string{"a", "b"}, 8)...))
}

func TestChangesAreDoneOneAfterTheOther(t *testing.T) { // P7.2
	cn := api.Entry{attr("cn", "x")}
	isDone(t, api.Entry{attr("cn", "y")}, api.OK, cn, add("cn", "y"), remove("cn", "x"))
	isDone(t, nil, api.ErrThere, cn, add("cn", "x"))
	isDone(t, cn, api.OK, cn, remove("cn"), add("CN", "x"))
	isDone(t, cn, api.OK, cn, remove("cn", "x"), add("cn", "x"))
	isDone(t, cn, api.OK, cn, add("a", "x"), replace("A"))
	isDone(t, nil, api.ErrThere, cn, add("a", "x"), add("A", "y", "x"), remove("none"))
	isDone(t, nil, api.ErrMissing, cn, remove("none"), add("cn", "x"))
	isDone(t, nil, api.ErrMissing, cn, replace("cn", "y"), remove("cn", "x"))
	isDone(t, nil, api.ErrThere, cn, replace("cn", "y"), add("cn", "y"))
	for _, e := range goodEntries() {
		isDone(t, e, api.OK, e)
		isDone(t, e, api.OK, e, []api.Mod{}...)
	}
}

func TestEachBoundOfChanges(t *testing.T) { // P7.2
	some := numbered("v", 16)
	isDone(t, api.Entry{attr("cn", some...)}, api.OK, nil, add("cn", some...))
	isDone(t, api.Entry{attr("cn", some...)}, api.OK, api.Entry{attr("cn", some[:15]...)}, add("cn", some[15]))
	isDone(t, api.Entry{attr("cn", some...)}, api.OK, api.Entry{attr("cn", some[15])}, add("CN", some[:15]...))
	full := api.Entry{attr("cn", some...)}
	isDone(t, nil, api.ErrLong, full, add("cn", "x"))
	isDone(t, nil, api.ErrLong, full, add("cn", "x"), remove("cn", "x"))
	isDone(t, nil, api.ErrLong, full, add("cn", "x"), add("cn", "x"))
	isDone(t, nil, api.ErrLong, full, add("cn", numbered("w", 16)...))
	isDone(t, nil, api.ErrThere, full, add("cn", "x", some[3]))
	isDone(t, nil, api.ErrThere, full, add("cn", "x", "x"))
	isDone(t, api.Entry{attr("cn", append(some[1:], "x")...)}, api.OK, full, remove("cn", some[0]), add("cn", "x"))
	isDone(t, api.Entry{attr("cn", numbered("w", 16)...)}, api.OK, full, replace("cn", numbered("w", 16)...))
	isDone(t, nil, api.OK, full, remove("cn", some...))

	e := wide("a", 24)
	isDone(t, e, api.OK, e[:23], add(e[23].Name, "v"))
	isDone(t, e, api.OK, e[1:], replace(e[0].Name, "v"))
	isDone(t, nil, api.ErrLong, e, add("b", "x"))
	isDone(t, nil, api.ErrLong, e, replace("b", "x"))
	isDone(t, nil, api.ErrLong, e, add("b", "x"), remove("b"))
	isDone(t, nil, api.ErrLong, e, replace("b", "x"), remove("none"))
	isDone(t, nil, api.ErrThere, e, add("b", "x", "x"))
	isDone(t, nil, api.ErrMissing, e, remove("b"), add("b", "x"))
	isDone(t, e, api.OK, e, replace("b"))
	isDone(t, append(slices.Clone(e[1:]), attr("b", "x")), api.OK, e, remove(e[0].Name), add("b", "x"))
	isDone(t, append(slices.Clone(e[1:]), attr("b", "x")), api.OK, e, replace(e[0].Name), replace("b", "x"))
	isDone(t, append(slices.Clone(e[1:]), attr("b", "x")), api.OK, e, remove(e[0].Name, "v"), add("b", "x"))

	long := strings.Repeat("x", 2048)
	name := strings.Repeat("n", 64)
	isDone(t, api.Entry{attr(name, long)}, api.OK, nil, add(great(name), long))
	isDone(t, api.Entry{attr(name, long)}, api.OK, nil, replace(name, long))
	isDone(t, nil, api.OK, api.Entry{attr(name, long)}, remove(name, long))
}

func TestDoOfWhatMayNotBe(t *testing.T) { // P7.2
	for _, e := range badEntries() {
		isDone(t, nil, api.ErrArg, e)
		isDone(t, nil, api.ErrArg, e, add("new", "x"))
		isDone(t, nil, api.ErrArg, e, remove("none"))
		isDone(t, nil, api.ErrArg, e, replace("cn", "a"))
	}
	e := api.Entry{attr("cn", "a"), attr("sn", "b")}
	for _, m := range badMods() {
		isDone(t, nil, api.ErrArg, e, m)
		isDone(t, nil, api.ErrArg, nil, m)
		// What can't be done, and what is too long, comes behind what may not be.
		isDone(t, nil, api.ErrArg, e, add("cn", "a"), m)
		isDone(t, nil, api.ErrArg, e, remove("none"), m)
		isDone(t, nil, api.ErrArg, wide("a", 24), add("b", "x"), m)
		isDone(t, nil, api.ErrArg, e, replace("cn", "z"), m, replace("cn", "y"))
	}
}

func TestDiff(t *testing.T) { // P7.2
	for _, c := range []struct {
		a, b api.Entry
		want []api.Mod
	}{
		{nil, nil, nil},
		{nil, api.Entry{}, nil},
		{api.Entry{attr("cn", "x"), attr("mail", "a")}, api.Entry{attr("cn", "y")}, []api.Mod{replace("cn", "y"), remove("mail")}},
		{nil, api.Entry{attr("cn", "x", "y"), attr("sn", "z")}, []api.Mod{add("cn", "x", "y"), add("sn", "z")}},
		{api.Entry{attr("cn", "x", "y"), attr("sn", "z")}, nil, []api.Mod{remove("cn"), remove("sn")}},
		{api.Entry{attr("a", "x"), attr("c", "x"), attr("d", "1")}, api.Entry{attr("b", "x"), attr("c", "x"), attr("d", "1", "2")}, []api.Mod{remove("a"), add("b", "x"), replace("d", "1", "2")}},
		{api.Entry{attr("b", "x"), attr("c", "x")}, api.Entry{attr("a", "x"), attr("d", "x")}, []api.Mod{add("a", "x"), remove("b"), remove("c"), add("d", "x")}},
		{api.Entry{attr("cn", "a", "b")}, api.Entry{attr("cn", "a")}, []api.Mod{replace("cn", "a")}},
		{api.Entry{attr("cn", "a")}, api.Entry{attr("cn", "A")}, []api.Mod{replace("cn", "A")}},
		{api.Entry{attr("cn", "ab")}, api.Entry{attr("cn", "a", "b")}, []api.Mod{replace("cn", "a", "b")}},
		{api.Entry{attr("cn", numbered("v", 16)...)}, api.Entry{attr("cn", numbered("w", 16)...)}, []api.Mod{replace("cn", numbered("w", 16)...)}},
	} {
		l, no := entry.Diff(c.a, c.b)
		is(t, "Diff", no, api.OK)
		areMods(t, fmt.Sprintf("Diff of %q and %q", c.a, c.b), l, c.want)
	}
	good := goodEntries()
	for i, bad := range badEntries() {
		e := good[i%len(good)]
		for _, pair := range [][2]api.Entry{{e, bad}, {bad, e}, {bad, bad}} {
			l, no := entry.Diff(pair[0], pair[1])
			if no != api.ErrArg || len(l) > 0 {
				t.Errorf("Diff of %s and %s: %v, %s, want %v", short(plain(pair[0])), short(plain(pair[1])), no, short(plainMods(l)), api.ErrArg)
			}
		}
	}
}

// removedFirst tells the changes, those that take an attribute away first, those that bring one last.
func removedFirst(l []api.Mod) []api.Mod {
	l = slices.Clone(l)
	turn := map[api.ModKind]int{api.ModDelete: 1, api.ModReplace: 2, api.ModAdd: 3}
	sort.SliceStable(l, func(i, j int) bool { return turn[l[i].Kind] < turn[l[j].Kind] })
	return l
}

// isDifference fails where the difference of two entries is not what the chapter says.
func isDifference(t *testing.T, a, b api.Entry) {
	t.Helper()
	l, no := entry.Diff(a, b)
	is(t, "Diff", no, api.OK)
	from, to := tableOf(a), tableOf(b)
	last := ""
	for _, m := range l {
		is(t, "Names rise", m.Name > last, true)
		last = m.Name
		values := fmt.Sprint(entry.Get(b, m.Name))
		is(t, "the other one's Values", fmt.Sprint(m.Values), values)
		is(t, "not the same", fmt.Sprint(entry.Get(a, m.Name)) != values, true)
		is(t, "ModDelete", m.Kind == api.ModDelete, len(to[m.Name]) == 0)
		is(t, "ModAdd", m.Kind == api.ModAdd, len(from[m.Name]) == 0)
		is(t, "ModReplace", m.Kind == api.ModReplace, len(from[m.Name]) > 0 && len(to[m.Name]) > 0)
	}
	isDone(t, b, api.OK, a, removedFirst(l)...)
}

func TestDifferencesMakeTheOtherOne(t *testing.T) { // P7.2, P7.4
	all := append(goodEntries(), wide("b", 24), wide("a", 12), append(wide("a", 12), wide("z", 12)...))
	for _, a := range all {
		for _, b := range all {
			isDifference(t, a, b)
		}
		l, no := entry.Diff(a, entry.Copy(a))
		is(t, "Diff of the same", no, api.OK)
		areMods(t, "Diff of the same", l, nil)
	}
}

// randomEntry makes an entry of few Names and Values, of which many are the same.
func randomEntry(r *rand.Rand) api.Entry {
	t := plainTable{}
	for range r.Intn(8) {
		t.say(randomOf(r, "a", "b", "c-1", "zz"), randomOf(r, "x", "X", "y", "\n", "\xff", "xy"))
	}
	return t.entry()
}

// randomOf tells one of some.
func randomOf(r *rand.Rand, l ...string) string { return l[r.Intn(len(l))] }

// randomMod makes a change that may be.
func randomMod(r *rand.Rand) api.Mod {
	m := api.Mod{Kind: api.ModKind(1 + r.Intn(3)), Name: randomOf(r, "a", "b", "c-1", "zz", "A", "C-1", "zZ")}
	for range r.Intn(4) {
		m.Values = append(m.Values, randomOf(r, "x", "X", "y", "\n", "\xff", "xy"))
	}
	if m.Kind == api.ModAdd && len(m.Values) == 0 {
		m.Values = []string{"x"}
	}
	return m
}

func TestManyChanges(t *testing.T) { // P7.2, P7.4
	r := rand.New(rand.NewSource(1))
	for range 30000 {
		e := randomEntry(r)
		var l []api.Mod
		for range r.Intn(4) {
			l = append(l, randomMod(r))
		}
		want, no := plainDo(e, l...)
		isDone(t, want, no, e, l...)
		isDifference(t, e, randomEntry(r))
	}
}

func TestManyChangesNearTheBounds(t *testing.T) { // P7.2
	r := rand.New(rand.NewSource(2))
	answers := map[api.Errno]int{}
	for range 3000 {
		e := wide("a", 20+r.Intn(5))
		if len(e) > 0 {
			e[r.Intn(len(e))].Values = numbered("v", 12+r.Intn(5))
		}
		names, values := numbered("a", 27), numbered("v", 20)
		var l []api.Mod
		for range 1 + r.Intn(6) {
			m := api.Mod{Kind: api.ModKind(1 + r.Intn(3)), Name: randomOf(r, names...)}
			for range 1 + r.Intn(3) {
				m.Values = append(m.Values, randomOf(r, append(values, "v")...))
			}
			l = append(l, m)
		}
		want, no := plainDo(e, l...)
		isDone(t, want, no, e, l...)
		answers[no]++
	}
	for _, no := range []api.Errno{api.OK, api.ErrThere, api.ErrMissing, api.ErrLong} {
		is(t, fmt.Sprintf("some were answered by %v", no), answers[no] > 10, true)
	}
}

func TestManyOrders(t *testing.T) { // P7.1
	r := rand.New(rand.NewSource(3))
	for range 10000 {
		var l []api.Attr
		for range r.Intn(6) {
			m := randomMod(r)
			if r.Intn(4) == 0 {
				m.Values = nil
			}
			l = append(l, attr(m.Name, m.Values...))
		}
		isOrdered(t, tableOf(l).entry(), api.OK, l...)
	}
}

func TestText(t *testing.T) { // P7.3
	for want, e := range map[string]api.Entry{
		"":                       nil,
		"cn 2\n2 ab\n1 c\n":      {attr("cn", "ab", "c")},
		"a 1\n1 \n\nb 1\n2  x\n": {attr("a", "\n"), attr("b", " x")},
		"a-1 1\n10 0123456789\n": {attr("a-1", "0123456789")},
		"cn 1\n2048 " + strings.Repeat("\xff", 2048) + "\n":         {attr("cn", strings.Repeat("\xff", 2048))},
		"cn 10\n1 0\n1 1\n1 2\n1 3\n1 4\n1 5\n1 6\n1 7\n1 8\n1 9\n": {attr("cn", "0", "1", "2", "3", "4", "5", "6", "7", "8", "9")},
	} {
		s, no := entry.Text(e)
		is(t, "Text", no, api.OK)
		is(t, "Text", s, want)
	}
	for _, e := range badEntries() {
		if s, no := entry.Text(e); no != api.ErrArg || s != "" {
			t.Errorf("Text of %s: %v, %s, want %v", short(plain(e)), no, short(s), api.ErrArg)
		}
	}
}

func TestReadOfText(t *testing.T) { // P7.3, P7.4
	for _, e := range goodEntries() {
		s, no := entry.Text(e)
		is(t, "Text", no, api.OK)
		is(t, "Text", s, plainText(e))
		again, no := entry.Read(s)
		is(t, "Read of Text", no, api.OK)
		isEntry(t, "Read of Text", again, e)
	}
	// No bound but those of its parts holds a text.
	s, _ := entry.Text(fullest())
	is(t, "the longest text", len(s), 24*(64+4+16*(2048+6)))
	isNoText(t, s+"b 1\n1 x\n")
}

func TestReadOfWhatIsNoText(t *testing.T) { // P7.3
	for _, s := range []string{
		"\n", " ", "cn", "cn ", "cn 1", "cn 1\n", "cn 1\n1", "cn 1\n1 ", "cn 1\n1 x", "cn 1\n1 x ", "cn 1\n1 x\n\n", "cn 1\n1 x\n ", "cn 1\n1 x\ncn",
		"cn 0\n", "cn 2\n1 x\n", "cn 1\n1 x\n1 y\n", "cn 1\n0 \n", "cn 1\n2 x\n", "cn 1\n1 xx\n", "cn 1\n3 x\n", "cn 1\n1 x\r\n", "cn 1\r\n1 x\n",
		"cn -1\n1 x\n", "cn 01\n1 x\n", "cn +1\n1 x\n", "cn 1_0\n1 x\n", "cn 0x1\n1 x\n", "cn  1\n1 x\n", "cn 1 \n1 x\n", "cn a\n1 x\n", "cn \n1 x\n", "cn 1.0\n1 x\n", "cn 1e0\n1 x\n",
		"cn 1\n-1 x\n", "cn 1\n01 x\n", "cn 1\n+1 x\n", "cn 1\n0x1 x\n", "cn 1\n 1 x\n", "cn 1\n x\n", "cn 1\n1x\n", "cn 1\n1  x\n", "cn 1\n-0 \n", "cn -0\n", "cn 1\n00 \n",
		"CN 1\n1 x\n", "cN 1\n1 x\n", " 1\n1 x\n", "1 1\n1 x\n", "-a 1\n1 x\n", "c_n 1\n1 x\n", "c\nn 1\n1 x\n", "\ncn 1\n1 x\n", " cn 1\n1 x\n", "cn\n1\n1 x\n",
		"cn 2\n1 b\n1 a\n", "cn 2\n1 a\n1 a\n", "sn 1\n1 x\ncn 1\n1 x\n", "cn 1\n1 x\ncn 1\n1 y\n", "cn 1\n1 x\ncn 1\n1 x\n",
		"cn 9223372036854775807\n1 x\n", "cn 9223372036854775808\n1 x\n", "cn 18446744073709551617\n1 x\n", "cn 4294967297\n1 x\n",
		"cn 1\n9223372036854775807 x\n", "cn 1\n9223372036854775808 x\n", "cn 1\n18446744073709551617 x\n", "cn 1\n4294967297 x\n", "cn 1\n-9223372036854775808 x\n",
		"cn 9223372036854775807\n", "cn 1" + strings.Repeat("0", 100000) + "\n1 x\n", "cn 1\n1" + strings.Repeat("0", 100000) + " x\n",
		"cn 1\n\u0661 x\n", "cn \u0661\n1 x\n",
		strings.Repeat("\n", 1<<18), strings.Repeat(" ", 1<<18), strings.Repeat("a", 1<<18), strings.Repeat("a 1\n1 x\n", 1<<16), strings.Repeat("1 x\n", 1<<16), "cn 65536\n" + strings.Repeat("1 x\n", 1<<16),
	} {
		isNoText(t, s)
	}
	for _, e := range badEntries() {
		isNoText(t, plainText(e))
	}
	for _, e := range goodEntries() {
		s := plainText(e)
		for _, more := range []string{" ", "\n", "a", "\x00", "0"} {
			isNoText(t, s+more)
			if s != "" {
				isNoText(t, s[:len(s)-1])
				isNoText(t, s[:len(s)-1]+more+"\n")
			}
		}
	}
}

func TestTextsWithChanges(t *testing.T) { // P7.3, P7.4
	r := rand.New(rand.NewSource(4))
	good := 0
	for range 20000 {
		s := plainText(randomEntry(r))
		isRead(t, s)
		for range 3 {
			at := r.Intn(len(s) + 1)
			s = s[:at] + randomOf(r, "", "a", "b", "z", "x", "0", "1", "2", "-", " ", "\n", "A", "\xff") + s[min(len(s), at+r.Intn(2)):]
			isRead(t, s)
			if _, may := plainRead(s); may {
				good++
			}
		}
	}
	is(t, "some were an entry's text", good > 100, true)
}

func TestAllShortTexts(t *testing.T) { // P7.3
	var grow func(s string, size int)
	grow = func(s string, size int) {
		if size == 0 {
			isRead(t, s)
			isRead(t, s+"\n1 x\n")
			isRead(t, "a 1\n"+s)
			isRead(t, "a 2\n1 x\n"+s)
			return
		}
		for _, c := range "abA012 -\n" {
			grow(s+string(c), size-1)
		}
	}
	for size := range 5 {
		grow("", size)
	}
}

func TestUnlikeEntriesHaveUnlikeTexts(t *testing.T) { // P7.4
	seen := map[string]string{}
	r := rand.New(rand.NewSource(5))
	look := func(e api.Entry) {
		s, no := entry.Text(e)
		is(t, "Text", no, api.OK)
		if other, there := seen[s]; there && other != plain(e) {
			t.Errorf("%q is the text of %s and of %s", s, other, plain(e))
		}
		seen[s] = plain(e)
		again, no := entry.Read(s)
		is(t, "Read of Text", no, api.OK)
		is(t, "Read of Text is the same", entry.Same(again, e), true)
	}
	for range 20000 {
		e := randomEntry(r)
		look(e)
		s, _ := entry.Text(e)
		if s != "" { // a Value that is told as a whole entry is not that entry
			look(api.Entry{attr("a", s)})
			look(append(api.Entry{attr("a", s[:1]+s)}, attr("b", s)))
		}
	}
}

func TestCopy(t *testing.T) { // P7.3
	for _, e := range append(goodEntries(), badEntries()...) {
		same := entry.Copy(e)
		isEntry(t, "Copy", same, e)
		is(t, "Same as the copy", entry.Same(e, same), true)
	}
}

func TestSame(t *testing.T) { // P7.3
	all := goodEntries()
	for i, bad := range badEntries() {
		if i%10 == 0 {
			all = append(all, bad)
		}
	}
	for _, a := range all {
		for _, b := range all {
			if entry.Same(a, b) != equal(a, b) {
				t.Errorf("Same of %s and %s: %v", short(plain(a)), short(plain(b)), entry.Same(a, b))
			}
		}
	}
	is(t, "Same of none", entry.Same(nil, api.Entry{}), true)
	is(t, "Same of no Values", entry.Same(api.Entry{attr("cn")}, api.Entry{{Name: "cn", Values: []string{}}}), true)
	cn := api.Entry{attr("cn", "a", "b")}
	for _, other := range []api.Entry{nil, {attr("CN", "a", "b")}, {attr("cn", "a", "B")}, {attr("cn", "a")}, {attr("cn", "a", "b", "c")}, {attr("cn", "b", "a")}, {attr("sn", "a", "b")}, {attr("cn", "a"), attr("cn", "b")}, {attr("cn", "a", "b"), attr("sn", "x")}, {{}}} {
		is(t, "Same of "+plain(other), entry.Same(cn, other), false)
		is(t, "Same of "+plain(other)+", turned", entry.Same(other, cn), false)
	}
}

// withRoom tells an entry with room behind all that is not nought.
func withRoom(e api.Entry) api.Entry {
	e = append(slices.Clone(e), attr("room", "behind"), attr("room", "behind"))[:len(e)]
	for i := range e {
		e[i].Values = valuesWithRoom(e[i].Values)
	}
	return e
}

// valuesWithRoom tells Values with room behind them that is not nought.
func valuesWithRoom(l []string) []string {
	return append(slices.Clone(l), "room", "behind")[:len(l)]
}

// changesWithRoom tells changes with room behind all that is not nought.
func changesWithRoom(l ...api.Mod) []api.Mod {
	l = append(slices.Clone(l), add("room", "behind"), add("room", "behind"))[:len(l)]
	for i := range l {
		l[i].Values = valuesWithRoom(l[i].Values)
	}
	return l
}

// wholeEntry tells an entry and the room behind all.
func wholeEntry(e api.Entry) string {
	s := fmt.Sprintf("%q", e[:cap(e)])
	for _, a := range e {
		s += fmt.Sprintf("%q", a.Values[:cap(a.Values)])
	}
	return s
}

// wholeMods tells changes and the room behind all.
func wholeMods(l []api.Mod) string {
	s := plainMods(l[:cap(l)])
	for _, m := range l {
		s += fmt.Sprintf("%q", m.Values[:cap(m.Values)])
	}
	return s
}

func TestNothingHandedInIsChanged(t *testing.T) { // P7.1, P7.2, P7.3
	e := withRoom(api.Entry{attr("cn", "a", "b", "c"), attr("mail", "m", "n"), attr("sn", "x")})
	other := withRoom(api.Entry{attr("cn", "a", "d"), attr("sn", "x"), attr("title", "t", "u")})
	turned := withRoom(api.Entry{attr("SN", "z", "a", "z"), attr("CN", "c", "b"), attr("sn", "y", "a"), attr("cn")})
	l := changesWithRoom(add("CN", "z", "d"), remove("cn", "c", "a"), replace("sn", "q", "p", "q"), remove("mail"), add("new", "y", "x"))
	bad := changesWithRoom(add("cn", "z"), remove("cn", "a"), add("cn", "z"))
	was := []string{wholeEntry(e), wholeEntry(other), wholeEntry(turned), wholeMods(l), wholeMods(bad)}
	entry.Check(e)
	entry.Check(turned)
	entry.Order(e...)
	entry.Order(turned...)
	entry.Get(e, "CN")
	for n := range len(l) + 1 {
		entry.Do(e, l[:n]...)
	}
	entry.Do(e, bad...)
	entry.Do(turned, l...)
	entry.Diff(e, other)
	entry.Diff(other, e)
	entry.Diff(e, turned)
	entry.Text(e)
	entry.Copy(e)
	entry.Same(e, other)
	is(t, "what was handed in", strings.Join([]string{wholeEntry(e), wholeEntry(other), wholeEntry(turned), wholeMods(l), wholeMods(bad)}, "\n"), strings.Join(was, "\n"))
}

// scribble writes over Values, and over the room behind them.
func scribble(values []string) {
	for i := range values[:cap(values)] {
		values[:cap(values)][i] = "scribbled"
	}
}

// scribbleOver writes over an entry, and over the room behind all.
func scribbleOver(e api.Entry) {
	for i := range e {
		scribble(e[i].Values)
	}
	for i := range e[:cap(e)] {
		e[:cap(e)][i] = attr("scribbled", "over")
	}
}

func TestAnswersAreNewMemory(t *testing.T) { // P7.1, P7.2, P7.3
	e := withRoom(api.Entry{attr("cn", "a", "b", "c"), attr("mail", "m", "n"), attr("sn", "x")})
	l := changesWithRoom(add("cn", "z"), remove("sn"), replace("title", "t"))
	was := []string{wholeEntry(e), wholeMods(l)}
	text := plainText(e)
	for what, call := range map[string]func() api.Entry{
		"Order":               func() api.Entry { x, _ := entry.Order(e...); return x },
		"Do":                  func() api.Entry { x, _ := entry.Do(e, l...); return x },
		"Do of no change":     func() api.Entry { x, _ := entry.Do(e); return x },
		"Do of one added":     func() api.Entry { x, _ := entry.Do(e, l[0]); return x },
		"Do of one replaced":  func() api.Entry { x, _ := entry.Do(e, l[2]); return x },
		"Do of one made anew": func() api.Entry { x, _ := entry.Do(nil, l[0]); return x },
		"Read":                func() api.Entry { x, _ := entry.Read(text); return x },
		"Copy":                func() api.Entry { return entry.Copy(e) },
	} {
		answer, other := call(), call()
		want := plain(answer)
		for i := range answer { // within itself, one attribute after the other
			before := plain(append(slices.Clone(answer[:i]), answer[i+1:]...))
			values := slices.Clone(answer[i].Values)
			scribble(answer[i].Values)
			is(t, what+": other attributes", plain(append(slices.Clone(answer[:i]), answer[i+1:]...)), before)
			copy(answer[i].Values, values)
		}
		scribbleOver(answer)
		is(t, what+": another answer", plain(other), want)
		is(t, what+": once more", plain(call()), want)
		is(t, what+": what was handed in", wholeEntry(e), was[0])
		is(t, what+": what was handed in", wholeMods(l), was[1])
	}
	values := entry.Get(e, "cn")
	scribble(values)
	is(t, "Get: what was handed in", wholeEntry(e), was[0])
}

func TestDifferencesAreNewMemory(t *testing.T) { // P7.2
	a, b := withRoom(api.Entry{attr("cn", "a"), attr("mail", "m")}), withRoom(api.Entry{attr("cn", "b", "c"), attr("sn", "x", "y")})
	was := wholeEntry(a) + wholeEntry(b)
	l, _ := entry.Diff(a, b)
	other, _ := entry.Diff(a, b)
	want := plainMods(other)
	scribble(l[0].Values)
	areValues(t, "Values of another change", l[2].Values, []string{"x", "y"})
	for i := range l {
		scribble(l[i].Values)
	}
	for i := range l[:cap(l)] {
		l[:cap(l)][i] = add("scribbled", "over")
	}
	is(t, "Diff: what was handed in", wholeEntry(a)+wholeEntry(b), was)
	is(t, "Diff: another answer", plainMods(other), want)
}

func TestAnswersKeepNothing(t *testing.T) { // P7.1, P7.2, P7.3
	e := withRoom(api.Entry{attr("cn", "a", "b", "c"), attr("mail", "m", "n")})
	l := changesWithRoom(add("new", "z", "y"), replace("sn", "t"))
	ordered, _ := entry.Order(e...)
	done, _ := entry.Do(e, l...)
	diff, _ := entry.Diff(nil, e)
	same := entry.Copy(e)
	got := entry.Get(e, "cn")
	tell := func() string {
		return plain(ordered) + plain(done) + plainMods(diff) + plain(same) + fmt.Sprintf("%q", got)
	}
	was := tell()
	scribbleOver(e)
	for i := range l {
		scribble(l[i].Values)
	}
	is(t, "answers, what was handed in being written over", tell(), was)
}

func TestHugeArguments(t *testing.T) { // P7.1, P7.2, P7.3
	const many = 1 << 17
	isOrdered(t, nil, api.ErrLong, wide("a", many)...)
	isOrdered(t, nil, api.ErrLong, attr("cn", numbered("v", many)...))
	var single []api.Attr
	for _, v := range numbered("v", many) {
		single = append(single, attr("cn", v))
	}
	isOrdered(t, nil, api.ErrLong, single...)
	is(t, "Check of many attributes", entry.Check(wide("a", many)), api.ErrArg)
	is(t, "Check of many Values", entry.Check(api.Entry{attr("cn", numbered("v", many)...)}), api.ErrArg)
	var l []api.Mod
	for range many / 2 {
		l = append(l, add("cn", "x"), remove("CN", "x"))
	}
	isDone(t, nil, api.OK, nil, l...)
	isDone(t, api.Entry{attr("cn", "x")}, api.OK, nil, append(l, add("cn", "x"))...)
	isDone(t, nil, api.ErrArg, nil, append(l, add("cn"))...)
	areValues(t, "Get of many", entry.Get(wide("a", many), fmt.Sprintf("A%06d", many-1)), []string{"v"})
	isEntry(t, "Copy of many", entry.Copy(wide("a", many)), wide("a", many))
	is(t, "Same of many", entry.Same(wide("a", many), wide("a", many)), true)
}

func TestExamples(t *testing.T) { // P7.1, P7.2, P7.3
	isOrdered(t, api.Entry{attr("cn", "x"), attr("mail", "a", "b")}, api.OK, attr("Mail", "b", "a"), attr("CN", "x"), attr("mail", "a"))
	isDone(t, api.Entry{attr("cn", "y")}, api.OK, api.Entry{attr("cn", "x")}, add("cn", "y"), remove("cn", "x"))
	isDone(t, nil, api.ErrThere, api.Entry{attr("cn", "x")}, add("cn", "x"))
	l, no := entry.Diff(api.Entry{attr("cn", "x"), attr("mail", "a")}, api.Entry{attr("cn", "y")})
	is(t, "Diff", no, api.OK)
	areMods(t, "Diff", l, []api.Mod{replace("cn", "y"), remove("mail")})
	s, no := entry.Text(api.Entry{attr("cn", "ab", "c")})
	is(t, "Text", no, api.OK)
	is(t, "Text", s, "cn 2\n2 ab\n1 c\n")
}
