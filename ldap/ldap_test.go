package ldap_test

import (
	"encoding/hex"
	"fmt"
	"math"
	"math/rand"
	"slices"
	"strings"
	"testing"

	"cardcase/api"
	"cardcase/ber"
	"cardcase/dn"
	"cardcase/filter"
	"cardcase/ldap"
)

// is fails where an answer is another than the one that is asked for.
func is[T comparable](t *testing.T, what string, got, want T) {
	t.Helper()
	if got != want {
		t.Errorf("%s: %s, want %s", what, short(got), short(want))
	}
}

// short tells something, or how it begins.
func short(x any) string {
	s := fmt.Sprintf("%v", x)
	if text, is := x.(string); is {
		s = fmt.Sprintf("%q", text)
	}
	if len(s) > 400 {
		return fmt.Sprintf("%s .. (%d bytes)", s[:400], len(s))
	}
	return s
}

// plainFilter tells all that is in a filter, nil and empty being the same.
func plainFilter(f api.Filter) string {
	var s strings.Builder
	s.WriteString(fmt.Sprintf("%d %q %q [", f.Kind, f.Name, f.Value))
	for _, one := range f.Of {
		s.WriteString(plainFilter(one) + ";")
	}
	return s.String() + "]"
}

// plainMods tells all that is in changes, nil and empty being the same.
func plainMods(l []api.Mod) string {
	var s strings.Builder
	for _, m := range l {
		s.WriteString(fmt.Sprintf("%d %q %q;", m.Kind, m.Name, m.Values))
	}
	return s.String()
}

// plain tells all that is in a message, nil and empty being the same.
func plain(m api.Ldap) string {
	return fmt.Sprintf("id %d kind %d base %q filter %s cookie %q uuid %q csn %d entry %q gone %v code %d mods %s has %v guard %s",
		m.Id, m.Kind, m.Base, plainFilter(m.Filter), m.Cookie, m.Uuid, m.Csn, m.Entry, m.Gone, m.Code, plainMods(m.Mods), m.HasGuard, plainFilter(m.Guard))
}

// small tells a text whose letters A to Z are a to z.
func small(s string) string {
	for c := 'A'; c <= 'Z'; c++ {
		s = strings.ReplaceAll(s, string(c), strings.ToLower(string(c)))
	}
	return s
}

// great tells a text whose letters a to z are A to Z.
func great(s string) string {
	for c := 'a'; c <= 'z'; c++ {
		s = strings.ReplaceAll(s, string(c), strings.ToUpper(string(c)))
	}
	return s
}

// filterWithNames tells the same filter with other Names, in new memory.
func filterWithNames(f api.Filter, other func(string) string) api.Filter {
	f.Name = other(f.Name)
	f.Of = slices.Clone(f.Of)
	for i := range f.Of {
		f.Of[i] = filterWithNames(f.Of[i], other)
	}
	return f
}

// withNames tells the same message with other Names of Filter, Guard and Mods, in new memory.
func withNames(m api.Ldap, other func(string) string) api.Ldap {
	m.Filter, m.Guard = filterWithNames(m.Filter, other), filterWithNames(m.Guard, other)
	m.Mods = slices.Clone(m.Mods)
	for i := range m.Mods {
		m.Mods[i].Name = other(m.Mods[i].Name)
	}
	return m
}

// and makes a filter, and so do those that follow.
func and(of ...api.Filter) api.Filter { return api.Filter{Kind: 1, Of: of} }

func or(of ...api.Filter) api.Filter { return api.Filter{Kind: 2, Of: of} }

func not(of ...api.Filter) api.Filter { return api.Filter{Kind: 3, Of: of} }

func eq(name, value string) api.Filter { return api.Filter{Kind: 4, Name: name, Value: value} }

func begin(name, value string) api.Filter { return api.Filter{Kind: 5, Name: name, Value: value} }

func has(name string) api.Filter { return api.Filter{Kind: 6, Name: name} }

// deep tells a filter in so many others that it is of that depth.
func deep(f api.Filter, depth int) api.Filter {
	for range depth - 1 {
		f = not(f)
	}
	return f
}

// attr makes an attribute.
func attr(name string, values ...string) api.Attr { return api.Attr{Name: name, Values: values} }

// mod makes a change.
func mod(kind api.ModKind, name string, values ...string) api.Mod {
	return api.Mod{Kind: kind, Name: name, Values: values}
}

// name makes a name of an entry, of Types and Values.
func name(parts ...string) api.Dn {
	var d api.Dn
	for i := 0; i < len(parts); i += 2 {
		d = append(d, api.Rdn{Type: parts[i], Value: parts[i+1]})
	}
	return d
}

// search makes a message, and so do those that follow.
func search(base api.Dn, f api.Filter, cookie string) api.Ldap {
	return api.Ldap{Id: 1, Kind: 1, Base: base, Filter: f, Cookie: cookie}
}

func item(uuid string, csn int64, base api.Dn, e ...api.Attr) api.Ldap {
	return api.Ldap{Id: 1, Kind: 2, Uuid: uuid, Csn: csn, Base: base, Entry: e}
}

func gone(uuid string, csn int64) api.Ldap {
	return api.Ldap{Id: 1, Kind: 2, Uuid: uuid, Csn: csn, Gone: true}
}

func done(code int64, cookie string) api.Ldap {
	return api.Ldap{Id: 1, Kind: 3, Code: code, Cookie: cookie}
}

func add(base api.Dn, e ...api.Attr) api.Ldap {
	return api.Ldap{Id: 1, Kind: 4, Base: base, Entry: e}
}

func modify(base api.Dn, l ...api.Mod) api.Ldap {
	return api.Ldap{Id: 1, Kind: 5, Base: base, Mods: l}
}

func drop(base api.Dn) api.Ldap { return api.Ldap{Id: 1, Kind: 6, Base: base} }

func result(code int64, uuid string, csn int64) api.Ldap {
	return api.Ldap{Id: 1, Kind: 7, Code: code, Uuid: uuid, Csn: csn}
}

// guarded tells the same message with a Guard.
func guarded(m api.Ldap, f api.Filter) api.Ldap {
	m.HasGuard, m.Guard = true, f
	return m
}

// numbered makes so many texts that rise, and begin so.
func numbered(begin string, n int) []string {
	var l []string
	for i := range n {
		l = append(l, fmt.Sprintf("%s%06d", begin, i))
	}
	return l
}

// allBytes is a text of each byte, rising.
func allBytes() string {
	b := make([]byte, 256)
	for c := range b {
		b[c] = byte(c)
	}
	return string(b)
}

// tlv tells a value's bytes: its tag, a length, and what is in it.
func tlv(tag byte, parts ...string) string {
	in := strings.Join(parts, "")
	n := len(in)
	switch {
	case n < 1<<7:
		return string([]byte{tag, byte(n)}) + in
	case n < 1<<8:
		return string([]byte{tag, 0x81, byte(n)}) + in
	case n < 1<<16:
		return string([]byte{tag, 0x82, byte(n >> 8), byte(n)}) + in
	}
	return string([]byte{tag, 0x83, byte(n >> 16), byte(n >> 8), byte(n)}) + in
}

// number tells the bytes of a number, in as few as hold its sign.
func number(tag byte, n int64) string {
	for size := 1; ; size++ {
		if size == 8 || n>>(8*size-1) == 0 || n>>(8*size-1) == -1 {
			var in []byte
			for i := size - 1; i >= 0; i-- {
				in = append(in, byte(n>>(8*i)))
			}
			return tlv(tag, string(in))
		}
	}
}

// nameBytes tells the bytes of a name of an entry, as chapter 6 says its text.
func nameBytes(d api.Dn) string {
	var parts []string
	for _, r := range d {
		s := r.Type + "="
		for i := range len(r.Value) {
			c := r.Value[i]
			switch {
			case c < 32 || c > 126:
				s += fmt.Sprintf(`\%02x`, c)
			case strings.IndexByte(`,+"\<>;=`, c) >= 0, i == 0 && c == '#', c == ' ' && (i == 0 || i == len(r.Value)-1):
				s += `\` + string(rune(c))
			default:
				s += string(rune(c))
			}
		}
		parts = append(parts, s)
	}
	return tlv(0x04, strings.Join(parts, ","))
}

// filterBytes tells the bytes of a filter, as chapter 8 says its value.
func filterBytes(f api.Filter) string {
	name := tlv(0x04, small(f.Name))
	switch f.Kind {
	case 4:
		return tlv(0xa3, name, tlv(0x04, f.Value))
	case 5:
		return tlv(0xa4, name, tlv(0x30, tlv(0x80, f.Value)))
	case 6:
		return tlv(0x87, small(f.Name))
	}
	of := make([]string, len(f.Of))
	for i, one := range f.Of {
		of[i] = filterBytes(one)
	}
	return tlv(0xa0+byte(f.Kind)-1, of...)
}

// attrBytes tells the bytes of an attribute.
func attrBytes(name string, values []string) string {
	set := make([]string, len(values))
	for i, v := range values {
		set[i] = tlv(0x04, v)
	}
	return tlv(0x30, tlv(0x04, name), tlv(0x31, set...))
}

// entryBytes tells the bytes of an entry.
func entryBytes(e api.Entry) string {
	l := make([]string, len(e))
	for i, a := range e {
		l[i] = attrBytes(a.Name, a.Values)
	}
	return tlv(0x30, l...)
}

// modsBytes tells the bytes of changes.
func modsBytes(mods []api.Mod) string {
	l := make([]string, len(mods))
	for i, m := range mods {
		l[i] = tlv(0x30, number(0x0a, int64(m.Kind)-1), attrBytes(small(m.Name), m.Values))
	}
	return tlv(0x30, l...)
}

// namedBytes tells the bytes of what a message's Kind names.
func namedBytes(m api.Ldap) string {
	guard := ""
	if m.HasGuard {
		guard = filterBytes(m.Guard)
	}
	switch m.Kind {
	case 1:
		return tlv(0x61, nameBytes(m.Base), filterBytes(m.Filter), tlv(0x04, m.Cookie))
	case 2:
		if m.Gone {
			return tlv(0x62, tlv(0x04, m.Uuid), number(0x02, m.Csn), "\x01\x01\xff")
		}
		return tlv(0x62, tlv(0x04, m.Uuid), number(0x02, m.Csn), "\x01\x01\x00", nameBytes(m.Base), entryBytes(m.Entry))
	case 3:
		return tlv(0x63, number(0x0a, m.Code), tlv(0x04, m.Cookie))
	case 4:
		return tlv(0x64, nameBytes(m.Base), entryBytes(m.Entry))
	case 5:
		return tlv(0x65, nameBytes(m.Base), modsBytes(m.Mods), guard)
	case 6:
		return tlv(0x66, nameBytes(m.Base), guard)
	}
	return tlv(0x67, number(0x0a, m.Code), tlv(0x04, m.Uuid), number(0x02, m.Csn))
}

// plainBytes tells a message's bytes, as the chapter's 'Words' say them.
func plainBytes(m api.Ldap) string { return tlv(0x30, number(0x02, m.Id), namedBytes(m)) }

// someBase is a name of an entry.
func someBase() api.Dn { return name("cn", "Ann, B", "ou", "people") }

// someEntry is an entry.
func someEntry() api.Entry { return api.Entry{attr("cn", "Ann", "ann"), attr("mail", "a@b")} }

// someFilter is a filter of all Kinds.
func someFilter() api.Filter {
	return or(and(eq("cn", "Ann"), begin("cn", "A*")), not(and(has("mail"), or(), has("sn"))), eq("x", "\xff"))
}

// someMods are changes of all Kinds.
func someMods() []api.Mod {
	return []api.Mod{mod(1, "mail", "b", "a", "b"), mod(2, "sn"), mod(2, "cn", "x"), mod(3, "sn"), mod(3, "cn", "y", "x")}
}

// goodNames are names of entries that may be, of one part at least.
func goodNames() []api.Dn {
	parts := slices.Repeat([]string{"ou", "x"}, 16)
	longest := slices.Repeat([]string{strings.Repeat("t", 64), strings.Repeat("\xff", 200)}, 16)
	l := []api.Dn{name("cn", "a"), someBase(), name("cn", " # "), name("cn", "#,+\"\\<>;="), name("a-1", "\x00\n\x7f\xff"), name("cn", "Zürich", "cn", "cn=a"), name(parts...), name(longest...)}
	for c := range 256 {
		l = append(l, name("cn", string([]byte{byte(c)})), name("cn", "x"+string([]byte{byte(c)})+"y", "ou", "Z"))
	}
	return l
}

// goodFilters are filters that may be, and that a message can hold.
func goodFilters() []api.Filter {
	l := []api.Filter{
		and(), or(), {Kind: 1, Of: []api.Filter{}}, someFilter(), eq("cn", "x"), begin("cn", "x"), has("cn"), eq("csn", "7"), not(and()), and(or(), or()),
		eq("CN", "X"), begin("cN-1", "Y"), has("Mail"), and(not(has("SN")), eq("Cn", "X")),
		eq(strings.Repeat("q", 64), strings.Repeat("\xff", 2048)), has("z" + strings.Repeat("-", 63)), begin("a", allBytes()),
		deep(has("a"), 14), deep(eq("a", "x"), 13), deep(begin("a", "x"), 12), deep(and(), 14), deep(or(has("a"), eq("B", "x")), 12),
		or(slices.Repeat([]api.Filter{has("b")}, 199)...), and(slices.Repeat([]api.Filter{not(eq("b", "x"))}, 99)...),
	}
	for c := range 256 {
		l = append(l, eq("a", string([]byte{byte(c)})))
	}
	return l
}

// goodEntries are entries that may be.
func goodEntries() []api.Entry {
	wide := api.Entry{}
	for _, name := range numbered("a", 24) {
		wide = append(wide, attr(name, "v"))
	}
	return []api.Entry{
		nil, {}, {attr("cn", "x")}, someEntry(), wide, {attr("cn", numbered("v", 16)...)}, {attr(strings.Repeat("q", 64), strings.Repeat("\xff", 2048))},
		{attr("a", "\x00"), attr("a-1", "\x01", "=", "\xff"), attr("ab", "A", "a", "ä")}, {attr("b", allBytes())},
	}
}

// goodMods are changes that may be, at most as many as a message has.
func goodMods() [][]api.Mod {
	l := [][]api.Mod{
		nil, {}, someMods(), {mod(1, "cn", "x")}, {mod(2, "cn")}, {{Kind: 3, Name: "cn", Values: []string{}}},
		// What they would do does not matter: there is no such Value, it is twice, they take it away again.
		{mod(1, "cn", "x", "x")}, {mod(2, "cn", "x", "y", "x")}, {mod(1, "cn", "a"), mod(1, "cn", "a"), mod(2, "cn", "a"), mod(2, "cn")},
		{mod(1, "CN", "X")}, {mod(2, "Mail")}, {mod(3, "cN-1", "b", "a", "B")},
		{mod(1, "cn", slices.Repeat([]string{"x"}, 16)...)}, {mod(2, "cn", numbered("v", 16)...)}, {mod(3, strings.Repeat("Q", 64), strings.Repeat("\xff", 2048))},
		slices.Repeat([]api.Mod{mod(1, "cn", "x")}, 32), slices.Repeat([]api.Mod{mod(2, "cn")}, 31),
		{mod(1, "cn", numbered("v", 16)...), mod(1, "cn", numbered("w", 16)...)},
	}
	many := []api.Mod{}
	for _, name := range numbered("a", 32) {
		many = append(many, mod(1, name, "v"))
	}
	return append(l, many)
}

// someMessages are messages that may be, few and small.
func someMessages() []api.Ldap {
	base := name("cn", "a")
	return []api.Ldap{
		search(nil, and(), ""), search(someBase(), someFilter(), "c1"), search(base, has("mail"), ""), search(nil, begin("cn", "a"), "c"),
		item("u1", 1, base), item("u", 0, someBase(), someEntry()...), gone("u1", 7), gone("u", 0),
		done(0, ""), done(0, "c1"), done(4096, ""), done(53, "c"),
		add(base), add(someBase(), someEntry()...),
		modify(base), modify(someBase(), someMods()...), guarded(modify(base, mod(1, "cn", "x")), eq("csn", "7")), guarded(modify(base), and()),
		drop(base), drop(someBase()), guarded(drop(base), eq("csn", "7")), guarded(drop(someBase()), someFilter()),
		result(0, "u1", 1), result(0, "", 0), result(0, "u", 0), result(0, "", 200), result(68, "", 0), result(128, "", 0),
	}
}

// goodMessages are messages that may be.
func goodMessages() []api.Ldap {
	l := someMessages()
	for _, d := range append(goodNames(), nil, api.Dn{}) {
		l = append(l, search(d, and(), "c"))
	}
	for _, d := range goodNames() {
		l = append(l, item("u", 1, d), add(d), modify(d), drop(d))
	}
	for _, f := range goodFilters() {
		l = append(l, search(nil, f, ""), guarded(modify(someBase()), f), guarded(drop(someBase()), f))
	}
	for _, e := range goodEntries() {
		l = append(l, item("u", 1, someBase(), e...), add(someBase(), e...), api.Ldap{Id: 1, Kind: 4, Base: someBase(), Entry: e})
	}
	for _, mods := range goodMods() {
		l = append(l, modify(someBase(), mods...), guarded(modify(someBase(), mods...), eq("csn", "1")))
	}
	for _, n := range []int64{0, 1, 2, 127, 128, 255, 256, 32767, 32768, 65535, 65536, 1<<23 - 1, 1 << 23, 1<<31 - 2, 1<<31 - 1} {
		l = append(l, item("u", n, someBase()), gone("u", n), done(n, ""), result(0, "u", n), result(n, "", 0))
		if n > 0 {
			for _, m := range someMessages() {
				m.Id = n
				l = append(l, m)
			}
		}
	}
	for _, s := range []string{" ", "\x00", "\xff", "Zürich", allBytes()[:64], allBytes()[192:], strings.Repeat("\xff", 64), strings.Repeat("u", 63)} {
		l = append(l, search(nil, and(), s), item(s, 1, someBase()), gone(s, 1), done(0, s), done(1, s), result(0, s, 1), result(0, s, 0))
	}
	// What is empty is as what is nil.
	for _, m := range someMessages() {
		if m.Base == nil {
			m.Base = api.Dn{}
		}
		if m.Entry == nil {
			m.Entry = api.Entry{}
		}
		if m.Mods == nil {
			m.Mods = []api.Mod{}
		}
		if m.Kind != 1 {
			m.Filter.Of = []api.Filter{}
		}
		if !m.HasGuard {
			m.Guard.Of = []api.Filter{}
		}
		l = append(l, m)
	}
	return l
}

// refusedNames are names of entries that may not be.
func refusedNames() []api.Dn {
	return []api.Dn{
		name("", "x"), name("CN", "x"), name("1", "x"), name("c n", "x"), name("-", "x"), name("ä", "x"), name(strings.Repeat("t", 65), "x"),
		name("cn", ""), name("cn", strings.Repeat("x", 201)), name(slices.Repeat([]string{"ou", "x"}, 17)...), {{}}, name("cn", "a", "", ""), name("cn", "a", "Ou", "x"),
	}
}

// refusedFilters are filters that may not be.
func refusedFilters() []api.Filter {
	return []api.Filter{
		{}, {Kind: -1}, {Kind: 7}, {Kind: 1 << 32}, {Name: "cn"}, {Value: "x"}, {Kind: 1, Name: "cn"}, {Kind: 2, Value: "x"}, not(), not(has("a"), has("b")), {Of: []api.Filter{has("a")}},
		eq("", "x"), eq("1", "x"), eq("c n", "x"), eq("cn", ""), eq("cn", strings.Repeat("x", 2049)), begin("cn", ""), {Kind: 6, Name: "cn", Value: "x"}, has(""), has(strings.Repeat("a", 65)), has("ä"),
		and(api.Filter{}), or(has("a"), not()), deep(has("a"), 17), deep(has("a"), 1000), and(slices.Repeat([]api.Filter{has("a")}, 200)...),
	}
}

// refusedEntries are entries that may not be.
func refusedEntries() []api.Entry {
	wide := api.Entry{}
	for _, name := range numbered("a", 25) {
		wide = append(wide, attr(name, "v"))
	}
	return []api.Entry{
		wide, {{}}, {attr("cn")}, {{Name: "cn", Values: []string{}}}, {attr("", "x")}, {attr("CN", "x")}, {attr("1", "x")}, {attr("c n", "x")}, {attr(strings.Repeat("a", 65), "x")},
		{attr("cn", "")}, {attr("cn", strings.Repeat("x", 2049))}, {attr("cn", "b", "a")}, {attr("cn", "a", "a")}, {attr("cn", numbered("v", 17)...)},
		{attr("cn", "x"), attr("cn", "y")}, {attr("sn", "x"), attr("cn", "x")}, {attr("cn", "x"), attr("Mail", "x")}, {attr("cn", "x"), attr("mail", "x", "")},
	}
}

// refusedMods are changes that may not be, and more than may be.
func refusedMods() [][]api.Mod {
	l := [][]api.Mod{
		slices.Repeat([]api.Mod{mod(1, "cn", "x")}, 33), slices.Repeat([]api.Mod{mod(2, "cn")}, 33), slices.Repeat([]api.Mod{mod(2, "cn")}, 100000),
		{{}}, {mod(0, "cn", "x")}, {mod(-1, "cn", "x")}, {mod(4, "cn", "x")}, {mod(1<<32+1, "cn", "x")}, {mod(math.MaxInt, "cn")}, {mod(math.MinInt, "cn")}, {mod(1, "cn")}, {{Kind: 1, Name: "cn", Values: []string{}}},
	}
	for kind := api.ModAdd; kind <= api.ModReplace; kind++ {
		for _, name := range []string{"", "1", "-", "c n", "ä", "cn\n", strings.Repeat("a", 65), "\u212a"} {
			l = append(l, []api.Mod{mod(kind, name, "x")})
		}
		bad := []api.Mod{mod(kind, "cn", ""), mod(kind, "cn", "x", ""), mod(kind, "cn", strings.Repeat("x", 2049)), mod(kind, "cn", numbered("v", 17)...), mod(kind, "cn", slices.Repeat([]string{"x"}, 17)...)}
		for _, m := range bad {
			l = append(l, []api.Mod{m}, []api.Mod{mod(1, "cn", "x"), mod(1, "cn", "x"), m}, []api.Mod{m, mod(2, "sn")})
		}
	}
	return l
}

// refusedNumbers are numbers that may not be.
func refusedNumbers() []int64 {
	return []int64{-1, -128, -1 << 31, 1 << 31, 1<<31 + 1, 1<<32 - 1, 1 << 32, 1<<32 + 1, math.MaxInt64, math.MinInt64}
}

// refusedMarks are texts that may be no Cookie and no Uuid.
func refusedMarks() []string {
	return []string{strings.Repeat("x", 65), strings.Repeat("\x00", 65), strings.Repeat("ä", 33), strings.Repeat("x", 1<<17)}
}

// refusedMessages are messages that may not be, but for those that have what their Kind does not name.
func refusedMessages() []api.Ldap {
	var l []api.Ldap
	for _, m := range someMessages() {
		for _, n := range append(refusedNumbers(), 0) {
			m.Id = n
			l = append(l, m)
		}
		m.Id = 1
		for _, kind := range []api.LdapKind{0, -1, -2, -7, 8, 9, 31, 255, 256, 257, 263, 1 << 32, 1<<32 + 1, math.MaxInt, math.MinInt} {
			m.Kind = kind
			l = append(l, m)
		}
	}
	for _, d := range refusedNames() {
		l = append(l, search(d, and(), ""), item("u", 1, d), add(d), modify(d), drop(d), guarded(drop(d), and()))
	}
	for _, d := range []api.Dn{nil, {}} {
		l = append(l, item("u", 1, d), item("u", 1, d, attr("cn", "x")), add(d), add(d, attr("cn", "x")), modify(d), modify(d, someMods()...), drop(d), guarded(drop(d), and()))
	}
	for _, f := range refusedFilters() {
		l = append(l, search(nil, f, ""), search(someBase(), f, "c"), guarded(modify(someBase(), someMods()...), f), guarded(modify(someBase()), f), guarded(drop(someBase()), f))
	}
	for _, e := range refusedEntries() {
		l = append(l, item("u", 1, someBase(), e...), add(someBase(), e...))
	}
	for _, mods := range refusedMods() {
		l = append(l, modify(someBase(), mods...), guarded(modify(someBase(), mods...), and()))
	}
	for _, n := range refusedNumbers() {
		l = append(l, item("u", n, someBase()), gone("u", n), done(n, ""), result(0, "u", n), result(n, "", 0))
	}
	for _, s := range refusedMarks() {
		l = append(l, search(nil, and(), s), item(s, 1, someBase()), gone(s, 1), done(0, s), result(0, s, 1))
	}
	for _, code := range []int64{1, 2, 53, 4096, 1<<31 - 1} {
		l = append(l, result(code, "u", 0), result(code, "", 1), result(code, "u", 1))
	}
	return append(l, api.Ldap{}, api.Ldap{Id: 1}, item("", 1, someBase()), item("", 0, someBase(), someEntry()...), gone("", 1), gone("", 0))
}

// isRefused fails where a message is not refused with that error.
func isRefused(t *testing.T, m api.Ldap, want api.Errno) {
	t.Helper()
	no := ldap.Check(m)
	b, alsoNo := ldap.Encode(m)
	if no != want || alsoNo != want || b != nil {
		t.Errorf("Check and Encode of %s: %v, %v, %d bytes, want %v", short(plain(m)), no, alsoNo, len(b), want)
	}
}

// isEncoded fails where a message is refused, or has other bytes.
func isEncoded(t *testing.T, m api.Ldap, want string) {
	t.Helper()
	no := ldap.Check(m)
	b, alsoNo := ldap.Encode(m)
	if no != api.OK || alsoNo != api.OK || string(b) != want {
		t.Errorf("Check and Encode of %s: %v, %v, %s, want %s", short(plain(m)), no, alsoNo, short(hex.EncodeToString(b)), short(hex.EncodeToString([]byte(want))))
	}
}

// isDecoded fails where bytes are not that message's.
func isDecoded(t *testing.T, b string, want api.Ldap) {
	t.Helper()
	m, no := ldap.Decode([]byte(b))
	if no != api.OK || plain(m) != plain(want) {
		t.Errorf("Decode of %s: %v, %s, want %s", short(hex.EncodeToString([]byte(b))), no, short(plain(m)), short(plain(want)))
	}
}

// isUndecoded fails where bytes are not refused with that error.
func isUndecoded(t *testing.T, b string, want api.Errno) {
	t.Helper()
	m, no := ldap.Decode([]byte(b))
	if no != want || plain(m) != plain(api.Ldap{}) {
		t.Errorf("Decode of %s: %v, %s, want %v", short(hex.EncodeToString([]byte(b))), no, short(plain(m)), want)
	}
}

func TestMessagesThatMayBe(t *testing.T) { // P9.1
	for _, m := range goodMessages() {
		isEncoded(t, m, plainBytes(m))
	}
}

func TestThereAndBack(t *testing.T) { // P9.2
	for _, m := range goodMessages() {
		b, _ := ldap.Encode(m)
		isDecoded(t, string(b), withNames(m, small))
		again, _ := ldap.Decode(b)
		is(t, "Same of "+short(plain(m)), ldap.Same(again, m), true)
		isEncoded(t, again, string(b))
	}
}

func TestMessagesThatMayNotBe(t *testing.T) { // P9.1
	for _, m := range refusedMessages() {
		isRefused(t, m, api.ErrArg)
	}
}

// named are the parts of a message that the Kind of each sample names.
func named() []struct {
	m     api.Ldap
	parts string
} {
	return []struct {
		m     api.Ldap
		parts string
	}{
		{search(someBase(), someFilter(), "c1"), "Base Filter Cookie"},
		{search(nil, and(), ""), "Base Filter Cookie"},
		{item("u1", 1, someBase(), someEntry()...), "Uuid Csn Base Entry"},
		{item("u1", 0, someBase()), "Uuid Csn Base Entry"},
		{gone("u1", 1), "Uuid Csn"},
		{done(0, "c1"), "Code Cookie"},
		{done(4096, ""), "Code Cookie"},
		{add(someBase(), someEntry()...), "Base Entry"},
		{add(someBase()), "Base Entry"},
		{modify(someBase(), someMods()...), "Base Mods Guarded"},
		{modify(someBase()), "Base Mods Guarded"},
		{guarded(modify(someBase(), someMods()...), and()), "Base Mods Guarded Guard"},
		{drop(someBase()), "Base Guarded"},
		{guarded(drop(someBase()), someFilter()), "Base Guarded Guard"},
		{result(0, "u1", 1), "Uuid Csn"},
		{result(0, "", 0), "Uuid Csn Code"},
		{result(53, "", 0), "Code"},
	}
}

// settings are parts of a message, as they may be for themselves.
func settings() map[string][]func(*api.Ldap) {
	put := func(l ...func(*api.Ldap)) []func(*api.Ldap) { return l }
	return map[string][]func(*api.Ldap){
		"Base":    put(func(m *api.Ldap) { m.Base = name("ou", "x") }, func(m *api.Ldap) { m.Base = someBase()[1:] }),
		"Filter":  put(func(m *api.Ldap) { m.Filter = and() }, func(m *api.Ldap) { m.Filter = eq("a", "b") }),
		"Cookie":  put(func(m *api.Ldap) { m.Cookie = "c" }, func(m *api.Ldap) { m.Cookie = "\x00" }),
		"Uuid":    put(func(m *api.Ldap) { m.Uuid = "u" }, func(m *api.Ldap) { m.Uuid = "\x00" }),
		"Csn":     put(func(m *api.Ldap) { m.Csn = 1 }, func(m *api.Ldap) { m.Csn = api.MaxNumber }),
		"Entry":   put(func(m *api.Ldap) { m.Entry = api.Entry{attr("a", "b")} }),
		"Gone":    put(func(m *api.Ldap) { m.Gone = !m.Gone }),
		"Code":    put(func(m *api.Ldap) { m.Code = 2 }, func(m *api.Ldap) { m.Code = api.MaxNumber }),
		"Mods":    put(func(m *api.Ldap) { m.Mods = []api.Mod{mod(2, "a")} }),
		"Has":     put(func(m *api.Ldap) { m.HasGuard, m.Guard = true, api.Filter{} }),
		"Guard":   put(func(m *api.Ldap) { m.Guard = and() }, func(m *api.Ldap) { m.Guard = has("b") }, func(m *api.Ldap) { m.Guard.Name = "b" }),
		"Guarded": put(func(m *api.Ldap) { m.HasGuard, m.Guard = true, has("b") }),
	}
}

func TestWhatAKindDoesNotName(t *testing.T) { // P9.1
	for _, one := range named() {
		isEncoded(t, one.m, plainBytes(one.m))
		for part, l := range settings() {
			for i, set := range l {
				m := one.m
				set(&m)
				// What is no Guard for itself is none of a message that has one either.
				isNamed := slices.Contains(strings.Fields(one.parts), part) && !(part == "Guard" && i == 2)
				if isNamed {
					isEncoded(t, m, plainBytes(m))
				} else {
					isRefused(t, m, api.ErrArg)
				}
			}
		}
		for _, part := range []string{"Base", "Entry", "Mods", "Filter", "Guard"} { // also what may not be for itself
			if slices.Contains(strings.Fields(one.parts), part) {
				continue
			}
			for _, m := range refusedParts(one.m, part) {
				isRefused(t, m, api.ErrArg)
			}
		}
	}
}

// refusedParts tells a message with that part as it may not be.
func refusedParts(m api.Ldap, part string) []api.Ldap {
	var l []api.Ldap
	with := func(set func()) {
		set()
		l = append(l, m)
	}
	switch part {
	case "Base":
		for _, d := range refusedNames() {
			with(func() { m.Base = d })
		}
	case "Entry":
		for _, e := range refusedEntries() {
			with(func() { m.Entry = e })
		}
	case "Mods":
		for _, mods := range refusedMods() {
			with(func() { m.Mods = mods })
		}
	case "Filter":
		for _, f := range refusedFilters()[1:] {
			with(func() { m.Filter = f })
		}
	case "Guard":
		for _, f := range refusedFilters()[1:] {
			with(func() { m.Guard = f })
		}
	}
	return l
}

func TestDepths(t *testing.T) { // P9.1
	base := name("cn", "a")
	for _, one := range []struct {
		leaf api.Filter
		most int // what stands in a message has depth 3 there
	}{{has("a"), 14}, {and(), 14}, {or(), 14}, {eq("a", "x"), 13}, {begin("a", "x"), 12}, {and(begin("a", "x"), has("a")), 11}} {
		for depth := 1; depth <= 20; depth++ {
			f := deep(one.leaf, depth)
			for _, m := range []api.Ldap{search(nil, f, ""), guarded(modify(base), f), guarded(drop(base), f)} {
				if depth <= one.most {
					isEncoded(t, m, plainBytes(m))
					isDecoded(t, plainBytes(m), m)
					continue
				}
				want := api.ErrLong
				if filter.Check(f) != api.OK {
					want = api.ErrArg
				}
				isRefused(t, m, want)
				isUndecoded(t, plainBytes(m), api.ErrDeep)
			}
		}
	}
}

// sized tells messages that have so many bytes.
func sized(t *testing.T, size int) []api.Ldap {
	t.Helper()
	var values []string
	for c := 'a'; c < 'a'+16; c++ {
		values = append(values, string(c)+strings.Repeat("x", 2047))
	}
	entry := api.Entry{attr("a", values...), attr("b", values[:15]...)}
	mods := []api.Mod{mod(1, "A", values...), mod(3, "b", values[:15]...)}
	of := slices.Repeat([]api.Filter{eq("a", values[0])}, 31)
	var l []api.Ldap
	for _, with := range []func(tail string) api.Ldap{
		func(tail string) api.Ldap { return search(nil, and(append(of, eq("b", tail))...), "c") },
		func(tail string) api.Ldap { return item("u", 1, someBase(), append(entry, attr("c", tail))...) },
		func(tail string) api.Ldap { return add(someBase(), append(entry, attr("c", tail))...) },
		func(tail string) api.Ldap { return modify(someBase(), append(mods, mod(1, "c", tail))...) },
		func(tail string) api.Ldap { return guarded(modify(someBase(), mods...), eq("b", tail)) },
		func(tail string) api.Ldap { return guarded(drop(someBase()), or(append(of, begin("b", tail))...)) },
	} {
		tail, m := 1, api.Ldap{}
		for range 5 { // what is around grows with it
			m = with(strings.Repeat("x", tail))
			tail += size - len(plainBytes(m))
		}
		is(t, "the size of "+short(plain(m)), len(plainBytes(m)), size)
		l = append(l, m)
	}
	return l
}

func TestSizes(t *testing.T) { // P9.1, P9.2
	for _, size := range []int{api.MaxText - 1, api.MaxText} {
		for _, m := range sized(t, size) {
			isEncoded(t, m, plainBytes(m))
			isDecoded(t, plainBytes(m), withNames(m, small))
		}
	}
	for _, size := range []int{api.MaxText + 1, api.MaxText + 2, api.MaxText + 50} {
		for _, m := range sized(t, size) {
			isRefused(t, m, api.ErrLong)
			isUndecoded(t, plainBytes(m), api.ErrLong)
		}
	}
	all := api.Entry{}
	for _, name := range numbered("a", 24) {
		values := numbered(strings.Repeat("x", 2042), 16)
		all = append(all, attr(name, values...))
	}
	isRefused(t, add(someBase(), all...), api.ErrLong)
	isRefused(t, item("u", 1, someBase(), all...), api.ErrLong)
	isRefused(t, modify(someBase(), slices.Repeat([]api.Mod{mod(1, "a", all[0].Values...)}, 32)...), api.ErrLong)
	isRefused(t, search(nil, or(slices.Repeat([]api.Filter{eq("a", all[0].Values[0])}, 199)...), ""), api.ErrLong)
}

func TestWhichErrorIsFirst(t *testing.T) { // P9.1
	long := sized(t, api.MaxText+1)
	long = append(long, search(nil, deep(has("a"), 15), ""), guarded(drop(someBase()), deep(begin("a", "x"), 16)))
	for _, m := range long {
		isRefused(t, m, api.ErrLong)
		isRefused(t, guarded(m, api.Filter{}), api.ErrArg)
		m.Id = 0
		isRefused(t, m, api.ErrArg)
	}
	// Too long, and no message's; too long, and too deep; too deep, and no message's.
	isUndecoded(t, strings.Repeat("x", api.MaxText+1), api.ErrLong)
	isUndecoded(t, strings.Repeat("x", api.MaxText), api.ErrBer)
	isUndecoded(t, tlv(0x30, strings.Repeat("\x30\x00", api.MaxText)), api.ErrLong)
	nested := ""
	for range 17 {
		nested = tlv(0x30, nested)
	}
	isUndecoded(t, nested, api.ErrDeep)
	isUndecoded(t, nested[2:], api.ErrLdap)
}

func TestBytes(t *testing.T) { // P9.1, P9.2
	last := result(68, "", 0)
	last.Id = api.MaxNumber
	for want, m := range map[string]api.Ldap{
		"30 0b 020101 6606 0404636e3d61":                                                                        drop(name("cn", "a")),
		"30 0c 020101 6107 0400 a000 040163":                                                                    search(nil, and(), "c"),
		"30 14 020101 610f 0404636e3d61 870363736e 04026331":                                                    search(name("cn", "a"), has("CSN"), "c1"),
		"30 17 020101 6212 04027531 020107 010100 0404636e3d61 3000":                                            item("u1", 7, name("cn", "a")),
		"30 25 020101 6220 04027531 020107 010100 0404636e3d61 300e 300c 0402636e 3106 040178 040179":           item("u1", 7, name("cn", "a"), attr("cn", "x", "y")),
		"30 10 020101 620b 04027531 020200c8 0101ff":                                                            gone("u1", 200),
		"30 0c 020101 6307 0a0102 04026337":                                                                     done(2, "c7"),
		"30 0b 020101 6306 0a021000 0400":                                                                       done(4096, ""),
		"30 1d 020101 6418 0404636e3d61 3010 300e 04046d61696c 3106 040161 040162":                              add(name("cn", "a"), attr("mail", "a", "b")),
		"30 2a 020101 6525 0404636e3d61 3013 3011 0a0102 300c 0402636e 3106 040162 040161 a308040363736e040137": guarded(modify(name("cn", "a"), mod(3, "CN", "b", "a")), eq("CSN", "7")),
		"30 19 020101 6514 0404636e3d61 300c 300a 0a0101 3005 040161 3100":                                      modify(name("cn", "a"), mod(2, "A")),
		"30 17 020101 6612 0404636e3d61 a40a0402636e300480024142":                                               guarded(drop(name("cn", "a")), begin("cn", "AB")),
		"30 0f 020101 670a 0a0100 04027531 020101":                                                              result(0, "u1", 1),
		"30 10 02047fffffff 6708 0a0144 0400 020100":                                                            last,
	} {
		b, bad := hex.DecodeString(strings.ReplaceAll(want, " ", ""))
		is(t, "hex", bad, nil)
		isEncoded(t, m, string(b))
		isDecoded(t, string(b), withNames(m, small))
	}
}

// letter tells what a value could be where a message has it: a text, a number, an enumerated one, a truth, a list, a filter; or nothing.
func letter(v api.Ber) string {
	_, isNumber := ber.IntOf(v)
	_, isTruth := ber.TruthOf(v)
	switch {
	case v.Class == 2:
		return "f"
	case v.Class != 0:
		return "?"
	case v.Num == 4 && !v.Cons:
		return "t"
	case v.Num == 2 && isNumber:
		return "i"
	case v.Num == 10 && isNumber:
		return "n"
	case v.Num == 1 && isTruth:
		return "b"
	case v.Num == 16 && v.Cons:
		return "l"
	case v.Num == 17 && v.Cons:
		return "s"
	}
	return "?"
}

// letters tells what some values could be.
func letters(l []api.Ber) string {
	s := ""
	for _, v := range l {
		s += letter(v)
	}
	return s
}

// shapes are what stands in the value of each Kind: the letters, and the parts that these are.
func shapes() [][]string {
	return [][]string{
		nil,
		{"tft", "Base Filter Cookie"},
		{"tib", "Uuid Csn Gone", "tibtl", "Uuid Csn Gone Base Entry"},
		{"nt", "Code Cookie"},
		{"tl", "Base Entry"},
		{"tl", "Base Mods", "tlf", "Base Mods Guard"},
		{"t", "Base", "tf", "Base Guard"},
		{"nti", "Code Uuid Csn"},
	}
}

// plainMessage tells the message of a value part by part, and whether it is one's.
func plainMessage(v api.Ber) (api.Ldap, bool) {
	if letter(v) != "l" || len(v.Items) != 2 || letter(v.Items[0]) != "i" {
		return api.Ldap{}, false
	}
	id, _ := ber.IntOf(v.Items[0])
	in := v.Items[1]
	if in.Class != 1 || !in.Cons || int(in.Num) >= len(shapes()) {
		return api.Ldap{}, false
	}
	m := api.Ldap{Id: id, Kind: api.LdapKind(in.Num)}
	shape := shapes()[in.Num]
	at := slices.Index(shape, letters(in.Items))
	if at < 0 || at%2 == 1 {
		return api.Ldap{}, false
	}
	for i, part := range strings.Fields(shape[at+1]) {
		if !setPart(&m, part, in.Items[i]) {
			return api.Ldap{}, false
		}
	}
	isWhole := m.Kind != 2 || m.Gone == (len(in.Items) == 3)
	return m, isWhole && withinBounds(m)
}

// setPart sets a part of a message to what a value says, and tells whether that can stand there.
func setPart(m *api.Ldap, part string, v api.Ber) (is bool) {
	is = true
	no := api.OK
	switch part {
	case "Base":
		m.Base, no = dn.Parse(string(v.Bytes))
		is = no == api.OK && nameBytes(m.Base) == tlv(0x04, string(v.Bytes))
	case "Filter":
		m.Filter, is = plainFilterOf(v)
	case "Guard":
		m.HasGuard = true
		m.Guard, is = plainFilterOf(v)
	case "Cookie":
		m.Cookie = string(v.Bytes)
	case "Uuid":
		m.Uuid = string(v.Bytes)
	case "Csn":
		m.Csn, _ = ber.IntOf(v)
	case "Code":
		m.Code, _ = ber.IntOf(v)
	case "Gone":
		m.Gone, _ = ber.TruthOf(v)
	case "Entry":
		for _, one := range v.Items {
			a, alsoIs := plainAttr(one)
			m.Entry, is = append(m.Entry, a), is && alsoIs
		}
	case "Mods":
		for _, one := range v.Items {
			c, alsoIs := plainMod(one)
			m.Mods, is = append(m.Mods, c), is && alsoIs
		}
	}
	return is
}

// plainFilterOf tells the filter of a value with Names in small letters, and whether it is one's.
func plainFilterOf(v api.Ber) (api.Filter, bool) {
	f, no := filter.Of(v)
	if no != api.OK {
		return api.Filter{}, false
	}
	b, _ := ber.Encode(v)
	return f, filterBytes(f) == string(b)
}

// plainAttr tells the attribute of a value, and whether it is one's.
func plainAttr(v api.Ber) (api.Attr, bool) {
	if letter(v) != "l" || letters(v.Items) != "ts" || strings.Trim(letters(v.Items[1].Items), "t") != "" {
		return api.Attr{}, false
	}
	a := api.Attr{Name: string(v.Items[0].Bytes)}
	for _, one := range v.Items[1].Items {
		a.Values = append(a.Values, string(one.Bytes))
	}
	return a, a.Name == small(a.Name)
}

// plainMod tells the change of a value, and whether it is one's.
func plainMod(v api.Ber) (api.Mod, bool) {
	if letter(v) != "l" || letters(v.Items) != "nl" {
		return api.Mod{}, false
	}
	kind, _ := ber.IntOf(v.Items[0])
	a, is := plainAttr(v.Items[1])
	return api.Mod{Kind: api.ModKind(kind + 1), Name: a.Name, Values: a.Values}, is && kind >= 0 && kind <= 2
}

// isPlainName tells whether a text is a name in small letters.
func isPlainName(s string) bool {
	return len(s) >= 1 && len(s) <= 64 && s[0] >= 'a' && s[0] <= 'z' && strings.Trim(s, "abcdefghijklmnopqrstuvwxyz0123456789-") == ""
}

// areValues tells whether each of some texts has as many bytes as a Value may, and there are not too many.
func areValues(l []string) bool {
	return len(l) <= 16 && !slices.ContainsFunc(l, func(v string) bool { return v == "" || len(v) > 2048 })
}

// withinBounds tells whether the bounds hold of a message that names what its Kind does, as it may for itself.
func withinBounds(m api.Ldap) bool {
	is := m.Id >= 1 && m.Id <= 1<<31-1 && m.Csn >= 0 && m.Csn <= 1<<31-1 && m.Code >= 0 && m.Code <= 1<<31-1
	is = is && len(m.Cookie) <= 64 && len(m.Uuid) <= 64 && len(m.Mods) <= 32 && len(m.Entry) <= 24
	is = is && (m.Kind != 2 || m.Uuid != "") && (m.Kind != 7 || m.Code == 0 || m.Uuid == "" && m.Csn == 0)
	is = is && (len(m.Base) > 0 || m.Kind == 1 || m.Kind == 3 || m.Kind == 7 || m.Gone)
	for i, a := range m.Entry {
		is = is && isPlainName(a.Name) && areValues(a.Values) && len(a.Values) > 0 && (i == 0 || m.Entry[i-1].Name < a.Name)
		for j, v := range a.Values {
			is = is && (j == 0 || a.Values[j-1] < v)
		}
	}
	for _, c := range m.Mods {
		is = is && isPlainName(c.Name) && areValues(c.Values) && (c.Kind != 1 || len(c.Values) > 0)
	}
	return is
}

// isRead fails where Decode does not answer of bytes as these forms do, and tells whether they are a message's.
func isRead(t *testing.T, b string) bool {
	t.Helper()
	v, no := ber.Decode([]byte(b))
	if no != api.OK {
		isUndecoded(t, b, no)
		return false
	}
	m, is := plainMessage(v)
	if !is {
		isUndecoded(t, b, api.ErrLdap)
		return false
	}
	isDecoded(t, b, m)
	isEncoded(t, m, b)
	return true
}

func TestFormsTakeEachMessage(t *testing.T) { // P9.1
	for _, m := range goodMessages() {
		is(t, "taken: "+short(plain(m)), isRead(t, plainBytes(m)), true)
	}
}

// text, list and choice make values.
func text(s string) api.Ber { return api.Ber{Num: 4, Bytes: []byte(s)} }

func list(l ...api.Ber) api.Ber { return api.Ber{Num: 16, Cons: true, Items: l} }

func choice(class, num uint8, l ...api.Ber) api.Ber {
	return api.Ber{Class: class, Num: num, Cons: true, Items: l}
}

// standIns are values that are put in the place of others, and beside them.
func standIns() []api.Ber {
	l := []api.Ber{
		{}, text(""), text("u"), text("cn=a"), text("CN=a"), text(`cn=\61`), text("cn=a,"), text("cn"), text("\x00"), text(strings.Repeat("x", 64)), text(strings.Repeat("x", 65)), text(strings.Repeat("x", 2048)), text(strings.Repeat("x", 2049)),
		list(), list(text("cn")), list(text("cn"), choice(0, 17)), list(text("cn"), choice(0, 17, text("x"))), list(text("CN"), choice(0, 17, text("x"))), list(list(text("cn"), choice(0, 17, text("x")))), list(list(ber.Enum(1), list(text("cn"), choice(0, 17)))),
		choice(0, 17), choice(0, 17, text("x")), choice(0, 17, text("y"), text("x")), choice(2, 0), choice(2, 1), choice(2, 2), {Class: 2, Num: 7, Bytes: []byte("cn")}, {Class: 2, Num: 7, Bytes: []byte("CN")}, choice(2, 3, text("cn"), text("x")),
		ber.Truth(true), ber.Truth(false), {Num: 1, Bytes: []byte{1}}, {Num: 1}, {Num: 2}, {Num: 10}, {Num: 2, Bytes: []byte{0, 1}}, {Num: 2, Bytes: make([]byte, 9)},
	}
	for _, n := range []int64{0, 1, 2, 3, 7, 127, 128, 1<<31 - 1, 1 << 31, 1 << 32, 1<<32 + 1, math.MaxInt64, math.MinInt64, -1, -128} {
		l = append(l, ber.Int(n), ber.Enum(n))
	}
	return l
}

// others tells values that are nearly a given one.
func others(v api.Ber) []api.Ber {
	var l []api.Ber
	with := func(set func(v *api.Ber)) {
		other := v
		other.Bytes, other.Items = slices.Clone(v.Bytes), slices.Clone(v.Items)
		set(&other)
		l = append(l, other)
	}
	for class := range uint8(4) {
		with(func(v *api.Ber) { v.Class = class })
	}
	for num := range uint8(31) {
		with(func(v *api.Ber) { v.Num = num })
	}
	with(func(v *api.Ber) { v.Cons, v.Bytes, v.Items = !v.Cons, nil, nil })
	if !v.Cons {
		with(func(v *api.Ber) { v.Bytes = nil })
		with(func(v *api.Ber) { v.Bytes = append(v.Bytes, 0) })
		with(func(v *api.Ber) { v.Bytes = append(v.Bytes, ' ') })
		with(func(v *api.Ber) { v.Bytes = append([]byte{0}, v.Bytes...) })
		with(func(v *api.Ber) { v.Bytes = []byte(great(string(v.Bytes))) })
		with(func(v *api.Ber) { v.Bytes = []byte(strings.ReplaceAll(string(v.Bytes), "=", "=\\")) })
		for i := range v.Bytes {
			with(func(v *api.Ber) { v.Bytes[i]++ })
			with(func(v *api.Ber) { v.Bytes = slices.Delete(v.Bytes, i, i+1) })
		}
		return l
	}
	for i := range v.Items {
		with(func(v *api.Ber) { v.Items = slices.Delete(v.Items, i, i+1) })
		with(func(v *api.Ber) { v.Items = slices.Insert(v.Items, i, v.Items[i]) })
		with(func(v *api.Ber) { v.Items[i], v.Items[0] = v.Items[0], v.Items[i] })
		with(func(v *api.Ber) { v.Items = v.Items[:i] })
		for _, one := range standIns() {
			with(func(v *api.Ber) { v.Items = slices.Insert(v.Items, i, one) })
		}
	}
	for _, one := range standIns() {
		with(func(v *api.Ber) { v.Items = append(v.Items, one) })
	}
	return append(l, standIns()...)
}

// changed goes over values that are a given one but for what stands at one place in it.
func changed(v api.Ber, see func(api.Ber)) {
	for _, other := range others(v) {
		see(other)
	}
	for i := range v.Items {
		changed(v.Items[i], func(other api.Ber) {
			whole := v
			whole.Items = slices.Clone(v.Items)
			whole.Items[i] = other
			see(whole)
		})
	}
}

func TestValuesWithChanges(t *testing.T) { // P9.1, P9.2
	answers := map[bool]int{}
	for _, m := range someMessages() {
		v, _ := ber.Decode([]byte(plainBytes(m)))
		changed(v, func(other api.Ber) {
			b, no := ber.Encode(other)
			if no == api.OK {
				answers[isRead(t, string(b))]++
			}
		})
	}
	is(t, "some were a message's, some not", answers[true] > 1000 && answers[false] > 10000, true)
}

func TestBytesWithChanges(t *testing.T) { // P9.1, P9.2
	for _, m := range someMessages() {
		b := plainBytes(m)
		for at := range len(b) {
			isRead(t, b[:at])
			isRead(t, b[at:])
			isRead(t, b[:at]+b[at+1:])
			isRead(t, b[:at]+"\x00"+b[at:])
			for bit := range 8 {
				isRead(t, b[:at]+string([]byte{b[at] ^ 1<<bit})+b[at+1:])
			}
			for _, c := range []byte{b[at] + 1, b[at] - 1, 0, 1, 2, 10, 0x7f, 0x80, 0x81, 0xff, '=', ',', '\\', ' ', 'A'} {
				isRead(t, b[:at]+string([]byte{c})+b[at+1:])
			}
		}
		for _, more := range []string{"\x00", "\x30\x00", "x", b} {
			isUndecoded(t, b+more, api.ErrBer)
		}
	}
	r := rand.New(rand.NewSource(1))
	all := someMessages()
	for range 30000 {
		b := []byte(plainBytes(all[r.Intn(len(all))]))
		for range 1 + r.Intn(3) {
			b[r.Intn(len(b))] ^= 1 << r.Intn(8)
		}
		isRead(t, string(b))
	}
}

func TestBytesOfNoMessage(t *testing.T) { // P9.1
	isUndecoded(t, "", api.ErrBer)
	l, _ := ldap.Decode(nil)
	is(t, "Decode of none", plain(l), plain(api.Ldap{}))
	for _, m := range refusedMessages() {
		if m.Kind < 1 || m.Kind > 7 || len(m.Mods) > 1000 {
			continue
		}
		b := plainBytes(m)
		if _, no := ber.Decode([]byte(b)); no == api.OK {
			// Where what may not be is not laid, or is read as something else, these are another message's.
			isRead(t, b)
		}
	}
	for _, m := range append(goodMessages(), search(nil, or(eq("CN", "x")), "")) {
		b := namedBytes(m)
		isUndecoded(t, b, api.ErrLdap)
		isUndecoded(t, tlv(0x30, b), api.ErrLdap)
		isUndecoded(t, tlv(0x30, b, b), api.ErrLdap)
		isUndecoded(t, tlv(0x30, number(0x02, 1), b, b), api.ErrLdap)
		isUndecoded(t, tlv(0x30, b, number(0x02, 1)), api.ErrLdap)
		isUndecoded(t, tlv(0x30, number(0x0a, 1), b), api.ErrLdap)
		isUndecoded(t, tlv(0x31, number(0x02, 1), b), api.ErrLdap)
		isUndecoded(t, tlv(0x70, number(0x02, 1), b), api.ErrLdap)
	}
}

func TestOtherFormsAreNoMessage(t *testing.T) { // P9.2: a message has just one row of bytes
	b := plainBytes(guarded(modify(name("cn", "a"), mod(1, "sn", "x")), eq("csn", "7")))
	isDecoded(t, b, guarded(modify(name("cn", "a"), mod(1, "sn", "x")), eq("csn", "7")))
	for was, then := range map[string]string{"cn=a": "CN=a", "cn=": "Cn=", "sn": "SN", "csn": "cSn"} {
		isUndecoded(t, strings.Replace(b, was, then, 1), api.ErrLdap)
	}
	b = plainBytes(search(name("cn", "Aa,"), has("mail"), "c"))
	isUndecoded(t, strings.Replace(b, "mail", "Mail", 1), api.ErrLdap)
	isUndecoded(t, strings.Replace(b, `Aa\,`, `\41a`, 1), api.ErrLdap)
	for _, s := range []string{`cn=A\2c`, `cn=\,\,`, `cn=\2c`, `cn=\2C`, `cn=\0A`, `cn=a\ b`, `cn=\61`, `cn=a\#`, "cn= a", "cn=a ", "cn=#", "cn=a,", ",cn=a", "cn", "cn=", "=a", "cn=a+b", "cn=ä", "cn=a\n", "cn=a;sn=b", "cn=a, ou=b"} {
		isRead(t, tlv(0x30, number(0x02, 1), tlv(0x66, tlv(0x04, s))))
		isRead(t, tlv(0x30, number(0x02, 1), tlv(0x61, tlv(0x04, s), "\xa0\x00\x04\x00")))
	}
	isUndecoded(t, tlv(0x30, number(0x02, 1), tlv(0x66, tlv(0x04, `cn=\2c`))), api.ErrLdap)
	isUndecoded(t, tlv(0x30, number(0x02, 1), tlv(0x66, tlv(0x04, `cn=\0A`))), api.ErrLdap)
	isUndecoded(t, tlv(0x30, number(0x02, 1), tlv(0x66, "\x04\x00")), api.ErrLdap)
	isUndecoded(t, "\x30\x0c\x02\x01\x01\x66\x07\x04\x81\x04cn=a", api.ErrBer)
	isUndecoded(t, "\x30\x0c\x02\x02\x00\x01\x66\x06\x04\x04cn=a", api.ErrLdap)
}

// randomOf tells one of some.
func randomOf[T any](r *rand.Rand, some ...T) T { return some[r.Intn(len(some))] }

// randomText tells a text of at least so many bytes.
func randomText(r *rand.Rand, least int) string {
	s := ""
	for range least + r.Intn(4) {
		s += randomOf(r, "a", "b", "A", "B", " ", ",", "=", "#", "\\", "*", "(", "\x00", "\n", "\x7f", "\xff", "ä")
	}
	return s
}

// randomName tells a name of an entry of at least so many parts.
func randomName(r *rand.Rand, least int) api.Dn {
	var d api.Dn
	for range least + r.Intn(3) {
		d = append(d, api.Rdn{Type: randomOf(r, "cn", "ou", "a-1"), Value: randomText(r, 1)})
	}
	return d
}

// randomFilter tells a filter of at most that depth.
func randomFilter(r *rand.Rand, depth int) api.Filter {
	f := api.Filter{Kind: api.FilterKind(1 + r.Intn(6))}
	if depth == 1 {
		f.Kind = api.FilterKind(4 + r.Intn(3))
	}
	switch f.Kind {
	case 1, 2:
		for range r.Intn(3) {
			f.Of = append(f.Of, randomFilter(r, depth-1))
		}
	case 3:
		f.Of = append(f.Of, randomFilter(r, depth-1))
	case 6:
		f.Name = randomOf(r, "a", "B", "cN-1")
	default:
		f.Name, f.Value = randomOf(r, "a", "B", "cN-1"), randomText(r, 1)
	}
	return f
}

// randomValues tells Values as they fall.
func randomValues(r *rand.Rand, least int) []string {
	var l []string
	for range least + r.Intn(4) {
		l = append(l, randomText(r, 1))
	}
	return l
}

// randomEntry tells an entry.
func randomEntry(r *rand.Rand) api.Entry {
	var e api.Entry
	for _, name := range []string{"a", "a-1", "cn", "mail"} {
		if r.Intn(2) == 0 {
			values := randomValues(r, 1)
			slices.Sort(values)
			e = append(e, attr(name, slices.Compact(values)...))
		}
	}
	return e
}

// randomMods tells changes.
func randomMods(r *rand.Rand) []api.Mod {
	var l []api.Mod
	for range r.Intn(4) {
		kind := api.ModKind(1 + r.Intn(3))
		values := randomValues(r, 1)
		if kind != 1 && r.Intn(2) == 0 {
			values = nil
		}
		l = append(l, mod(kind, randomOf(r, "cn", "CN", "mail", "a-1"), values...))
	}
	return l
}

// randomMessage tells a message.
func randomMessage(r *rand.Rand) api.Ldap {
	n := randomOf(r, 0, 1, 127, 128, 1<<15, 1<<31-1, r.Int63n(1<<31))
	m := []api.Ldap{
		search(randomName(r, 0), randomFilter(r, 4), randomText(r, 0)),
		item(randomText(r, 1), n, randomName(r, 1), randomEntry(r)...),
		gone(randomText(r, 1), n),
		done(n, randomText(r, 0)),
		add(randomName(r, 1), randomEntry(r)...),
		modify(randomName(r, 1), randomMods(r)...),
		guarded(modify(randomName(r, 1), randomMods(r)...), randomFilter(r, 4)),
		drop(randomName(r, 1)),
		guarded(drop(randomName(r, 1)), randomFilter(r, 4)),
		result(0, randomText(r, 0), n),
		result(n|1, "", 0),
	}[r.Intn(11)]
	m.Id = 1 + r.Int63n(1<<31-1)
	return m
}

func TestManyMessages(t *testing.T) { // P9.1, P9.2
	r := rand.New(rand.NewSource(2))
	for range 10000 {
		m := randomMessage(r)
		isEncoded(t, m, plainBytes(m))
		isDecoded(t, plainBytes(m), withNames(m, small))
	}
}

// severalMessages are messages that may be and that may not, to be held against one another.
func severalMessages() []api.Ldap {
	all := []api.Ldap{{}, {Id: 1}, {Id: -1}, {Kind: 1}, {Kind: 8}, {Kind: -1}, {HasGuard: true}, {Guard: has("a")}, {Filter: has("a")}, {Filter: has("A")}, {Filter: has("b")}, {Gone: true}, {Entry: api.Entry{{}}}, {Mods: []api.Mod{{}}}, {Base: api.Dn{{}}}}
	for _, d := range []api.Dn{name("cn", "A"), name("CN", "a"), name("cn", "a"), name("cn", "a", "cn", "a"), name("sn", "a"), name("cn", "ä")} {
		all = append(all, drop(d), add(d))
	}
	for _, e := range []api.Entry{{attr("CN", "a")}, {attr("cn", "a")}, {attr("cn", "A")}, {attr("cn", "a", "b")}, {attr("cn", "b", "a")}, {attr("cn", "a"), attr("sn", "a")}, {attr("cn")}, {{Name: "cn", Values: []string{}}}} {
		all = append(all, add(someBase(), e...), item("u", 1, someBase(), e...))
	}
	for _, l := range [][]api.Mod{{mod(1, "CN", "a")}, {mod(1, "cn", "a")}, {mod(1, "cn", "A")}, {mod(3, "cn", "a")}, {mod(1, "cn", "a", "b")}, {mod(1, "cn", "b", "a")}, {mod(1, "sn", "a")}, {mod(1, "cn", "a"), mod(1, "sn", "a")}, {mod(1, "sn", "a"), mod(1, "cn", "a")}, {mod(1, "Ä", "a")}, {mod(1, "ä", "a")}, {mod(2, "cn")}, {{Kind: 2, Name: "cN", Values: []string{}}}} {
		all = append(all, modify(someBase(), l...))
	}
	for _, f := range []api.Filter{has("CN"), has("cn"), eq("cn", "A"), eq("cn", "a"), eq("CN", "a"), not(has("cn")), not(has("cN"))} {
		all = append(all, search(nil, f, ""), guarded(drop(someBase()), f))
	}
	for _, m := range someMessages() {
		all = append(all, m, withNames(m, great))
	}
	for _, set := range settings() {
		m := guarded(search(someBase(), someFilter(), "x"), and())
		set[0](&m)
		all = append(all, m)
	}
	return all
}

func TestSame(t *testing.T) { // P9.1
	all := severalMessages()
	for _, a := range all {
		for _, b := range all {
			want := plain(withNames(a, small)) == plain(withNames(b, small))
			if ldap.Same(a, b) != want {
				t.Errorf("Same of %s and %s: %v", short(plain(a)), short(plain(b)), !want)
			}
		}
	}
	// Each part counts, whatever the Kind, and nil is as empty.
	for kind := range api.LdapKind(9) {
		whole := api.Ldap{Id: 3, Kind: kind, Base: someBase(), Filter: someFilter(), Cookie: "other", Uuid: "other", Csn: 5, Entry: someEntry(), Code: 9, Mods: someMods(), HasGuard: true, Guard: someFilter()}
		is(t, "Same of itself", ldap.Same(whole, whole), true)
		for part, l := range settings() {
			for i, set := range l {
				if part == "Has" {
					continue
				}
				other := whole
				set(&other)
				is(t, fmt.Sprintf("Same but for %s, %d", part, i), ldap.Same(whole, other), false)
				is(t, fmt.Sprintf("Same but for %s, %d, turned", part, i), ldap.Same(other, whole), false)
			}
		}
		for _, set := range []func(*api.Ldap){func(m *api.Ldap) { m.Id = 4 }, func(m *api.Ldap) { m.Kind++ }, func(m *api.Ldap) { m.HasGuard = false }, func(m *api.Ldap) { m.Id += 1 << 32 }, func(m *api.Ldap) { m.Csn += 1 << 32 }, func(m *api.Ldap) { m.Code += 1 << 32 }} {
			other := whole
			set(&other)
			is(t, "Same of unlike ones", ldap.Same(whole, other), false)
		}
		none := api.Ldap{Kind: kind}
		empty := api.Ldap{Kind: kind, Base: api.Dn{}, Filter: api.Filter{Of: []api.Filter{}}, Entry: api.Entry{}, Mods: []api.Mod{}, Guard: api.Filter{Of: []api.Filter{}}}
		is(t, "Same of none", ldap.Same(none, empty) && ldap.Same(empty, none), true)
	}
}

func TestHugeArguments(t *testing.T) { // P9.1
	f, g := has("a"), has("b")
	for range 1 << 18 {
		f, g = not(f), not(g)
	}
	wide := and(slices.Repeat([]api.Filter{has("a")}, 1<<18)...)
	long := strings.Repeat("A", 1<<22)
	texts := slices.Repeat([]string{"x"}, 1<<18)
	huge := []api.Ldap{
		search(nil, f, ""), search(nil, wide, ""), search(nil, eq("a", long), ""), search(nil, has(long), ""), search(nil, and(), long), search(name("cn", long), and(), ""), search(name(long, "x"), and(), ""),
		search(slices.Repeat(someBase(), 1<<18), and(), ""), item(long, 1, someBase()), gone(long, 1), done(0, long), result(0, long, 1),
		add(someBase(), attr(long, "x")), add(someBase(), attr("cn", long)), add(someBase(), attr("cn", texts...)), add(someBase(), slices.Repeat([]api.Attr{attr("cn", "x")}, 1<<18)...),
		modify(someBase(), mod(1, long, "x")), modify(someBase(), mod(1, "cn", long)), modify(someBase(), mod(1, "cn", texts...)), modify(someBase(), slices.Repeat([]api.Mod{mod(1, "cn", "x")}, 1<<18)...),
		guarded(modify(someBase()), f), guarded(drop(someBase()), wide), {Id: 1, Kind: 7, Filter: f}, {Id: 1, Kind: 3, Guard: wide}, {Id: 1, Kind: 6, Base: someBase(), Guard: g},
	}
	for _, m := range huge {
		_, no := ldap.Encode(m)
		is(t, "Encode", no, api.ErrArg)
		is(t, "Check", ldap.Check(m), api.ErrArg)
		is(t, "Same", ldap.Same(m, m), true)
	}
	is(t, "Same of unlike deep ones", ldap.Same(search(nil, f, ""), search(nil, g, "")), false)
	for _, b := range []string{long, tlv(0x30, number(0x02, 1), long), strings.Repeat("\x30\x80", 1<<18), strings.Repeat("\x30", 1<<18)} {
		isUndecoded(t, b, api.ErrLong)
	}
	// As many values as there may be bytes for.
	many := strings.Repeat("\xa0\x00", 32000)
	for num := range byte(9) {
		isUndecoded(t, tlv(0x30, number(0x02, 1), tlv(0x60+num, many)), api.ErrLdap)
		isUndecoded(t, tlv(0x30, number(0x02, 1), tlv(0x60+num, "\x04\x04cn=a", tlv(0x30, many))), api.ErrLdap)
		isUndecoded(t, tlv(0x30, number(0x02, 1), tlv(0x60+num, "\x04\x00", tlv(0xa0, many), "\x04\x00")), api.ErrLdap)
	}
}

// filterWithRoom tells the same filter with room behind all that is not nought.
func filterWithRoom(f api.Filter) api.Filter {
	f.Of = append(slices.Clone(f.Of), eq("room", "behind"), eq("room", "behind"))[:len(f.Of)]
	for i := range f.Of {
		f.Of[i] = filterWithRoom(f.Of[i])
	}
	return f
}

// valuesWithRoom tells the same Values with room behind that is not nought.
func valuesWithRoom(l []string) []string {
	return append(slices.Clone(l), "room", "behind")[:len(l)]
}

// withRoom tells the same message with room behind all that is not nought.
func withRoom(m api.Ldap) api.Ldap {
	m.Base = append(slices.Clone(m.Base), api.Rdn{Type: "room", Value: "behind"})[:len(m.Base)]
	m.Entry = append(slices.Clone(m.Entry), attr("room", "behind"))[:len(m.Entry)]
	m.Mods = append(slices.Clone(m.Mods), mod(1, "room", "behind"))[:len(m.Mods)]
	for i := range m.Entry {
		m.Entry[i].Values = valuesWithRoom(m.Entry[i].Values)
	}
	for i := range m.Mods {
		m.Mods[i].Values = valuesWithRoom(m.Mods[i].Values)
	}
	m.Filter, m.Guard = filterWithRoom(m.Filter), filterWithRoom(m.Guard)
	return m
}

// wholeFilter tells a filter and the room behind all.
func wholeFilter(f api.Filter) string {
	s := fmt.Sprintf("%d %q %q [", f.Kind, f.Name, f.Value)
	for i, one := range f.Of[:cap(f.Of)] {
		if i < len(f.Of) {
			s += wholeFilter(one) + ";"
		} else {
			s += plainFilter(one) + "; "
		}
	}
	return s + "]"
}

// whole tells a message and the room behind all.
func whole(m api.Ldap) string {
	s := plain(m) + wholeFilter(m.Filter) + wholeFilter(m.Guard)
	s += fmt.Sprintf("%q %q %s", m.Base[:cap(m.Base)], m.Entry[:cap(m.Entry)], plainMods(m.Mods[:cap(m.Mods)]))
	for _, a := range m.Entry {
		s += fmt.Sprintf("%q", a.Values[:cap(a.Values)])
	}
	for _, c := range m.Mods {
		s += fmt.Sprintf("%q", c.Values[:cap(c.Values)])
	}
	return s
}

func TestNothingHandedInIsChanged(t *testing.T) { // P9.1
	all := append(severalMessages(), guarded(modify(someBase(), mod(3, "CN", "b", "a")), and(eq("CN", "x"), has("MAIL"))))
	for i, m := range all {
		m, other := withRoom(m), withRoom(all[(i+1)%len(all)])
		was, otherWas := whole(m), whole(other)
		ldap.Check(m)
		ldap.Encode(m)
		ldap.Same(m, other)
		ldap.Same(other, m)
		ldap.Same(m, m)
		is(t, "a message that was handed in", whole(m), was)
		is(t, "another one", whole(other), otherWas)
	}
	for _, m := range goodMessages() {
		b := append([]byte(plainBytes(m)), "room"...)
		was := string(b)
		ldap.Decode(b[:len(b)-4])
		ldap.Decode(b[:len(b)-5])
		ldap.Decode(b)
		is(t, "bytes that were handed in", string(b), was)
	}
}

// scribbleFilter writes over a filter, and over the room behind all.
func scribbleFilter(f api.Filter) {
	for i := range f.Of {
		scribbleFilter(f.Of[i])
	}
	for i := range f.Of[:cap(f.Of)] {
		f.Of[:cap(f.Of)][i] = eq("scribbled", "over")
	}
}

// scribbleTexts writes over texts, and over the room behind them.
func scribbleTexts(l []string) {
	for i := range l[:cap(l)] {
		l[:cap(l)][i] = "scribbled"
	}
}

// scribbles are what writes over each list of a message, one by one, and over the room behind it.
func scribbles(m api.Ldap) []func() {
	l := []func(){
		func() {
			for i := range m.Base[:cap(m.Base)] {
				m.Base[:cap(m.Base)][i] = api.Rdn{Type: "scribbled", Value: "over"}
			}
		},
		func() { scribbleFilter(m.Filter) },
		func() { scribbleFilter(m.Guard) },
	}
	for _, a := range m.Entry {
		l = append(l, func() { scribbleTexts(a.Values) })
	}
	for _, c := range m.Mods {
		l = append(l, func() { scribbleTexts(c.Values) })
	}
	return append(l, func() {
		for i := range m.Entry[:cap(m.Entry)] {
			m.Entry[:cap(m.Entry)][i] = attr("scribbled", "over")
		}
	}, func() {
		for i := range m.Mods[:cap(m.Mods)] {
			m.Mods[:cap(m.Mods)][i] = mod(1, "scribbled", "over")
		}
	})
}

// parts tells each list of a message apart, in the order of scribbles.
func parts(m api.Ldap) []string {
	l := []string{fmt.Sprintf("%q", m.Base), plainFilter(m.Filter), plainFilter(m.Guard)}
	for _, a := range m.Entry {
		l = append(l, fmt.Sprintf("%q", a.Values))
	}
	for _, c := range m.Mods {
		l = append(l, fmt.Sprintf("%q", c.Values))
	}
	return l
}

func TestAnswersAreNewMemory(t *testing.T) { // P9.1
	for _, m := range goodMessages() {
		b, _ := ldap.Encode(m)
		want := string(b)
		one, _ := ldap.Decode(b)
		other, _ := ldap.Decode(b)
		was := plain(one)
		lists := parts(one)
		for i, scribble := range scribbles(one) {
			scribble()
			for j, list := range parts(one)[min(i+1, len(lists)):] { // those that are not written over yet
				is(t, "another part", list, lists[i+1+j])
			}
		}
		is(t, "another answer", plain(other), was)
		is(t, "bytes that were handed in", string(b), want)
		again, _ := ldap.Encode(m)
		for i := range b[:cap(b)] {
			b[:cap(b)][i] = 'S'
		}
		is(t, "a message of bytes that are written over", plain(other), was)
		is(t, "other bytes", string(again), want)
		isEncoded(t, m, want)
	}
}

func TestAnswersKeepNothing(t *testing.T) { // P9.1
	for _, m := range severalMessages() {
		m := withRoom(m)
		b, no := ldap.Encode(m)
		was := string(b)
		for _, scribble := range scribbles(m) {
			scribble()
		}
		is(t, "bytes of a message that is written over", string(b), was)
		is(t, "there are some", len(b) > 0, no == api.OK)
	}
}

func TestExamples(t *testing.T) { // P9.1, P9.2
	m := api.Ldap{Id: 1, Kind: api.LdapDelete, Base: api.Dn{{Type: "cn", Value: "a"}}}
	b, no := ldap.Encode(m)
	is(t, "Encode", no, api.OK)
	is(t, "Encode", hex.EncodeToString(b), "300b02010166060404636e3d61")
	isDecoded(t, string(b), m)
	isUndecoded(t, string(b[:len(b)-1]), api.ErrBer)
	m.Id = 0
	is(t, "Check", ldap.Check(m), api.ErrArg)
}
