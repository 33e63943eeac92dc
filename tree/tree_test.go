package tree_test

import (
	"bytes"
	"fmt"
	"math"
	"math/rand"
	"slices"
	"sort"
	"strconv"
	"strings"
	"testing"

	"cardcase/api"
	"cardcase/ber"
	"cardcase/entry"
	"cardcase/filter"
	"cardcase/ldap"
	"cardcase/tree"
)

// is fails where an answer is another than the one that is asked for.
func is[T comparable](t *testing.T, what string, got, want T) {
	t.Helper()
	if got != want {
		t.Errorf("%s: %s, want %s", what, short(got), short(want))
	}
}

// short tells something, or how it begins.
func short(x any) string {
	s := fmt.Sprintf("%v", x)
	if len(s) > 800 {
		return fmt.Sprintf("%s .. (%d bytes)", s[:800], len(s))
	}
	return s
}

// plainItem tells all that is in an item, nil and empty being the same.
func plainItem(i api.Item) string {
	return fmt.Sprintf("%q csn %d name %q entry %q", i.Uuid, i.Csn, i.Dn, i.Entry)
}

// plainItems tells all that is in items.
func plainItems(l []api.Item) string {
	var s strings.Builder
	for _, i := range l {
		s.WriteString(plainItem(i) + "\n")
	}
	return s.String()
}

// plainMessage tells all that is in an answer, nil and empty being the same.
func plainMessage(m api.Ldap) string {
	return fmt.Sprintf("id %d kind %d base %q filter %v cookie %q uuid %q csn %d entry %q gone %v code %d mods %v has %v guard %v",
		m.Id, m.Kind, m.Base, m.Filter, m.Cookie, m.Uuid, m.Csn, m.Entry, m.Gone, m.Code, m.Mods, m.HasGuard, m.Guard)
}

// plainMessages tells all that is in answers.
func plainMessages(l []api.Ldap) string {
	var s strings.Builder
	for _, m := range l {
		s.WriteString(plainMessage(m) + "\n")
	}
	return s.String()
}

// small tells a text whose letters A to Z are a to z.
func small(s string) string {
	for c := 'A'; c <= 'Z'; c++ {
		s = strings.ReplaceAll(s, string(c), string(c+'a'-'A'))
	}
	return s
}

// name makes a name of an entry, of Types and Values.
func name(parts ...string) api.Dn {
	var d api.Dn
	for i := 0; i < len(parts); i += 2 {
		d = append(d, api.Rdn{Type: parts[i], Value: parts[i+1]})
	}
	return d
}

// cn makes a name of one part.
func cn(value string) api.Dn { return name("cn", value) }

// attr makes an attribute.
func attr(name string, values ...string) api.Attr { return api.Attr{Name: name, Values: values} }

// mod makes a change.
func mod(kind api.ModKind, name string, values ...string) api.Mod {
	return api.Mod{Kind: kind, Name: name, Values: values}
}

// all is the filter that means each entry.
var all = api.Filter{Kind: api.FilterAnd}

// eq makes a filter, and so do those that follow.
func eq(name, value string) api.Filter {
	return api.Filter{Kind: api.FilterEq, Name: name, Value: value}
}

func has(name string) api.Filter { return api.Filter{Kind: api.FilterHas, Name: name} }

func not(f api.Filter) api.Filter { return api.Filter{Kind: api.FilterNot, Of: []api.Filter{f}} }

// search makes a message, and so do those that follow.
func search(base api.Dn, f api.Filter, cookie string) api.Ldap {
	return api.Ldap{Id: 7, Kind: api.LdapSearch, Base: base, Filter: f, Cookie: cookie}
}

func add(d api.Dn, e ...api.Attr) api.Ldap {
	return api.Ldap{Id: 7, Kind: api.LdapAdd, Base: d, Entry: e}
}

func modify(d api.Dn, l ...api.Mod) api.Ldap {
	return api.Ldap{Id: 7, Kind: api.LdapModify, Base: d, Mods: l}
}

func deletion(d api.Dn) api.Ldap { return api.Ldap{Id: 7, Kind: api.LdapDelete, Base: d} }

// guarded tells a message with a Guard.
func guarded(m api.Ldap, f api.Filter) api.Ldap {
	m.HasGuard, m.Guard = true, f
	return m
}

// result makes an answer, and so do those that follow.
func result(uuid string, csn int64) api.Ldap {
	return api.Ldap{Id: 7, Kind: api.LdapResult, Uuid: uuid, Csn: csn}
}

func refusal(code int64) api.Ldap { return api.Ldap{Id: 7, Kind: api.LdapResult, Code: code} }

func item(uuid string, csn int64, d api.Dn, e ...api.Attr) api.Ldap {
	return api.Ldap{Id: 7, Kind: api.LdapItem, Uuid: uuid, Csn: csn, Base: d, Entry: e}
}

func gone(uuid string, csn int64) api.Ldap {
	return api.Ldap{Id: 7, Kind: api.LdapItem, Uuid: uuid, Csn: csn, Gone: true}
}

func done(cookie string) api.Ldap { return api.Ldap{Id: 7, Kind: api.LdapDone, Cookie: cookie} }

func anew() api.Ldap { return api.Ldap{Id: 7, Kind: api.LdapDone, Code: 4096} }

// asks holds what a message is answered.
func asks(t *testing.T, d *tree.Tree, m api.Ldap, want ...api.Ldap) {
	t.Helper()
	got, no := d.Ask(m)
	is(t, fmt.Sprintf("the error of %s", short(plainMessage(m))), no, api.OK)
	is(t, short(plainMessage(m)), plainMessages(got), plainMessages(want))
}

// does asks something that changes a directory, or does what people do, and fails where it is refused.
func does(t *testing.T, d *tree.Tree, m api.Ldap) {
	t.Helper()
	l, no := d.Ask(m)
	if no != api.OK || len(l) != 1 || l[0].Code != 0 {
		t.Fatalf("%s: %v %v", plainMessage(m), no, l)
	}
}

func puts(t *testing.T, d *tree.Tree, at api.Dn, e ...api.Attr) {
	t.Helper()
	if no := d.Put(at, e); no != api.OK {
		t.Fatalf("Put at %v: %v", at, no)
	}
}

func drops(t *testing.T, d *tree.Tree, at api.Dn) {
	t.Helper()
	if no := d.Drop(at); no != api.OK {
		t.Fatalf("Drop at %v: %v", at, no)
	}
}

func forgets(t *testing.T, d *tree.Tree) {
	t.Helper()
	if no := d.Forget(); no != api.OK {
		t.Fatalf("Forget: %v", no)
	}
}

// stays holds that a call changes nothing of a directory.
func stays(t *testing.T, what string, d *tree.Tree, call func()) {
	t.Helper()
	ahead, items := d.Copy(), plainItems(d.Items())
	call()
	if !tree.Same(ahead, d) || plainItems(d.Items()) != items {
		t.Errorf("%s: the directory is another one then", what)
	}
}

// full makes a directory of MaxItems items, of the names cn=0 and so on.
func full(t *testing.T) *tree.Tree {
	t.Helper()
	d := tree.New()
	for i := range api.MaxItems {
		puts(t, d, cn(strconv.Itoa(i)))
	}
	return d
}

// big is an entry that may be, but is too long for any message.
func big() api.Entry {
	var e api.Entry
	for i := range api.MaxAttrs {
		e = append(e, attr("a"+string(rune('a'+i))))
		for j := range api.MaxValues {
			e[i].Values = append(e[i].Values, strings.Repeat(string(rune('a'+j)), api.MaxValue))
		}
	}
	return e
}

// atBound is a name and an entry of which a LdapAdd has just MaxText bytes.
func atBound(t *testing.T) (api.Dn, api.Entry) {
	t.Helper()
	at, e := cn("big"), big()[:2]
	last := &e[1].Values[api.MaxValues-1]
	*last = "p"
	b := laid(t, add(at, e...))
	// How many bytes it has takes more room then, so some are too many.
	*last = strings.Repeat("p", 1+api.MaxText-len(b))
	for ldap.Check(add(at, e...)) == api.ErrLong {
		*last = (*last)[1:]
	}
	is(t, "bytes at the bound", len(laid(t, add(at, e...))), api.MaxText)
	return at, e
}

func TestNew(t *testing.T) { // P10.1
	d := tree.New()
	if d == nil {
		t.Fatal("New: none")
	}
	is(t, "items", len(d.Items()), 0)
	is(t, "count", d.Count(), 0)
	asks(t, d, search(nil, all, ""), done("c0"))
	asks(t, d, search(nil, all, "c0"), done("c0"))
	asks(t, d, search(nil, all, "c1"), anew())
	if tree.New() == tree.New() {
		t.Error("New tells one twice")
	}
}

func TestAdd(t *testing.T) { // P10.1
	d := tree.New()
	asks(t, d, add(cn("a"), attr("mail", "x")), result("u1", 1))
	asks(t, d, add(cn("A"), attr("mail", "y")), refusal(68))
	asks(t, d, add(cn("a")), refusal(68))
	asks(t, d, add(name("cn", "a", "ou", "people")), result("u2", 2))
	asks(t, d, add(name("cn", "A", "ou", "PEOPLE")), refusal(68))
	asks(t, d, add(name("uid", "a")), result("u3", 3))
	is(t, "items", plainItems(d.Items()), plainItems([]api.Item{
		{Uuid: "u1", Dn: cn("a"), Entry: api.Entry{attr("mail", "x")}, Csn: 1},
		{Uuid: "u2", Dn: name("cn", "a", "ou", "people"), Csn: 2},
		{Uuid: "u3", Dn: name("uid", "a"), Csn: 3},
	}))
	is(t, "count", d.Count(), 3)
}

func TestAnUuidIsNeverTwice(t *testing.T) { // P10.1
	d := tree.New()
	does(t, d, add(cn("a")))
	does(t, d, deletion(cn("a")))
	asks(t, d, add(cn("a")), result("u2", 3))
	drops(t, d, cn("a"))
	forgets(t, d)
	puts(t, d, cn("a"))
	asks(t, d, search(nil, all, ""), item("u3", 5, cn("a")), done("c5"))
	asks(t, d, add(cn("b")), result("u4", 6))
	// What is refused is no item, and a second entry is none either.
	asks(t, d, add(cn("b")), refusal(68))
	puts(t, d, cn("b"), attr("x", "y"))
	asks(t, d, add(cn("c")), result("u5", 8))
}

func TestModify(t *testing.T) { // P10.1
	d := tree.New()
	does(t, d, add(cn("a"), attr("mail", "x")))
	does(t, d, add(cn("b")))
	asks(t, d, modify(cn("A"), mod(api.ModAdd, "MAIL", "y"), mod(api.ModReplace, "cn", "a")), result("u1", 3))
	one, there := d.Find(cn("a"))
	is(t, "there", there, true)
	is(t, "the item", plainItem(one), plainItem(api.Item{Uuid: "u1", Dn: cn("a"), Entry: api.Entry{attr("cn", "a"), attr("mail", "x", "y")}, Csn: 3}))
	// Changes that leave an entry as it is are changes of a directory, and so are none at all.
	asks(t, d, modify(cn("a"), mod(api.ModReplace, "cn", "a")), result("u1", 4))
	asks(t, d, modify(cn("a")), result("u1", 5))
	asks(t, d, modify(cn("a"), mod(api.ModDelete, "cn"), mod(api.ModDelete, "mail", "y", "x")), result("u1", 6))
	one, _ = d.Find(cn("a"))
	is(t, "the entry", len(one.Entry), 0)
	is(t, "count", d.Count(), 6)
}

// manyMods are changes behind which an entry has too many attributes, or an attribute too many Values.
func manyMods(kind api.ModKind) [][]api.Mod {
	var attrs []api.Mod
	for i := range api.MaxAttrs + 1 {
		attrs = append(attrs, mod(kind, "a"+strconv.Itoa(i), "x"))
	}
	values := []api.Mod{mod(api.ModAdd, "a"), mod(api.ModAdd, "a", "last")}
	for i := range api.MaxValues {
		values[0].Values = append(values[0].Values, strconv.Itoa(i))
	}
	return [][]api.Mod{attrs, values}
}

func TestModifyIsRefused(t *testing.T) { // P10.1
	d := tree.New()
	does(t, d, add(cn("a"), attr("mail", "x")))
	stays(t, "changes that are refused", d, func() {
		asks(t, d, modify(cn("b"), mod(api.ModAdd, "mail", "x")), refusal(32))
		asks(t, d, modify(name("cn", "a", "ou", "people")), refusal(32))
		asks(t, d, modify(cn("a"), mod(api.ModAdd, "mail", "x")), refusal(20))
		asks(t, d, modify(cn("a"), mod(api.ModAdd, "cn", "x", "x")), refusal(20))
		asks(t, d, modify(cn("a"), mod(api.ModDelete, "mail", "y")), refusal(16))
		asks(t, d, modify(cn("a"), mod(api.ModDelete, "cn")), refusal(16))
		for _, kind := range []api.ModKind{api.ModAdd, api.ModReplace} {
			for _, l := range manyMods(kind) {
				asks(t, d, modify(cn("a"), l...), refusal(53))
			}
		}
		// One that goes ahead of one that is refused isn't done either.
		asks(t, d, modify(cn("a"), mod(api.ModReplace, "cn", "z"), mod(api.ModDelete, "sn")), refusal(16))
		asks(t, d, modify(cn("a"), mod(api.ModDelete, "mail"), mod(api.ModDelete, "mail"), mod(api.ModAdd, "cn", "x", "x")), refusal(16))
	})
}

func TestDelete(t *testing.T) { // P10.1
	d := tree.New()
	for _, one := range []string{"a", "b", "c"} {
		does(t, d, add(cn(one)))
	}
	asks(t, d, deletion(cn("B")), result("u2", 4))
	asks(t, d, deletion(cn("b")), refusal(32))
	asks(t, d, modify(cn("b")), refusal(32))
	asks(t, d, search(nil, all, ""), item("u1", 1, cn("a")), item("u3", 3, cn("c")), done("c4"))
	asks(t, d, search(nil, all, "c3"), gone("u2", 4), done("c4"))
	asks(t, d, deletion(name("cn", "a", "cn", "a")), refusal(32))
	// What stands below a name stays where that goes.
	does(t, d, add(name("uid", "x", "cn", "c")))
	does(t, d, deletion(cn("c")))
	asks(t, d, search(cn("c"), all, ""), item("u4", 5, name("uid", "x", "cn", "c")), done("c6"))
}

func TestGuards(t *testing.T) { // P10.1
	d := tree.New()
	does(t, d, add(cn("a"), attr("csn", "5", "99"), attr("mail", "X")))
	does(t, d, add(cn("b"), attr("mail", "X")))
	stays(t, "guards that do not mean it", d, func() {
		for _, f := range []api.Filter{eq("csn", "2"), eq("csn", "5"), eq("csn", "01"), not(has("csn")), has("tel"), eq("mail", "y"), not(eq("csn", "1")), {Kind: api.FilterOr}} {
			asks(t, d, guarded(modify(cn("a"), mod(api.ModAdd, "cn", "z")), f), refusal(122))
			asks(t, d, guarded(deletion(cn("a")), f), refusal(122))
			// That there is none counts ahead of that, and that ahead of what its changes are.
			asks(t, d, guarded(modify(cn("c")), f), refusal(32))
			asks(t, d, guarded(deletion(cn("c")), f), refusal(32))
			asks(t, d, guarded(modify(cn("a"), mod(api.ModDelete, "sn")), f), refusal(122))
		}
	})
	asks(t, d, guarded(modify(cn("a"), mod(api.ModDelete, "sn")), eq("csn", "1")), refusal(16))
	csn := int64(2)
	for _, f := range []api.Filter{eq("CSN", "1"), eq("mail", "x"), not(eq("csn", "5")), has("csn"), {Kind: api.FilterBegin, Name: "csn", Value: "6"}, all} {
		csn++
		asks(t, d, guarded(modify(cn("A"), mod(api.ModReplace, "cn", "z")), f), result("u1", csn))
	}
	asks(t, d, guarded(modify(cn("a")), eq("csn", "7")), refusal(122))
	asks(t, d, guarded(modify(cn("b")), eq("csn", "2")), result("u2", 9))
	asks(t, d, guarded(deletion(cn("b")), eq("csn", "2")), refusal(122))
	asks(t, d, guarded(deletion(cn("b")), eq("csn", "9")), result("u2", 10))
	asks(t, d, guarded(deletion(cn("a")), eq("csn", "8")), result("u1", 11))
}

func TestASearchLooksAtTheEntryAlone(t *testing.T) { // P10.1
	d := tree.New()
	does(t, d, add(cn("a"), attr("csn", "5")))
	asks(t, d, search(nil, eq("csn", "1"), ""), done("c1"))
	asks(t, d, search(nil, eq("csn", "5"), ""), item("u1", 1, cn("a"), attr("csn", "5")), done("c1"))
	does(t, d, add(cn("b")))
	asks(t, d, search(nil, not(has("csn")), ""), item("u2", 2, cn("b")), done("c2"))
}

func TestSearchBelowABase(t *testing.T) { // P10.1
	d := tree.New()
	names := []api.Dn{
		name("ou", "people"),
		name("uid", "a", "ou", "People"),
		name("cn", "x", "uid", "A", "ou", "people"),
		name("uid", "a", "ou", "groups"),
		name("uid", "a"),
		name("ou", "people", "o", "b"),
	}
	told := func(some ...int) []api.Ldap {
		var l []api.Ldap
		for _, i := range some {
			l = append(l, item("u"+strconv.Itoa(i), int64(i), names[i-1]))
		}
		return append(l, done("c6"))
	}
	for _, one := range names {
		does(t, d, add(one))
	}
	asks(t, d, search(nil, all, ""), told(1, 2, 3, 4, 5, 6)...)
	asks(t, d, search(name("ou", "people"), all, ""), told(1, 2, 3)...)
	asks(t, d, search(name("ou", "PEOPLE"), all, ""), told(1, 2, 3)...)
	asks(t, d, search(name("uid", "a", "ou", "people"), all, ""), told(2, 3)...)
	asks(t, d, search(name("cn", "X", "uid", "a", "ou", "people"), all, ""), told(3)...)
	asks(t, d, search(name("uid", "A"), all, ""), told(5)...)
	asks(t, d, search(name("o", "b"), all, ""), told(6)...)
	asks(t, d, search(name("o", "c"), all, ""), told()...)
	asks(t, d, search(name("cn", "people"), all, ""), told()...)
	asks(t, d, search(name("cn", "y", "cn", "x", "uid", "a", "ou", "people"), all, ""), told()...)
}

func TestSearchOfAFilter(t *testing.T) { // P10.1
	d := tree.New()
	does(t, d, add(cn("a"), attr("mail", "Ann")))
	does(t, d, add(cn("b"), attr("mail", "bob"), attr("tel", "1")))
	does(t, d, add(cn("c")))
	a, b, c := item("u1", 1, cn("a"), attr("mail", "Ann")), item("u2", 2, cn("b"), attr("mail", "bob"), attr("tel", "1")), item("u3", 3, cn("c"))
	asks(t, d, search(nil, eq("MAIL", "ann"), ""), a, done("c3"))
	asks(t, d, search(nil, not(has("tel")), ""), a, c, done("c3"))
	asks(t, d, search(nil, api.Filter{Kind: api.FilterOr}, ""), done("c3"))
	asks(t, d, search(cn("b"), has("mail"), ""), b, done("c3"))
	asks(t, d, search(cn("c"), has("mail"), ""), done("c3"))
	// Of a known cookie the others are told, too, as gone.
	asks(t, d, search(nil, has("tel"), "c0"), gone("u1", 1), b, gone("u3", 3), done("c3"))
	asks(t, d, search(nil, has("tel"), "c2"), gone("u3", 3), done("c3"))
	asks(t, d, search(cn("b"), all, "c1"), b, gone("u3", 3), done("c3"))
	asks(t, d, search(cn("z"), all, "c0"), gone("u1", 1), gone("u2", 2), gone("u3", 3), done("c3"))
	asks(t, d, search(nil, all, "c3"), done("c3"))
	// One that is not meant any more is gone with the Csn of the change that made it so.
	does(t, d, modify(cn("b"), mod(api.ModDelete, "tel")))
	asks(t, d, search(nil, has("tel"), "c3"), gone("u2", 4), done("c4"))
	asks(t, d, search(nil, has("tel"), ""), done("c4"))
}

func TestKnownCookies(t *testing.T) { // P10.1
	d := tree.New()
	puts(t, d, cn("a"))
	puts(t, d, cn("b"))
	drops(t, d, cn("a"))
	a, b := gone("u1", 3), item("u2", 2, cn("b"))
	asks(t, d, search(nil, all, ""), b, done("c3"))
	asks(t, d, search(nil, all, "c0"), a, b, done("c3"))
	asks(t, d, search(nil, all, "c1"), a, b, done("c3"))
	asks(t, d, search(nil, all, "c2"), a, done("c3"))
	asks(t, d, search(nil, all, "c3"), done("c3"))
	for _, cookie := range []string{"c4", "c", "c00", "c01", "c03", "c+1", "c-0", "c-1", "C1", "1", "cc1", " c1", "c1 ", "c 1", "c1\x00", "\x00", "c1.0", "c0x1", "c1_0", "c9", "u1", "t1",
		"c9223372036854775807", "c9223372036854775808", "c-9223372036854775808", "c4294967297", "c18446744073709551617", "c" + strings.Repeat("0", 63), "c" + strings.Repeat("9", 63), "c\xd9\xa1"} {
		asks(t, d, search(nil, all, cookie), anew())
	}
	forgets(t, d)
	asks(t, d, search(nil, all, ""), b, done("c3"))
	asks(t, d, search(nil, all, "c3"), done("c3"))
	for _, cookie := range []string{"c0", "c1", "c2", "c4"} {
		asks(t, d, search(nil, all, cookie), anew())
	}
	drops(t, d, cn("b"))
	asks(t, d, search(nil, all, "c2"), anew())
	asks(t, d, search(nil, all, "c3"), gone("u2", 4), done("c4"))
	asks(t, d, search(nil, all, "c4"), done("c4"))
	forgets(t, d)
	forgets(t, d)
	asks(t, d, search(nil, all, "c3"), anew())
	asks(t, d, search(nil, all, "c4"), done("c4"))
	// To forget is no change.
	is(t, "count", d.Count(), 4)
}

func TestToForgetKeepsWhatIsThere(t *testing.T) { // P10.1
	d := tree.New()
	puts(t, d, cn("a"), attr("mail", "x"))
	puts(t, d, cn("b"))
	drops(t, d, cn("b"))
	items := plainItems(d.Items())
	forgets(t, d)
	is(t, "items", plainItems(d.Items()), items)
	puts(t, d, cn("b"))
	asks(t, d, search(nil, all, "c3"), item("u3", 4, cn("b")), done("c4"))
}

func TestByRisingUuids(t *testing.T) { // P10.1, P10.2
	d := tree.New()
	var want, texts []string
	for i := range 25 {
		puts(t, d, cn(strconv.Itoa(i)))
		texts = append(texts, "u"+strconv.Itoa(i+1))
	}
	// Those that go stand between those that stay, and what changes stays at its place.
	for _, i := range []int{0, 4, 9, 10, 24} {
		drops(t, d, cn(strconv.Itoa(i)))
	}
	puts(t, d, cn("17"), attr("mail", "x"))
	sort.Strings(texts)
	for _, uuid := range texts {
		switch uuid {
		case "u1", "u5", "u10", "u11", "u25":
			want = append(want, uuid+" gone")
		default:
			want = append(want, uuid)
		}
	}
	l, _ := d.Ask(search(nil, all, "c0"))
	var got []string
	for _, m := range l[:len(l)-1] {
		if m.Gone {
			got = append(got, m.Uuid+" gone")
		} else {
			got = append(got, m.Uuid)
		}
	}
	is(t, "a search of a cookie", strings.Join(got, " "), strings.Join(want, " "))
	staying := slices.DeleteFunc(want, func(s string) bool { return strings.HasSuffix(s, "gone") })
	l, _ = d.Ask(search(nil, all, ""))
	got = nil
	for _, m := range l[:len(l)-1] {
		got = append(got, m.Uuid)
	}
	is(t, "a search of none", strings.Join(got, " "), strings.Join(staying, " "))
	got = nil
	for _, i := range d.Items() {
		got = append(got, i.Uuid)
	}
	is(t, "items", strings.Join(got, " "), strings.Join(staying, " "))
}

func TestOtherMessages(t *testing.T) { // P10.1
	d := tree.New()
	puts(t, d, cn("a"))
	stays(t, "what asks nothing", d, func() {
		for _, m := range []api.Ldap{
			item("u1", 1, cn("a")), gone("u1", 1), done("c1"), done(""), anew(), result("u1", 1), refusal(32), result("", 0),
		} {
			asks(t, d, m, refusal(2))
		}
	})
}

func TestIds(t *testing.T) { // P10.1
	d := tree.New()
	for i := range 3 {
		puts(t, d, cn(strconv.Itoa(i)))
	}
	drops(t, d, cn("0"))
	for _, id := range []int64{1, 2, 200, api.MaxNumber} {
		for _, m := range []api.Ldap{
			search(nil, all, "c0"), search(nil, all, "c77"), add(cn("1")), add(cn("n" + strconv.FormatInt(id, 10))), modify(cn("1")), modify(cn("z")),
			deletion(cn("z")), deletion(cn("n" + strconv.FormatInt(id, 10))), done(""),
		} {
			m.Id = id
			l, no := d.Ask(m)
			if no != api.OK || len(l) == 0 {
				t.Errorf("%s: %v", plainMessage(m), no)
			}
			for _, one := range l {
				is(t, "the Id", one.Id, id)
				is(t, "the answer's Check", ldap.Check(one), api.OK)
			}
		}
	}
}

// mayNotBe are messages that may not be.
func mayNotBe() []api.Ldap {
	long := cn(strings.Repeat("a", 201))
	l := []api.Ldap{
		{}, {Id: 1}, {Id: 1, Kind: 8}, {Id: 1, Kind: -1}, {Id: 1, Kind: math.MaxInt}, {Kind: api.LdapDone}, {Id: -1, Kind: api.LdapDone}, {Id: api.MaxNumber + 1, Kind: api.LdapDone},
		add(nil), modify(nil), deletion(nil), add(cn("")), add(name("CN", "a")), add(long), modify(long), deletion(long), search(long, all, ""),
		add(cn("a"), attr("mail")), add(cn("a"), attr("MAIL", "x")), add(cn("a"), attr("mail", "b", "a")), add(cn("a"), attr("mail", "x"), attr("cn", "x")),
		search(nil, api.Filter{}, ""), search(nil, all, strings.Repeat("c", 65)), search(nil, eq("mail", ""), ""),
		modify(cn("a"), mod(4, "mail", "x")), modify(cn("a"), mod(api.ModAdd, "mail")), modify(cn("a"), mod(api.ModAdd, "9", "x")), modify(cn("a"), make([]api.Mod, 33)...),
		guarded(modify(cn("a")), api.Filter{}), guarded(deletion(cn("a")), api.Filter{}), guarded(search(nil, all, ""), all), guarded(add(cn("b")), all),
		add(cn("b"), big()...), item("", 1, cn("a")), item("u1", -1, cn("a")), result("u1", api.MaxNumber+1),
	}
	m := deletion(cn("a"))
	m.Guard = all
	l = append(l, m)
	m = deletion(cn("a"))
	m.Cookie = "c0"
	return append(l, m)
}

func TestMessagesThatMayNotBe(t *testing.T) { // P10.1
	d := tree.New()
	puts(t, d, cn("a"), attr("mail", "x"))
	stays(t, "messages that may not be", d, func() {
		for _, m := range mayNotBe() {
			if ldap.Check(m) == api.OK {
				t.Fatalf("it may be: %s", short(plainMessage(m)))
			}
			l, no := d.Ask(m)
			is(t, short(plainMessage(m)), no, api.ErrArg)
			is(t, "beside the error", l == nil, true)
		}
	})
}

func TestMessagesThatHaveNoBytes(t *testing.T) { // P10.1
	d := tree.New()
	at, e := atBound(t)
	asks(t, d, add(at, e...), result("u1", 1))
	e[1].Values[15] += "p"
	l, no := d.Ask(add(cn("bog"), e...))
	is(t, "one byte more", no, api.ErrArg)
	is(t, "beside the error", l == nil, true)
	// A filter may be deeper than a message can tell.
	f := has("ab")
	for ldap.Check(search(nil, not(f), "")) == api.OK {
		f = not(f)
	}
	asks(t, d, search(cn("none"), f, ""), done("c1"))
	is(t, "a filter that may be", filter.Check(not(f)), api.OK)
	for _, m := range []api.Ldap{search(nil, not(f), ""), guarded(deletion(at), not(not(f))), guarded(modify(at), not(not(f)))} {
		is(t, "the message's Check", ldap.Check(m), api.ErrLong)
		l, no = d.Ask(m)
		is(t, "a message that is too deep", no, api.ErrArg)
		is(t, "beside the error", l == nil, true)
	}
	is(t, "count", d.Count(), 1)
}

func TestFull(t *testing.T) { // P10.1
	d := full(t)
	is(t, "items", len(d.Items()), api.MaxItems)
	stays(t, "one more", d, func() {
		asks(t, d, add(cn("x")), refusal(53))
		asks(t, d, add(cn("0")), refusal(68))
		is(t, "Put", d.Put(cn("x"), nil), api.ErrLong)
	})
	is(t, "Put of another entry", d.Put(cn("5"), api.Entry{attr("mail", "x")}), api.OK)
	asks(t, d, modify(cn("6")), result("u7", 66))
	is(t, "count", d.Count(), 66)
	asks(t, d, deletion(cn("5")), result("u6", 67))
	asks(t, d, add(cn("x")), result("u65", 68))
	asks(t, d, add(cn("y")), refusal(53))
	drops(t, d, cn("x"))
	puts(t, d, cn("y"))
	is(t, "Put", d.Put(cn("x"), nil), api.ErrLong)
	one, _ := d.Find(cn("y"))
	is(t, "the last one", plainItem(one), plainItem(api.Item{Uuid: "u66", Dn: cn("y"), Csn: 70}))
	// The list of what is gone has no such bound.
	for range 3 * api.MaxItems {
		drops(t, d, cn("y"))
		puts(t, d, cn("y"))
	}
	l, _ := d.Ask(search(nil, all, "c70"))
	is(t, "what a cookie tells", len(l), 3*api.MaxItems+1+1)
}

func TestPutAndDrop(t *testing.T) { // P10.1
	d := tree.New()
	puts(t, d, cn("Ann"), attr("mail", "x"))
	puts(t, d, cn("ANN"), attr("tel", "1"))
	one, _ := d.Find(cn("ann"))
	is(t, "its name stays", plainItem(one), plainItem(api.Item{Uuid: "u1", Dn: cn("Ann"), Entry: api.Entry{attr("tel", "1")}, Csn: 2}))
	puts(t, d, cn("ann"), attr("tel", "1"))
	is(t, "the same entry is a change", d.Count(), 3)
	asks(t, d, search(nil, all, "c2"), item("u1", 3, cn("Ann"), attr("tel", "1")), done("c3"))
	puts(t, d, cn("ann"))
	asks(t, d, search(nil, all, "c3"), item("u1", 4, cn("Ann")), done("c4"))
	is(t, "Drop of another", d.Drop(cn("a")), api.ErrNone)
	is(t, "Drop", d.Drop(cn("aNN")), api.OK)
	is(t, "Drop of one that is gone", d.Drop(cn("ann")), api.ErrNone)
	asks(t, d, search(nil, all, "c4"), gone("u1", 5), done("c5"))
}

func TestWhatMayNotBePutOrDropped(t *testing.T) { // P10.1
	d := full(t)
	deep := slices.Repeat(cn("a"), 17)
	stays(t, "what is refused", d, func() {
		for _, at := range []api.Dn{nil, {}, cn(""), name("CN", "a"), name("", "a"), name("c n", "a"), cn(strings.Repeat("a", 201)), deep, slices.Repeat(cn("a"), 100000)} {
			is(t, fmt.Sprintf("Put at %s", short(at)), d.Put(at, nil), api.ErrArg)
			is(t, fmt.Sprintf("Drop at %s", short(at)), d.Drop(at), api.ErrArg)
		}
		for _, e := range []api.Entry{
			{attr("mail")}, {attr("MAIL", "x")}, {attr("mail", "b", "a")}, {attr("mail", "a", "a")}, {attr("mail", "")}, {attr("mail", strings.Repeat("x", api.MaxValue+1))},
			{attr("mail", "x"), attr("cn", "x")}, {attr("cn", "x"), attr("cn", "y")}, {attr("9", "x")}, append(big(), attr("b", "x")),
		} {
			is(t, "Put", d.Put(cn("0"), e), api.ErrArg)
			// That counts ahead of that there is no room.
			is(t, "Put", d.Put(cn("x"), e), api.ErrArg)
		}
		is(t, "Drop of none", d.Drop(cn("x")), api.ErrNone)
		is(t, "Drop of none", d.Drop(name("cn", "x", "cn", "0")), api.ErrNone)
	})
	is(t, "a name at its bound", d.Put(cn("0"), big()), api.OK)
	drops(t, d, cn("0"))
	is(t, "a name at its bound", d.Put(slices.Repeat(cn(strings.Repeat("a", 200)), 16), big()), api.OK)
}

func TestFind(t *testing.T) { // P10.2
	d := tree.New()
	for i, at := range []api.Dn{cn("Ann"), name("cn", "ann", "ou", "people"), name("uid", "ann"), cn("\xc4"), cn("ann b")} {
		puts(t, d, at, attr("mail", strconv.Itoa(i+1)))
	}
	for i, at := range []api.Dn{cn("aNN"), name("cn", "ANN", "ou", "People"), name("uid", "Ann"), cn("\xc4"), cn("ANN B")} {
		one, there := d.Find(at)
		is(t, "there", there, true)
		is(t, "its Uuid", one.Uuid, "u"+strconv.Itoa(i+1))
		is(t, "its Csn", one.Csn, int64(i+1))
		is(t, "its entry", entry.Same(one.Entry, api.Entry{attr("mail", strconv.Itoa(i+1))}), true)
	}
	for _, at := range []api.Dn{nil, cn("an"), cn("annb"), cn(""), name("CN", "ann"), name("ou", "people"), cn("\xe4"), name("uid", "ann", "ou", "people"), cn(strings.Repeat("a", 201))} {
		one, there := d.Find(at)
		is(t, fmt.Sprintf("Find of %v", at), there, false)
		is(t, "beside it", plainItem(one), plainItem(api.Item{}))
		is(t, "beside it", one.Dn == nil && one.Entry == nil, true)
	}
	drops(t, d, cn("ann"))
	_, there := d.Find(cn("ann"))
	is(t, "one that is gone", there, false)
}

func TestCopyGoesOnApart(t *testing.T) { // P10.2
	d := tree.New()
	puts(t, d, cn("a"), attr("mail", "x"))
	puts(t, d, cn("b"))
	puts(t, d, cn("e"))
	for range 3 {
		puts(t, d, cn("c"))
		drops(t, d, cn("c"))
	}
	deeds := []func(d *tree.Tree){
		func(d *tree.Tree) { d.Ask(add(cn("d"))) },
		func(d *tree.Tree) { d.Ask(modify(cn("a"), mod(api.ModReplace, "mail", "y"))) },
		func(d *tree.Tree) { d.Ask(deletion(cn("a"))) },
		func(d *tree.Tree) { d.Put(cn("a"), nil) },
		func(d *tree.Tree) { d.Put(cn("d"), nil) },
		func(d *tree.Tree) { d.Drop(cn("b")) },
		func(d *tree.Tree) { d.Forget() },
	}
	whole := func(d *tree.Tree) string {
		l, no := d.Ask(search(nil, all, "c0"))
		return plainItems(d.Items()) + strconv.FormatInt(d.Count(), 10) + fmt.Sprint(no) + plainMessages(l)
	}
	for i, first := range deeds {
		for j, second := range deeds {
			other := d.Copy()
			is(t, "a copy", tree.Same(d, other) && tree.Same(other, d), true)
			is(t, "a copy", whole(other), whole(d))
			ahead := whole(d)
			first(other)
			is(t, "the first, when the copy went on", whole(d), ahead)
			is(t, "they are the same then", tree.Same(d, other), false)
			// Both go on from there, and each is what it was done to alone.
			third := other.Copy()
			behind := whole(third)
			second(other)
			is(t, fmt.Sprintf("deed %d, then %d", i, j), whole(third), behind)
			behind = whole(other)
			first(third)
			third.Drop(cn("e"))
			is(t, fmt.Sprintf("deed %d, then %d, and one of another", i, j), whole(other), behind)
			second(d.Copy())
			is(t, "the first, when copies of it went on", whole(d), ahead)
		}
	}
}

func TestACopyMakesTheNextItemAlike(t *testing.T) { // P10.2
	d := tree.New()
	puts(t, d, cn("a"))
	drops(t, d, cn("a"))
	forgets(t, d)
	other := d.Copy()
	asks(t, other, add(cn("b")), result("u2", 3))
	asks(t, d, add(cn("b")), result("u2", 3))
	is(t, "they are the same", tree.Same(d, other), true)
}

func TestSame(t *testing.T) { // P10.2
	made := func(do ...func(d *tree.Tree)) *tree.Tree {
		d := tree.New()
		for _, one := range do {
			one(d)
		}
		return d
	}
	put := func(at api.Dn, e ...api.Attr) func(d *tree.Tree) {
		return func(d *tree.Tree) { puts(t, d, at, e...) }
	}
	drop := func(at api.Dn) func(d *tree.Tree) { return func(d *tree.Tree) { drops(t, d, at) } }
	forget := func(d *tree.Tree) { forgets(t, d) }
	a, b := cn("a"), cn("b")
	unlike := []*tree.Tree{
		nil,
		made(),
		made(put(a)),
		made(put(cn("A"))),
		made(put(name("uid", "a"))),
		made(put(name("cn", "a", "cn", "a"))),
		made(put(a, attr("mail", "x"))),
		made(put(a, attr("mail", "X"))),
		made(put(a, attr("mail", "x", "y"))),
		made(put(a, attr("tel", "x"))),
		made(put(a), put(a)),
		made(put(a), forget),
		made(put(a), put(b)),
		made(put(b), put(a)),
		made(put(a), drop(a)),
		made(put(a), drop(a), forget),
		made(put(a), forget, drop(a)),
		made(put(a), put(b), put(b), drop(a)),
		made(put(a), put(b), put(b), drop(b)),
		made(put(a), put(b), drop(a), put(b)),
		made(put(a), put(b), drop(b), put(a)),
	}
	for i, x := range unlike {
		for j, y := range unlike {
			is(t, fmt.Sprintf("Same of %d and %d", i, j), tree.Same(x, y), i == j)
			is(t, fmt.Sprintf("Same of %d and a copy of %d", i, j), tree.Same(x, y.Copy()), i == j)
		}
	}
	is(t, "what was done in two ways", tree.Same(made(put(a, attr("mail", "x"))), made(func(d *tree.Tree) { does(t, d, add(a, attr("mail", "x"))) })), true)
	is(t, "what was done in two ways", tree.Same(made(put(a), drop(a)), made(put(b), drop(b))), true)
	is(t, "nil and empty", tree.Same(made(put(a)), made(func(d *tree.Tree) { d.Put(a, api.Entry{}) })), true)
	// The items, the count, the list and the floor are held against each other, and nothing else.
	is(t, "another item of the same name, entry and Csn", tree.Same(made(put(a), drop(a), put(b), forget), made(put(b), put(b), put(b), forget)), false)
	is(t, "what is forgotten went at other times", tree.Same(made(put(a), put(b), drop(a), put(b), forget), made(put(a), drop(a), put(b), put(b), forget)), true)
	is(t, "what is not forgotten did", tree.Same(made(put(a), put(b), drop(a), put(b)), made(put(a), drop(a), put(b), put(b))), false)
	is(t, "as many changes, of more items", tree.Same(made(put(a), put(b), drop(b), put(a), forget), made(put(a), put(a), put(a), put(a), forget)), true)
}

func TestNoDirectory(t *testing.T) { // P10.1, P10.2
	var none *tree.Tree
	for _, d := range []*tree.Tree{none, {}, new(tree.Tree), none.Copy(), new(tree.Tree).Copy()} {
		for _, m := range append(mayNotBe(), search(nil, all, ""), add(cn("a")), modify(cn("a")), deletion(cn("a")), done("")) {
			l, no := d.Ask(m)
			is(t, "Ask", no, api.ErrNil)
			is(t, "beside it", l == nil, true)
		}
		for _, b := range [][]byte{nil, {}, {1}, laid(t, search(nil, all, "")), laid(t, add(cn("a")))} {
			l, no := d.Bytes(b)
			is(t, "Bytes", no, api.ErrNil)
			is(t, "beside it", l == nil, true)
		}
		for _, at := range []api.Dn{nil, cn("a"), cn("")} {
			is(t, "Put", d.Put(at, nil), api.ErrNil)
			is(t, "Put", d.Put(at, api.Entry{attr("mail")}), api.ErrNil)
			is(t, "Drop", d.Drop(at), api.ErrNil)
			one, there := d.Find(at)
			is(t, "Find", there, false)
			is(t, "beside it", plainItem(one), plainItem(api.Item{}))
		}
		is(t, "Forget", d.Forget(), api.ErrNil)
		is(t, "Items", d.Items() == nil, true)
		is(t, "Count", d.Count(), 0)
		is(t, "Copy", d.Copy() == nil, true)
		is(t, "Same", tree.Same(d, nil) && tree.Same(nil, d) && tree.Same(d, new(tree.Tree)), true)
		is(t, "Same", tree.Same(d, tree.New()) || tree.Same(tree.New(), d), false)
	}
}

// laid tells the bytes of a message that may be.
func laid(t *testing.T, m api.Ldap) []byte {
	t.Helper()
	b, no := ldap.Encode(m)
	if no != api.OK {
		t.Fatalf("%s: %v", plainMessage(m), no)
	}
	return b
}

// told tells what a directory answers to bytes, and the messages of that.
func told(t *testing.T, d *tree.Tree, b []byte) []api.Ldap {
	t.Helper()
	rows, no := d.Bytes(b)
	is(t, fmt.Sprintf("Bytes of %x", b), no, api.OK)
	var l []api.Ldap
	for _, row := range rows {
		m, no := ldap.Decode(row)
		is(t, fmt.Sprintf("what %x is answered", b), no, api.OK)
		l = append(l, m)
	}
	return l
}

func TestBytesAreAnswered(t *testing.T) { // P10.1
	d := tree.New()
	for _, m := range []api.Ldap{
		search(nil, all, ""), add(cn("a"), attr("mail", "x")), add(cn("A")), add(name("cn", "b", "ou", "people")), search(name("ou", "people"), all, "c0"), search(nil, all, "c9"),
		modify(cn("a"), mod(api.ModAdd, "mail", "y")), modify(cn("a"), mod(api.ModAdd, "mail", "y")), guarded(deletion(cn("a")), eq("csn", "1")), guarded(deletion(cn("a")), eq("csn", "3")),
		deletion(cn("a")), search(nil, all, "c0"), done("c1"), result("u1", 1), gone("u1", 1), item("u1", 1, cn("a")),
	} {
		other := d.Copy()
		want, no := other.Ask(m)
		is(t, "Ask", no, api.OK)
		is(t, plainMessage(m), plainMessages(told(t, d, laid(t, m))), plainMessages(want))
		is(t, "what it is then", tree.Same(d, other), true)
	}
	is(t, "count", d.Count(), 4)
	b, no := tree.New().Bytes([]byte("\x30\x0b\x02\x01\x01\x66\x06\x04\x04cn=a"))
	is(t, "the error", no, api.OK)
	is(t, "known bytes", fmt.Sprintf("%x", b), "[300d02010167080a01200400020100]")
}

func TestBytesOfNoMessage(t *testing.T) { // P10.1
	d := tree.New()
	puts(t, d, cn("a"))
	random := rand.New(rand.NewSource(10))
	good := [][]byte{laid(t, search(nil, all, "c0")), laid(t, add(cn("b"), attr("mail", "x"))), laid(t, guarded(modify(cn("a"), mod(api.ModAdd, "x", "y")), eq("csn", "1")))}
	bad := [][]byte{nil, {}, {0x30}, {0x30, 0}, bytes.Repeat([]byte{0x30, 0x80}, 20), []byte(strings.Repeat("\x30\x82\xff\xff", 4)), make([]byte, api.MaxText+1), append([]byte{0x30, 0x83, 1, 0, 0}, make([]byte, api.MaxText)...)}
	deep := ber.Text("x")
	for range api.MaxDepth - 1 {
		deep = ber.List(deep)
	}
	b, _ := ber.Encode(deep)
	bad = append(bad, b, append([]byte{0x30, byte(len(b))}, b...))
	for _, b := range good {
		for i := range b {
			bad = append(bad, b[:i], append(slices.Clone(b), b[i]))
			for range 4 {
				other := slices.Clone(b)
				other[i] = byte(random.Intn(256))
				bad = append(bad, other)
			}
		}
	}
	seen := map[api.Errno]int{}
	for _, b := range bad {
		_, want := ldap.Decode(b)
		seen[want]++
		if want == api.OK {
			continue
		}
		stays(t, "bytes of no message", d, func() {
			l, no := d.Bytes(b)
			is(t, fmt.Sprintf("Bytes of %s", short(fmt.Sprintf("%x", b))), no, want)
			is(t, "beside the error", l == nil, true)
		})
	}
	for _, no := range []api.Errno{api.ErrBer, api.ErrDeep, api.ErrLong, api.ErrLdap} {
		if seen[no] == 0 {
			t.Errorf("no bytes were refused with %v: %v", no, seen)
		}
	}
}

func TestWhatLayerNineRefusesIsLetGo(t *testing.T) { // P10.1
	d := tree.New()
	puts(t, d, cn("a"), attr("mail", "x"))
	puts(t, d, cn("b"), big()...)
	puts(t, d, cn("c"))
	puts(t, d, cn("d"))
	drops(t, d, cn("d"))
	a, b, c := item("u1", 1, cn("a"), attr("mail", "x")), item("u2", 2, cn("b"), big()...), item("u3", 3, cn("c"))
	asks(t, d, search(nil, all, ""), a, b, c, done("c5"))
	is(t, "of no cookie", plainMessages(told(t, d, laid(t, search(nil, all, "")))), plainMessages([]api.Ldap{a, c, done("c5")}))
	is(t, "of a cookie", plainMessages(told(t, d, laid(t, search(nil, all, "c1")))), plainMessages([]api.Ldap{c, gone("u4", 5), done("c5")}))
	is(t, "alone", plainMessages(told(t, d, laid(t, search(cn("b"), all, "")))), plainMessages([]api.Ldap{done("c5")}))
	// Where it is not in question, there is nothing long to tell of it.
	is(t, "as gone", plainMessages(told(t, d, laid(t, search(cn("c"), all, "c1")))), plainMessages([]api.Ldap{gone("u2", 2), c, gone("u4", 5), done("c5")}))
	drops(t, d, cn("b"))
	is(t, "gone", plainMessages(told(t, d, laid(t, search(nil, all, "c5")))), plainMessages([]api.Ldap{gone("u2", 6), done("c6")}))
}

func TestAnItemAtTheBoundOfAMessage(t *testing.T) { // P10.1
	d := tree.New()
	at, e := atBound(t)
	is(t, "it is added", plainMessages(told(t, d, laid(t, add(at, e...)))), plainMessages([]api.Ldap{result("u1", 1)}))
	asks(t, d, search(nil, all, ""), item("u1", 1, at, e...), done("c1"))
	is(t, "it is too long to be told", plainMessages(told(t, d, laid(t, search(nil, all, "")))), plainMessages([]api.Ldap{done("c1")}))
	for ldap.Check(item("u1", 2, at, e...)) != api.OK {
		e[0].Values[0] = e[0].Values[0][1:]
	}
	puts(t, d, at, e...)
	is(t, "just at the bound", len(laid(t, item("u1", 2, at, e...))), api.MaxText)
	is(t, "it is told", plainMessages(told(t, d, laid(t, search(nil, all, "")))), plainMessages([]api.Ldap{item("u1", 2, at, e...), done("c2")}))
}

// scribbleName changes all of a name that was handed in or answered, and spare room behind it.
func scribbleName(d api.Dn) {
	d = d[:cap(d)]
	for i := range d {
		d[i] = api.Rdn{Type: "x", Value: "scribbled"}
	}
}

// scribbleEntry does so to an entry.
func scribbleEntry(e api.Entry) {
	e = e[:cap(e)]
	for i := range e {
		for j := range e[i].Values {
			e[i].Values[j] = "scribbled"
		}
		e[i].Name = "scribbled"
	}
}

func TestWhatIsHandedInIsNotKept(t *testing.T) { // P10.1
	d := tree.New()
	at, e := name("cn", "a", "ou", "people"), api.Entry{attr("cn", "a"), attr("mail", "x", "y")}
	puts(t, d, at, e...)
	scribbleName(at)
	scribbleEntry(e)
	m := add(name("cn", "b", "ou", "people"), attr("cn", "b"), attr("mail", "x"))
	does(t, d, m)
	scribbleName(m.Base)
	scribbleEntry(m.Entry)
	m = modify(name("cn", "b", "ou", "people"), mod(api.ModReplace, "mail", "y", "z"), mod(api.ModAdd, "sn", "b"))
	does(t, d, m)
	scribbleName(m.Base)
	for i := range m.Mods {
		m.Mods[i].Values[0] = "scribbled"
		m.Mods[i].Name = "scribbled"
	}
	e = api.Entry{attr("mail", "q")}
	puts(t, d, name("cn", "a", "ou", "people"), e...)
	scribbleEntry(e)
	b := laid(t, add(cn("c"), attr("mail", "x")))
	told(t, d, b)
	clear(b)
	is(t, "items", plainItems(d.Items()), plainItems([]api.Item{
		{Uuid: "u1", Dn: name("cn", "a", "ou", "people"), Entry: api.Entry{attr("mail", "q")}, Csn: 4},
		{Uuid: "u2", Dn: name("cn", "b", "ou", "people"), Entry: api.Entry{attr("cn", "b"), attr("mail", "y", "z"), attr("sn", "b")}, Csn: 3},
		{Uuid: "u3", Dn: cn("c"), Entry: api.Entry{attr("mail", "x")}, Csn: 5},
	}))
}

func TestWhatIsHandedInIsNotChanged(t *testing.T) { // P10.1
	d := tree.New()
	spare := func() (api.Dn, api.Entry, []api.Mod) {
		at := append(make(api.Dn, 0, 8), name("cn", "A", "ou", "people")...)
		e := append(make(api.Entry, 0, 8), attr("cn", "a"), attr("mail", "x", "y"))
		e[1].Values = append(make([]string, 0, 8), "x", "y")
		l := append(make([]api.Mod, 0, 8), mod(api.ModReplace, "MAIL", "z", "b"), mod(api.ModAdd, "Sn", "q"))
		return at, e, l
	}
	at, e, l := spare()
	wantAt, wantE, wantL := spare()
	f, g := not(eq("MAIL", "Q")), api.Filter{Kind: api.FilterAnd, Of: []api.Filter{eq("CSN", "2"), has("Mail")}}
	message := laid(t, search(at, f, "c0"))
	rows := slices.Clone(message)
	d.Ask(add(at, e...))
	d.Put(at, e)
	d.Ask(search(at, f, ""))
	d.Ask(search(at[1:], f, "c0"))
	d.Ask(guarded(modify(at, l...), g))
	d.Bytes(message)
	d.Find(at)
	d.Ask(guarded(deletion(at), g))
	d.Drop(at)
	is(t, "a name", fmt.Sprint(at[:cap(at)]), fmt.Sprint(wantAt[:cap(wantAt)]))
	is(t, "an entry", fmt.Sprint(e[:cap(e)]), fmt.Sprint(wantE[:cap(wantE)]))
	is(t, "Values", fmt.Sprint(e[1].Values[:8]), fmt.Sprint(wantE[1].Values[:8]))
	is(t, "changes", fmt.Sprint(l[:cap(l)]), fmt.Sprint(wantL[:cap(wantL)]))
	is(t, "filters", fmt.Sprint(f, g), fmt.Sprint(not(eq("MAIL", "Q")), api.Filter{Kind: api.FilterAnd, Of: []api.Filter{eq("CSN", "2"), has("Mail")}}))
	is(t, "bytes", bytes.Equal(message, rows), true)
	is(t, "count", d.Count(), 4)
}

func TestAnswersAreNewMemory(t *testing.T) { // P10.1, P10.2
	d := tree.New()
	puts(t, d, name("cn", "a", "ou", "people"), attr("cn", "a"), attr("mail", "x", "y"))
	puts(t, d, name("cn", "b", "ou", "people"), attr("cn", "a"), attr("mail", "x", "y"))
	drops(t, d, name("cn", "b", "ou", "people"))
	items := plainItems(d.Items())
	whole := func() string {
		l, _ := d.Ask(search(nil, all, "c0"))
		return plainMessages(l)
	}
	ahead := whole()
	other := d.Copy()
	for _, where := range []*tree.Tree{d, other} {
		for _, cookie := range []string{"", "c0"} {
			l, _ := where.Ask(search(nil, all, cookie))
			for i := range l {
				scribbleName(l[i].Base)
				scribbleEntry(l[i].Entry)
			}
			clear(l[:cap(l)])
		}
		l := where.Items()
		for i := range l {
			scribbleName(l[i].Dn)
			scribbleEntry(l[i].Entry)
		}
		clear(l[:cap(l)])
		one, _ := where.Find(name("cn", "a", "ou", "people"))
		scribbleName(one.Dn)
		scribbleEntry(one.Entry)
		rows, _ := where.Bytes(laid(t, search(nil, all, "c0")))
		for i := range rows {
			clear(rows[i][:cap(rows[i])])
		}
		is(t, "items", plainItems(d.Items()), items)
		is(t, "what is told", whole(), ahead)
		is(t, "the copy", tree.Same(d, other), true)
	}
}

func TestHugeArguments(t *testing.T) { // P10.1, P10.2
	d := tree.New()
	puts(t, d, cn("a"))
	self := api.Filter{Kind: api.FilterAnd, Of: make([]api.Filter, 1)}
	self.Of[0] = self
	many := make([]api.Attr, 100000)
	text := strings.Repeat("x", 1<<20)
	stays(t, "huge arguments", d, func() {
		for _, m := range []api.Ldap{
			search(nil, self, ""), guarded(deletion(cn("a")), self), guarded(modify(cn("a")), self), search(nil, all, text), search(cn(text), all, ""), add(cn("b"), many...),
			add(cn(text)), add(slices.Repeat(cn("a"), 100000)), modify(cn("a"), make([]api.Mod, 100000)...), deletion(slices.Repeat(cn("a"), 100000)),
			{Id: math.MaxInt64, Kind: api.LdapSearch, Filter: all}, {Id: math.MinInt64, Kind: api.LdapSearch, Filter: all}, {Id: 1, Kind: math.MinInt},
		} {
			_, no := d.Ask(m)
			is(t, "Ask", no, api.ErrArg)
		}
		is(t, "Put", d.Put(cn("b"), many), api.ErrArg)
		is(t, "Put", d.Put(cn(text), nil), api.ErrArg)
		is(t, "Drop", d.Drop(cn(text)), api.ErrArg)
		_, there := d.Find(slices.Repeat(cn("a"), 100000))
		is(t, "Find", there, false)
		_, no := d.Bytes([]byte(text))
		if no == api.OK {
			t.Error("huge bytes are answered")
		}
	})
}

func TestExamples(t *testing.T) { // P10.1
	d := tree.New()
	asks(t, d, add(cn("a")), result("u1", 1))
	asks(t, d, add(cn("A")), refusal(68))
	asks(t, d, search(nil, all, ""), item("u1", 1, cn("a")), done("c1"))
	is(t, "Drop", d.Drop(cn("a")), api.OK)
	asks(t, d, search(nil, all, "c1"), gone("u1", 2), done("c2"))
	asks(t, d, search(nil, all, "c9"), anew())
}

// deed is a change of a directory: the first one has the Csn 1.
type deed struct {
	uuid string
	at   api.Dn // nothing, if it is gone by it
	e    api.Entry
}

// past is a directory told by all that was ever done to it.
type past struct {
	deeds []deed
	floor int64
}

// now tells the last deed of each item that ever was, with its Csn, by the Uuid.
func (p *past) now() map[string]api.Item {
	items := map[string]api.Item{}
	for i, one := range p.deeds {
		items[one.uuid] = api.Item{Uuid: one.uuid, Dn: one.at, Entry: one.e, Csn: int64(i + 1)}
	}
	return items
}

// told tells those of them that are there, or those that are not, by rising Uuids.
func (p *past) told(there bool) []api.Item {
	var l []api.Item
	for _, i := range p.now() {
		if (len(i.Dn) > 0) == there {
			l = append(l, i)
		}
	}
	sort.Slice(l, func(i, j int) bool { return l[i].Uuid < l[j].Uuid })
	return l
}

// key tells what two names have in common just if they are alike.
func key(d api.Dn) string {
	var s strings.Builder
	for _, r := range d {
		s.WriteString(fmt.Sprintf("%q=%q,", r.Type, small(r.Value)))
	}
	return s.String()
}

// find tells the item of an alike name.
func (p *past) find(d api.Dn) (api.Item, bool) {
	for _, i := range p.told(true) {
		if key(i.Dn) == key(d) {
			return i, true
		}
	}
	return api.Item{}, false
}

// does one change more, and tells the answer to that.
func (p *past) does(id int64, one deed) []api.Ldap {
	p.deeds = append(p.deeds, one)
	return []api.Ldap{{Id: id, Kind: api.LdapResult, Uuid: one.uuid, Csn: int64(len(p.deeds))}}
}

// nextUuid tells the one of an item more.
func (p *past) nextUuid() string { return "u" + strconv.Itoa(len(p.now())+1) }

// inQuestion tells whether an item is.
func inQuestion(i api.Item, base api.Dn, f api.Filter) bool {
	means, _ := filter.Means(f, i.Entry)
	return strings.HasSuffix(key(i.Dn), key(base)) && means && len(i.Dn) > 0
}

// ask tells what a message that may be is answered, and does it.
func (p *past) ask(m api.Ldap) []api.Ldap {
	refused := func(code int64) []api.Ldap { return []api.Ldap{{Id: m.Id, Kind: api.LdapResult, Code: code}} }
	i, there := p.find(m.Base)
	switch m.Kind {
	case api.LdapSearch:
		return p.search(m)
	case api.LdapAdd:
		switch {
		case there:
			return refused(68)
		case len(p.told(true)) == api.MaxItems:
			return refused(53)
		}
		return p.does(m.Id, deed{p.nextUuid(), m.Base, m.Entry})
	case api.LdapModify, api.LdapDelete:
		if !there {
			return refused(32)
		}
		if means, _ := filter.Means(m.Guard, i.Entry, attr("csn", fmt.Sprint(i.Csn))); m.HasGuard && !means {
			return refused(122)
		}
		if m.Kind == api.LdapDelete {
			return p.does(m.Id, deed{uuid: i.Uuid})
		}
		e, no := entry.Do(i.Entry, m.Mods...)
		if code, is := map[api.Errno]int64{api.ErrThere: 20, api.ErrMissing: 16, api.ErrLong: 53}[no]; is {
			return refused(code)
		}
		return p.does(m.Id, deed{i.Uuid, i.Dn, e})
	}
	return refused(2)
}

// search tells what a search is answered.
func (p *past) search(m api.Ldap) []api.Ldap {
	end := api.Ldap{Id: m.Id, Kind: api.LdapDone, Cookie: fmt.Sprintf("c%d", len(p.deeds))}
	since := int64(-1)
	for n := p.floor; n <= int64(len(p.deeds)); n++ {
		if m.Cookie == fmt.Sprintf("c%d", n) {
			since = n
		}
	}
	if m.Cookie != "" && since < 0 {
		return []api.Ldap{{Id: m.Id, Kind: api.LdapDone, Code: 4096}}
	}
	var l []api.Ldap
	for uuid, i := range p.now() {
		one := api.Ldap{Id: m.Id, Kind: api.LdapItem, Uuid: uuid, Csn: i.Csn}
		asked := inQuestion(i, m.Base, m.Filter)
		if asked {
			one.Base, one.Entry = i.Dn, i.Entry
		} else {
			one.Gone = true
		}
		isForgotten := len(i.Dn) == 0 && i.Csn <= p.floor
		if i.Csn > since && (asked || m.Cookie != "") && !isForgotten {
			l = append(l, one)
		}
	}
	sort.Slice(l, func(i, j int) bool { return l[i].Uuid < l[j].Uuid })
	return append(l, end)
}

// put and drop do what people do, and tell the error.
func (p *past) put(d api.Dn, e api.Entry) api.Errno {
	i, there := p.find(d)
	switch {
	case there:
		p.does(0, deed{i.Uuid, i.Dn, e})
	case len(p.told(true)) == api.MaxItems:
		return api.ErrLong
	default:
		p.does(0, deed{p.nextUuid(), d, e})
	}
	return api.OK
}

func (p *past) drop(d api.Dn) api.Errno {
	i, there := p.find(d)
	if !there {
		return api.ErrNone
	}
	p.does(0, deed{uuid: i.Uuid})
	return api.OK
}

// life makes what may happen to a directory, as it falls.
type life struct {
	*rand.Rand
	names int            // how many unlike names there are, but for letters
	csns  int            // how many changes there are about now
	seen  map[string]int // how often a Kind was answered by a Code, if that is asked for
}

// one picks one of some.
func one[T any](l *life, some ...T) T { return some[l.Intn(len(some))] }

func (l *life) name() api.Dn {
	n := l.Intn(l.names)
	value := one(l, "a", "A") + strconv.Itoa(n/4)
	switch n % 4 {
	case 0:
		return cn(value)
	case 1:
		return name("uid", value, "ou", one(l, "people", "People"))
	case 2:
		return name("uid", value, "ou", "groups")
	}
	return name("mail", "x", "uid", value, "ou", one(l, "people", "PEOPLE"))
}

func (l *life) base() api.Dn {
	return one(l, nil, name("ou", "people"), name("ou", "groups"), name("ou", "PEOPLE"), l.name(), l.name(), name("o", "none"))
}

func (l *life) values() []string {
	var some []string
	for _, v := range []string{"1", "2", "X", "ann", "x"} {
		if l.Intn(3) == 0 {
			some = append(some, v)
		}
	}
	return some
}

func (l *life) entry() api.Entry {
	var e api.Entry
	for _, name := range []string{"cn", "csn", "mail", "tel"} {
		if v := l.values(); len(v) > 0 {
			e = append(e, attr(name, v...))
		}
	}
	return e
}

func (l *life) filter() api.Filter { return l.filterOf(4) }

// filterOf makes a filter of at most that depth.
func (l *life) filterOf(depth int) api.Filter {
	kinds := 6
	if depth == 1 {
		kinds = 4
	}
	switch l.Intn(kinds) {
	case 0:
		return eq(one(l, "csn", "CSN"), strconv.Itoa(max(1, l.csns-l.Intn(30))))
	case 1:
		return eq(one(l, "cn", "csn", "Mail"), one(l, "1", "ANN", "x"))
	case 2:
		return has(one(l, "csn", "tel", "sn"))
	case 3:
		return all
	case 4:
		return not(l.filterOf(depth - 1))
	}
	return api.Filter{Kind: one(l, api.FilterAnd, api.FilterOr), Of: []api.Filter{l.filterOf(depth - 1), l.filterOf(depth - 1)}}
}

func (l *life) mods() []api.Mod {
	var some []api.Mod
	for range l.Intn(4) {
		m := mod(api.ModKind(1+l.Intn(3)), one(l, "cn", "CSN", "mail", "sn"), l.values()...)
		if m.Kind != api.ModAdd || len(m.Values) > 0 {
			some = append(some, m)
		}
	}
	return some
}

func (l *life) message() api.Ldap {
	m := api.Ldap{Id: 1 + l.Int63n(api.MaxNumber)}
	switch l.Intn(10) {
	case 0, 1:
		m.Kind, m.Base, m.Filter = api.LdapSearch, l.base(), l.filter()
		m.Cookie = one(l, "", "c"+strconv.Itoa(max(0, l.csns-l.Intn(40))), "c"+strconv.Itoa(l.Intn(2*l.csns+2)), "c0"+strconv.Itoa(l.csns))
	case 2, 3, 4:
		m.Kind, m.Base, m.Entry = api.LdapAdd, l.name(), l.entry()
	case 5, 6:
		m.Kind, m.Base, m.Mods = api.LdapModify, l.name(), l.mods()
	case 7, 8:
		m.Kind, m.Base = api.LdapDelete, l.name()
	default:
		m.Kind, m.Code = one(l, api.LdapDone, api.LdapResult), l.Int63n(3)
	}
	if (m.Kind == api.LdapModify || m.Kind == api.LdapDelete) && l.Intn(2) == 0 {
		m = guarded(m, l.filter())
	}
	return m
}

// happens does one thing to a directory and to its past, and holds what both answer.
func (l *life) happens(t *testing.T, d *tree.Tree, p *past) {
	t.Helper()
	l.csns = len(p.deeds)
	switch l.Intn(10) {
	case 0:
		at, e := l.name(), l.entry()
		is(t, "Put", d.Put(at, e), p.put(at, e))
	case 1:
		at := l.name()
		is(t, "Drop", d.Drop(at), p.drop(at))
	case 2:
		if l.Intn(20) == 0 {
			forgets(t, d)
			p.floor = int64(len(p.deeds))
		}
	case 3, 4:
		m := l.message()
		is(t, plainMessage(m), plainMessages(told(t, d, laid(t, m))), plainMessages(p.ask(m)))
	default:
		m := l.message()
		want := p.ask(m)
		asks(t, d, m, want...)
		if l.seen != nil {
			l.seen[fmt.Sprintf("%d %d", m.Kind, want[len(want)-1].Code)]++
		}
	}
}

// holds holds what a directory tells of itself against its past.
func (p *past) holds(t *testing.T, d *tree.Tree, at api.Dn) {
	t.Helper()
	is(t, "count", d.Count(), int64(len(p.deeds)))
	is(t, "items", plainItems(d.Items()), plainItems(p.told(true)))
	got, there := d.Find(at)
	want, known := p.find(at)
	is(t, "there", there, known)
	is(t, "the item of a name", plainItem(got), plainItem(want))
	asks(t, d, search(nil, all, fmt.Sprintf("c%d", p.floor)), p.ask(search(nil, all, fmt.Sprintf("c%d", p.floor)))...)
}

func TestAgainstItsPast(t *testing.T) { // P10.1, P10.2
	seen := map[string]int{}
	for seed := range int64(12) {
		l := &life{Rand: rand.New(rand.NewSource(seed)), names: []int{3, 12, 40, 120}[seed%4]}
		d, p := tree.New(), &past{}
		for range 600 {
			ahead, count := d.Copy(), d.Count()
			l.seen = seen
			l.happens(t, d, p)
			p.holds(t, d, l.name())
			if d.Count() != count {
				is(t, "one that changed is the same", tree.Same(ahead, d), false)
			}
			is(t, "the one ahead", ahead.Count(), count)
			if l.Intn(50) == 0 {
				d = d.Copy()
			}
			if t.Failed() {
				t.Fatalf("seed %d, behind %d changes", seed, len(p.deeds))
			}
		}
	}
	for _, what := range []string{"1 0", "1 4096", "4 0", "4 53", "4 68", "5 0", "5 16", "5 20", "5 32", "5 122", "6 0", "6 32", "6 122", "3 2", "7 2"} {
		if seen[what] < 10 {
			t.Errorf("asked and answered so (Kind, Code) %s: %d times", what, seen[what])
		}
	}
}

func TestTheSameDoneTwice(t *testing.T) { // P10.1, P10.2
	lived := func() (*tree.Tree, *past) {
		l := &life{Rand: rand.New(rand.NewSource(99)), names: 40}
		d, p := tree.New(), &past{}
		for range 400 {
			l.happens(t, d, p)
		}
		return d, p
	}
	first, _ := lived()
	second, _ := lived()
	is(t, "two that lived the same", tree.Same(first, second), true)
}

// follower keeps what searches of one Base and Filter tell.
type follower struct {
	base   api.Dn
	filter api.Filter
	cookie string
	kept   map[string]api.Item
}

// follow asks what there is to tell, anew if need be.
func (f *follower) follow(t *testing.T, ask func(m api.Ldap) []api.Ldap) {
	t.Helper()
	l := ask(search(f.base, f.filter, f.cookie))
	if l[0].Kind == api.LdapDone && l[0].Code == 4096 {
		is(t, "that there is more", len(l), 1)
		f.cookie = ""
		l = ask(search(f.base, f.filter, ""))
	}
	if f.cookie == "" {
		f.kept = map[string]api.Item{}
	}
	last := l[len(l)-1]
	for _, m := range l[:len(l)-1] {
		delete(f.kept, m.Uuid)
		if !m.Gone {
			f.kept[m.Uuid] = api.Item{Uuid: m.Uuid, Dn: m.Base, Entry: m.Entry, Csn: m.Csn}
		}
	}
	is(t, "the last one", last.Kind == api.LdapDone && last.Code == 0 && last.Cookie != "", true)
	f.cookie = last.Cookie
}

// holds holds what is kept against the items in question.
func (f *follower) holds(t *testing.T, p *past) {
	t.Helper()
	var want, got []api.Item
	for _, i := range p.told(true) {
		if inQuestion(i, f.base, f.filter) {
			want = append(want, i)
		}
		if kept, is := f.kept[i.Uuid]; is {
			got = append(got, kept)
		}
	}
	is(t, "how many are kept", len(f.kept), len(want))
	is(t, "what is kept", plainItems(got), plainItems(want))
}

func TestWhoKeepsWhatIsTold(t *testing.T) { // P10.3
	for seed := range int64(8) {
		l := &life{Rand: rand.New(rand.NewSource(1000 + seed)), names: []int{4, 12, 60, 120}[seed%4]}
		d, p := tree.New(), &past{}
		// As values and as bytes.
		ways := []func(m api.Ldap) []api.Ldap{
			func(m api.Ldap) []api.Ldap {
				answers, _ := d.Ask(m)
				return answers
			},
			func(m api.Ldap) []api.Ldap { return told(t, d, laid(t, m)) },
		}
		followers := []*follower{{filter: all}, {base: name("ou", "people"), filter: all}, {filter: has("tel")}, {base: name("ou", "PEOPLE"), filter: not(eq("mail", "ANN"))}}
		for range 8 {
			followers = append(followers, &follower{base: l.base(), filter: l.filter()})
		}
		for range 500 {
			l.happens(t, d, p)
			for _, f := range followers {
				if l.Intn(12) == 0 {
					f.follow(t, one(l, ways...))
					f.holds(t, p)
				}
			}
			if t.Failed() {
				t.Fatalf("seed %d, behind %d changes", seed, len(p.deeds))
			}
		}
	}
}

func TestWhoKeepsWhatIsToldOfOneThatMoved(t *testing.T) { // P10.3
	d, p := tree.New(), &past{}
	f := &follower{base: name("ou", "people"), filter: has("mail")}
	ask := func(m api.Ldap) []api.Ldap {
		l, _ := d.Ask(m)
		return l
	}
	step := func(m api.Ldap) {
		t.Helper()
		asks(t, d, m, p.ask(m)...)
	}
	a, b := name("uid", "a", "ou", "people"), name("uid", "b", "ou", "people")
	step(add(a, attr("mail", "x")))
	step(add(b))
	f.follow(t, ask)
	f.holds(t, p)
	// One goes out of question, another comes in, and one goes and comes again under its name.
	step(modify(a, mod(api.ModDelete, "mail")))
	step(modify(b, mod(api.ModAdd, "mail", "y")))
	f.follow(t, ask)
	f.holds(t, p)
	step(deletion(b))
	step(add(b, attr("mail", "z")))
	f.follow(t, ask)
	f.holds(t, p)
	is(t, "how many are kept", len(f.kept), 1)
	// What is gone is forgotten ahead of its being told.
	step(deletion(b))
	forgets(t, d)
	p.floor = int64(len(p.deeds))
	f.follow(t, ask)
	f.holds(t, p)
	is(t, "how many are kept", len(f.kept), 0)
}
