package tree

import (
	"testing"

	"cardcase/api"
)

// As many changes as may be are more than a test can do, so these tests stand in the package and begin near the bound.

// nearly makes a directory of two items, of the names cn=a and cn=b, with so many changes left.
func nearly(t *testing.T, left int64) *Tree {
	t.Helper()
	d := New()
	for _, value := range []string{"a", "b"} {
		if no := d.Put(api.Dn{{Type: "cn", Value: value}}, api.Entry{{Name: "cn", Values: []string{value}}}); no != api.OK {
			t.Fatalf("Put: %v", no)
		}
	}
	d.changes = api.MaxNumber - left
	return d
}

// of makes a message about a name.
func of(kind api.LdapKind, value string) api.Ldap {
	return api.Ldap{Id: 7, Kind: kind, Base: api.Dn{{Type: "cn", Value: value}}}
}

// answer tells the one answer to a message.
func answer(t *testing.T, d *Tree, m api.Ldap) api.Ldap {
	t.Helper()
	l, no := d.Ask(m)
	if no != api.OK || len(l) != 1 || l[0].Id != 7 || l[0].Kind != api.LdapResult {
		t.Fatalf("Ask: %v %v", l, no)
	}
	return l[0]
}

func TestTheLastChange(t *testing.T) { // P10.1
	at := func(value string) api.Dn { return api.Dn{{Type: "cn", Value: value}} }
	deeds := map[string]func(d *Tree) bool{
		"LdapAdd": func(d *Tree) bool {
			m := answer(t, d, of(api.LdapAdd, "c"))
			return m.Code == 0 && m.Csn == api.MaxNumber
		},
		"LdapModify": func(d *Tree) bool {
			m := answer(t, d, of(api.LdapModify, "a"))
			return m.Code == 0 && m.Csn == api.MaxNumber
		},
		"LdapDelete": func(d *Tree) bool {
			m := answer(t, d, of(api.LdapDelete, "a"))
			return m.Code == 0 && m.Csn == api.MaxNumber
		},
		"Put of one": func(d *Tree) bool { return d.Put(at("c"), nil) == api.OK },
		"Put":        func(d *Tree) bool { return d.Put(at("a"), nil) == api.OK },
		"Drop":       func(d *Tree) bool { return d.Drop(at("a")) == api.OK },
	}
	for what, do := range deeds {
		d := nearly(t, 1)
		if !do(d) || d.Count() != api.MaxNumber {
			t.Errorf("%s: count %d", what, d.Count())
		}
		l, no := d.Ask(api.Ldap{Id: 7, Kind: api.LdapSearch, Filter: api.Filter{Kind: api.FilterAnd}, Cookie: "c2147483646"})
		if no != api.OK || len(l) != 2 || l[0].Csn != api.MaxNumber || l[1].Cookie != "c2147483647" {
			t.Errorf("%s, and a search: %v %v", what, l, no)
		}
	}
}

func TestNoChangeBehindTheLast(t *testing.T) { // P10.1
	d := nearly(t, 0)
	ahead := d.Copy()
	guard := api.Filter{Kind: api.FilterHas, Name: "sn"}
	guarded := func(m api.Ldap) api.Ldap {
		m.HasGuard, m.Guard = true, guard
		return m
	}
	with := func(m api.Ldap, l ...api.Mod) api.Ldap {
		m.Mods = l
		return m
	}
	cases := []struct {
		what string
		m    api.Ldap
		code int64
	}{
		{"LdapAdd", of(api.LdapAdd, "c"), 53},
		{"LdapAdd of one that is there", of(api.LdapAdd, "A"), 68},
		{"LdapModify", of(api.LdapModify, "a"), 53},
		{"LdapModify of none", of(api.LdapModify, "c"), 32},
		{"LdapModify with a guard", guarded(of(api.LdapModify, "a")), 122},
		{"LdapModify of what is there", with(of(api.LdapModify, "a"), api.Mod{Kind: api.ModAdd, Name: "cn", Values: []string{"a"}}), 20},
		{"LdapModify of what is not there", with(of(api.LdapModify, "a"), api.Mod{Kind: api.ModDelete, Name: "sn"}), 16},
		{"LdapDelete", of(api.LdapDelete, "a"), 53},
		{"LdapDelete of none", of(api.LdapDelete, "c"), 32},
		{"LdapDelete with a guard", guarded(of(api.LdapDelete, "a")), 122},
	}
	for _, c := range cases {
		if got := answer(t, d, c.m); got.Code != c.code || got.Uuid != "" || got.Csn != 0 {
			t.Errorf("%s: %v, want Code %d", c.what, got, c.code)
		}
	}
	a, c := api.Dn{{Type: "cn", Value: "a"}}, api.Dn{{Type: "cn", Value: "c"}}
	for what, no := range map[string][2]api.Errno{
		"Put":          {d.Put(a, nil), api.ErrLong},
		"Put of one":   {d.Put(c, nil), api.ErrLong},
		"Put of none":  {d.Put(nil, nil), api.ErrArg},
		"Drop":         {d.Drop(a), api.ErrLong},
		"Drop of none": {d.Drop(c), api.ErrNone},
		"Drop of no":   {d.Drop(nil), api.ErrArg},
	} {
		if no[0] != no[1] {
			t.Errorf("%s: %v, want %v", what, no[0], no[1])
		}
	}
	if !Same(ahead, d) || d.ever != ahead.ever {
		t.Error("something changed behind the last change")
	}
	// To forget is no change, so it goes.
	if no := d.Forget(); no != api.OK || d.floor != api.MaxNumber {
		t.Errorf("Forget: %v, floor %d", no, d.floor)
	}
}
