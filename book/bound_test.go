package book

import (
	"testing"

	"cardcase/api"
	"cardcase/dav"
)

// As many changes as may be are more than a test can do, so these tests stand in the package and begin near the bound.

const placeA, placeB, placeC = "/book/a", "/book/b", "/book/c"

// nearly makes an address book of two cards, with so many changes left.
func nearly(t *testing.T, left int64) *Book {
	t.Helper()
	b := New()
	for _, href := range []string{placeA, placeB} {
		if no := b.Put(href, "x"); no != api.OK {
			t.Fatalf("Put: %v", no)
		}
	}
	b.changes = api.MaxNumber - left
	return b
}

// reply tells what is answered.
func reply(t *testing.T, b *Book, a api.Ask) api.Reply {
	t.Helper()
	q, no := dav.Request(a)
	if no != api.OK {
		t.Fatalf("Request: %v", no)
	}
	r, no := b.Ask(q)
	if no != api.OK {
		t.Fatalf("Ask: %v", no)
	}
	return r
}

func TestTheLastChange(t *testing.T) { // P14.1
	answered := func(b *Book, a api.Ask, code int, mark string) bool {
		r := reply(t, b, a)
		told, _ := dav.Mark(r)
		return r.Code == code && told == mark
	}
	last := "e2147483647"
	for what, do := range map[string]func(b *Book) bool{
		"AskPut of one": func(b *Book) bool { return answered(b, api.Ask{Kind: api.AskPut, Href: placeC, Card: "y"}, 201, last) },
		"AskPut":        func(b *Book) bool { return answered(b, api.Ask{Kind: api.AskPut, Href: placeA, Card: "y"}, 204, last) },
		"AskDrop":       func(b *Book) bool { return answered(b, api.Ask{Kind: api.AskDrop, Href: placeA}, 204, "") },
		"Put of one":    func(b *Book) bool { return b.Put(placeC, "y") == api.OK },
		"Put":           func(b *Book) bool { return b.Put(placeA, "y") == api.OK },
		"Drop":          func(b *Book) bool { return b.Drop(placeA) == api.OK },
	} {
		b := nearly(t, 1)
		if !do(b) || b.Count() != api.MaxNumber {
			t.Errorf("%s: count %d", what, b.Count())
		}
		m, no := dav.Read(reply(t, b, api.Ask{Kind: api.AskSync, Token: "t2147483646"}))
		if no != api.OK || len(m.Rows) != 1 || m.Token != "t2147483647" {
			t.Errorf("%s, and an AskSync: %v %v", what, m, no)
		}
		m, no = dav.Read(reply(t, b, api.Ask{Kind: api.AskSync, Token: "t2147483647"}))
		if no != api.OK || len(m.Rows) != 0 || m.Token != "t2147483647" {
			t.Errorf("%s, and one AskSync more: %v %v", what, m, no)
		}
	}
}

func TestNoChangeBehindTheLast(t *testing.T) { // P14.1
	b := nearly(t, 0)
	ahead := b.Copy()
	for _, c := range []struct {
		what string
		a    api.Ask
		code int
	}{
		{"AskPut", api.Ask{Kind: api.AskPut, Href: placeA, Card: "y"}, 507},
		{"AskPut of the same card", api.Ask{Kind: api.AskPut, Href: placeA, Card: "x"}, 507},
		{"AskPut under its mark", api.Ask{Kind: api.AskPut, Href: placeA, Card: "y", Only: "e1"}, 507},
		{"AskPut under another mark", api.Ask{Kind: api.AskPut, Href: placeA, Card: "y", Only: "e2"}, 412},
		{"AskPut of a new one where there is one", api.Ask{Kind: api.AskPut, Href: placeA, Card: "y", New: true}, 412},
		{"AskPut of a new one", api.Ask{Kind: api.AskPut, Href: placeC, Card: "y", New: true}, 507},
		{"AskPut of one", api.Ask{Kind: api.AskPut, Href: placeC, Card: "y"}, 507},
		{"AskPut of one under a mark", api.Ask{Kind: api.AskPut, Href: placeC, Card: "y", Only: "e1"}, 412},
		{"AskDrop", api.Ask{Kind: api.AskDrop, Href: placeA}, 507},
		{"AskDrop under its mark", api.Ask{Kind: api.AskDrop, Href: placeA, Only: "e1"}, 507},
		{"AskDrop under another mark", api.Ask{Kind: api.AskDrop, Href: placeA, Only: "e2"}, 412},
		{"AskDrop of none", api.Ask{Kind: api.AskDrop, Href: placeC}, 404},
	} {
		if r := reply(t, b, c.a); r.Code != c.code || len(r.Heads) != 0 || len(r.Body) != 0 {
			t.Errorf("%s: %v, want Code %d", c.what, r, c.code)
		}
	}
	for what, no := range map[string][2]api.Errno{
		"Put":            {b.Put(placeA, "y"), api.ErrLong},
		"Put of one":     {b.Put(placeC, "y"), api.ErrLong},
		"Put at none":    {b.Put("", "y"), api.ErrArg},
		"Put of no card": {b.Put(placeA, ""), api.ErrArg},
		"Drop":           {b.Drop(placeA), api.ErrLong},
		"Drop of none":   {b.Drop(placeC), api.ErrNone},
		"Drop at none":   {b.Drop(""), api.ErrArg},
	} {
		if no[0] != no[1] {
			t.Errorf("%s: %v, want %v", what, no[0], no[1])
		}
	}
	if !Same(ahead, b) {
		t.Error("something changed behind the last change")
	}
	m, no := dav.Read(reply(t, b, api.Ask{Kind: api.AskSync}))
	if no != api.OK || len(m.Rows) != 2 || m.Token != "t2147483647" {
		t.Errorf("AskSync: %v %v", m, no)
	}
	// To forget is no change, so it goes.
	if no := b.Forget(); no != api.OK || b.floor != api.MaxNumber {
		t.Errorf("Forget: %v, floor %d", no, b.floor)
	}
}
