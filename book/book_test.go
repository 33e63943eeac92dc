package book_test

import (
	"bytes"
	"fmt"
	"math/rand"
	"slices"
	"sort"
	"strconv"
	"strings"
	"testing"

	"cardcase/api"
	"cardcase/book"
	"cardcase/dav"
	"cardcase/http"
)

// is fails where an answer is another than the one that is asked for.
func is[T comparable](t *testing.T, what string, got, want T) {
	t.Helper()
	if got != want {
		t.Errorf("%s: %s, want %s", what, short(got), short(want))
	}
}

// short tells something, or how it begins.
func short(x any) string {
	s := fmt.Sprintf("%v", x)
	if len(s) > 800 {
		return fmt.Sprintf("%s .. (%d bytes)", s[:800], len(s))
	}
	return s
}

// at tells the place of that name.
func at(name string) string { return "/book/" + name }

// sync makes something that is asked, and so do those that follow.
func sync(token string) api.Ask { return api.Ask{Kind: api.AskSync, Token: token} }

func cards(hrefs ...string) api.Ask { return api.Ask{Kind: api.AskCards, Hrefs: hrefs} }

func put(href, card string) api.Ask { return api.Ask{Kind: api.AskPut, Href: href, Card: card} }

func putNew(href, card string) api.Ask {
	return api.Ask{Kind: api.AskPut, Href: href, Card: card, New: true}
}

func putOnly(href, card, only string) api.Ask {
	return api.Ask{Kind: api.AskPut, Href: href, Card: card, Only: only}
}

func drop(href string) api.Ask { return api.Ask{Kind: api.AskDrop, Href: href} }

func dropOnly(href, only string) api.Ask {
	return api.Ask{Kind: api.AskDrop, Href: href, Only: only}
}

// request tells something that is asked as a request.
func request(t *testing.T, a api.Ask) api.Request {
	t.Helper()
	q, no := dav.Request(a)
	if no != api.OK {
		t.Fatalf("what is asked, %s: %v", short(a), no)
	}
	return q
}

// plainReply tells all that is in a reply, nil and empty being the same.
func plainReply(r api.Reply) string { return fmt.Sprintf("%d %q %q", r.Code, r.Heads, string(r.Body)) }

// plainKept tells all that is in cards.
func plainKept(l []api.Kept) string {
	var s strings.Builder
	for _, k := range l {
		s.WriteString(fmt.Sprintf("%q %q %d %q\n", k.Href, k.Mark, k.Seq, k.Card))
	}
	return s.String()
}

// code tells a short reply without a mark, marked one with a mark.
func code(n int) api.Reply { return api.Reply{Code: n} }

func marked(n int, mark string) api.Reply {
	return api.Reply{Code: n, Heads: []api.Head{{Name: "etag", Value: `"` + mark + `"`}}}
}

// row makes a row, and so do those that follow.
func row(href, mark string) api.Row { return api.Row{Href: href, Mark: mark} }

func gone(href string) api.Row { return api.Row{Href: href, Gone: true} }

func whole(href, mark, card string) api.Row {
	return api.Row{Href: href, Mark: mark, HasCard: true, Card: card}
}

// asData tells a card's text as it stands in a body.
var asData = strings.NewReplacer("&", "&amp;", "<", "&lt;", ">", "&gt;", "\r", "&#13;")

// told tells the reply of rows, as layer 13's words say.
func told(token string, l ...api.Row) api.Reply {
	var s strings.Builder
	for _, r := range l {
		s.WriteString("<response><href>" + r.Href + "</href>")
		if r.Gone {
			s.WriteString("<status>gone</status>")
		} else {
			s.WriteString("<getetag>" + r.Mark + "</getetag>")
		}
		if r.HasCard {
			s.WriteString(`<address-data xmlns="urn:card">` + asData.Replace(r.Card) + "</address-data>")
		}
		s.WriteString("</response>")
	}
	if token != "" {
		s.WriteString("<sync-token>" + token + "</sync-token>")
	}
	if s.Len() == 0 {
		return api.Reply{Code: 207, Body: []byte(`<multistatus xmlns="DAV:"/>`)}
	}
	return api.Reply{Code: 207, Body: []byte(`<multistatus xmlns="DAV:">` + s.String() + "</multistatus>")}
}

// asks holds what something is answered that is asked.
func asks(t *testing.T, b *book.Book, a api.Ask, want api.Reply) {
	t.Helper()
	got, no := b.Ask(request(t, a))
	is(t, "the error of "+short(a), no, api.OK)
	is(t, short(a), plainReply(got), plainReply(want))
}

// puts, drops and forgets do what people do, and fail where it is refused.
func puts(t *testing.T, b *book.Book, href, card string) {
	t.Helper()
	if no := b.Put(href, card); no != api.OK {
		t.Fatalf("Put at %s: %v", short(href), no)
	}
}

func drops(t *testing.T, b *book.Book, href string) {
	t.Helper()
	if no := b.Drop(href); no != api.OK {
		t.Fatalf("Drop at %s: %v", short(href), no)
	}
}

func forgets(t *testing.T, b *book.Book) {
	t.Helper()
	if no := b.Forget(); no != api.OK {
		t.Fatalf("Forget: %v", no)
	}
}

// stays holds that a call changes nothing of an address book.
func stays(t *testing.T, what string, b *book.Book, call func()) {
	t.Helper()
	ahead, all := b.Copy(), plainKept(b.Cards())
	call()
	if !book.Same(ahead, b) || plainKept(b.Cards()) != all {
		t.Errorf("%s: the address book is another one then", what)
	}
}

// numbered tells the place of that number; they rise with their numbers.
func numbered(i int) string { return at(fmt.Sprintf("%03d", i)) }

// full makes an address book of MaxItems cards, at the places of the numbers from 0 on.
func full(t *testing.T) *book.Book {
	t.Helper()
	b := book.New()
	for i := range api.MaxItems {
		puts(t, b, numbered(i), "x")
	}
	return b
}

func TestExamples(t *testing.T) { // P14.1
	b := book.New()
	asks(t, b, putNew("/book/a", "x"), marked(201, "e1"))
	asks(t, b, putNew("/book/a", "x"), code(412))
	asks(t, b, putOnly("/book/a", "x", "e1"), marked(204, "e2"))
	asks(t, b, sync(""), told("t2", row("/book/a", "e2")))
	asks(t, b, sync("t1"), told("t2", row("/book/a", "e2")))
	asks(t, b, sync("t7"), code(403))
	asks(t, b, dropOnly("/book/a", "e1"), code(412))
	asks(t, b, drop("/book/a"), code(204))
	asks(t, b, sync("t2"), told("t3", gone("/book/a")))
}

func TestNew(t *testing.T) { // P14.1
	b := book.New()
	if b == nil {
		t.Fatal("New: none")
	}
	is(t, "cards", len(b.Cards()), 0)
	is(t, "count", b.Count(), 0)
	asks(t, b, sync(""), told("t0"))
	asks(t, b, sync("t0"), told("t0"))
	asks(t, b, sync("t1"), code(403))
	if book.New() == b {
		t.Error("New tells one twice")
	}
	puts(t, b, at("a"), "x")
	is(t, "cards of another one", len(book.New().Cards()), 0)
}

func TestAskPut(t *testing.T) { // P14.1
	b := book.New()
	asks(t, b, put(at("a"), "x"), marked(201, "e1"))
	asks(t, b, put(at("a"), "y"), marked(204, "e2"))
	asks(t, b, put(at("a"), "y"), marked(204, "e3")) // the same card is a change
	asks(t, b, putNew(at("b"), "z"), marked(201, "e4"))
	asks(t, b, putOnly(at("a"), "w", "e3"), marked(204, "e5"))
	asks(t, b, putNew(at("A"), "great"), marked(201, "e6"))
	is(t, "cards", plainKept(b.Cards()), plainKept([]api.Kept{
		{Href: at("A"), Mark: "e6", Card: "great", Seq: 6},
		{Href: at("a"), Mark: "e5", Card: "w", Seq: 5},
		{Href: at("b"), Mark: "e4", Card: "z", Seq: 4},
	}))
	is(t, "count", b.Count(), 6)
	drops(t, b, at("a"))
	asks(t, b, putNew(at("a"), "again"), marked(201, "e8"))
	drops(t, b, at("a"))
	asks(t, b, put(at("a"), "again"), marked(201, "e10"))
}

func TestAskPutUnderAGuard(t *testing.T) { // P14.1
	b := book.New()
	asks(t, b, put(at("a"), "x"), marked(201, "e1"))
	asks(t, b, put(at("b"), "x"), marked(201, "e2"))
	asks(t, b, put(at("c"), "x"), marked(201, "e3"))
	asks(t, b, drop(at("c")), code(204))
	stays(t, "guards that refuse", b, func() {
		asks(t, b, putNew(at("a"), "y"), code(412))
		asks(t, b, putNew(at("b"), "x"), code(412))
		for _, mark := range []string{"e2", "e0", "e4", "e01", "E1", "e", "1", "t1", "e11", "x", "e-1"} {
			asks(t, b, putOnly(at("a"), "y", mark), code(412))
		}
		// Of a place without a card no mark is its own, neither that of the one that is gone nor that of the count.
		for _, mark := range []string{"e1", "e2", "e3", "e4", "e5", "e0"} {
			asks(t, b, putOnly(at("c"), "y", mark), code(412))
			asks(t, b, putOnly(at("d"), "y", mark), code(412))
		}
	})
	asks(t, b, putOnly(at("a"), "y", "e1"), marked(204, "e5"))
	asks(t, b, putOnly(at("a"), "y", "e1"), code(412))
	asks(t, b, putOnly(at("a"), "y", "e5"), marked(204, "e6"))
	asks(t, b, putOnly(at("b"), "y", "e2"), marked(204, "e7"))
	asks(t, b, putNew(at("c"), "y"), marked(201, "e8"))
}

func TestAskDrop(t *testing.T) { // P14.1
	b := book.New()
	for _, name := range []string{"a", "b", "c", "d"} {
		puts(t, b, at(name), name)
	}
	stays(t, "what is refused", b, func() {
		asks(t, b, drop(at("x")), code(404))
		asks(t, b, drop(at("A")), code(404))
		// That there is none counts ahead of a guard.
		asks(t, b, dropOnly(at("x"), "e1"), code(404))
		for _, mark := range []string{"e2", "e0", "e01", "E1", "e", "1", "t1", "e4", "e5"} {
			asks(t, b, dropOnly(at("a"), mark), code(412))
		}
	})
	asks(t, b, dropOnly(at("b"), "e2"), code(204))
	asks(t, b, drop(at("c")), code(204))
	asks(t, b, drop(at("c")), code(404))
	asks(t, b, dropOnly(at("b"), "e2"), code(404))
	is(t, "count", b.Count(), 6)
	is(t, "cards", plainKept(b.Cards()), plainKept([]api.Kept{
		{Href: at("a"), Mark: "e1", Card: "a", Seq: 1},
		{Href: at("d"), Mark: "e4", Card: "d", Seq: 4},
	}))
	asks(t, b, sync("t4"), told("t6", gone(at("b")), gone(at("c"))))
	asks(t, b, sync("t5"), told("t6", gone(at("c"))))
	asks(t, b, sync("t6"), told("t6"))
}

func TestAskSync(t *testing.T) { // P14.1
	b := book.New()
	for _, name := range []string{"b", "a", "c"} { // e1, e2, e3
		puts(t, b, at(name), name)
	}
	drops(t, b, at("c"))       // 4
	puts(t, b, at("b"), "b2")  // e5
	puts(t, b, at("d"), "d")   // e6
	drops(t, b, at("d"))       // 7
	puts(t, b, at("c"), "c2")  // e8: it was gone
	puts(t, b, at("0"), "new") // e9
	drops(t, b, at("0"))       // 10
	puts(t, b, at("0"), "two") // e11
	drops(t, b, at("0"))       // 12: it went twice
	a2, b5, c8 := row(at("a"), "e2"), row(at("b"), "e5"), row(at("c"), "e8")
	gone0, goneD := gone(at("0")), gone(at("d"))
	for token, rows := range map[string][]api.Row{
		"":    {a2, b5, c8},
		"t0":  {gone0, a2, b5, c8, goneD},
		"t1":  {gone0, a2, b5, c8, goneD},
		"t2":  {gone0, b5, c8, goneD},
		"t3":  {gone0, b5, c8, goneD},
		"t4":  {gone0, b5, c8, goneD},
		"t5":  {gone0, c8, goneD},
		"t6":  {gone0, c8, goneD},
		"t7":  {gone0, c8},
		"t8":  {gone0},
		"t9":  {gone0},
		"t10": {gone0},
		"t11": {gone0},
		"t12": nil,
	} {
		stays(t, "what is told", b, func() { asks(t, b, sync(token), told("t12", rows...)) })
	}
}

func TestTokensThatAreNotKnown(t *testing.T) { // P14.1
	b := book.New()
	for range 12 {
		puts(t, b, at("a"), "x")
	}
	stays(t, "what is refused", b, func() {
		for _, token := range []string{
			"t13", "t14", "t99", "t120", "t2147483647", "t2147483648", "t4294967297", "t9223372036854775807", "t9223372036854775808", "t18446744073709551617", "t99999999999999999999999",
			"t-1", "t-0", "t00", "t01", "t012", "t", "tt1", "T1", "e1", "c1", "1", "12", "0", "-1", "x", "t1x", "t1.0", "t1_0", "t0x1", "t1e1", "xt1", "t1-", strings.Repeat("9", 64), "t" + strings.Repeat("0", 62) + "1",
		} {
			asks(t, b, sync(token), code(403))
		}
	})
	for n := range 13 {
		want := told("t12", row(at("a"), "e12"))
		if n == 12 {
			want = told("t12")
		}
		asks(t, b, sync("t"+strconv.Itoa(n)), want)
	}
}

func TestForget(t *testing.T) { // P14.1
	b := book.New()
	puts(t, b, at("a"), "x")
	puts(t, b, at("b"), "x")
	drops(t, b, at("a"))
	asks(t, b, sync("t0"), told("t3", gone(at("a")), row(at("b"), "e2")))
	is(t, "Forget", b.Forget(), api.OK)
	for _, token := range []string{"t0", "t1", "t2", "t4"} {
		asks(t, b, sync(token), code(403))
	}
	asks(t, b, sync("t3"), told("t3"))
	asks(t, b, sync(""), told("t3", row(at("b"), "e2")))
	is(t, "count", b.Count(), 3)
	is(t, "cards", plainKept(b.Cards()), plainKept([]api.Kept{{Href: at("b"), Mark: "e2", Card: "x", Seq: 2}}))
	// What goes behind it is told, and no mark comes again.
	asks(t, b, putNew(at("a"), "y"), marked(201, "e4"))
	drops(t, b, at("b"))
	asks(t, b, sync("t3"), told("t5", row(at("a"), "e4"), gone(at("b"))))
	asks(t, b, sync("t4"), told("t5", gone(at("b"))))
	asks(t, b, sync("t2"), code(403))
	forgets(t, b)
	stays(t, "to forget again", b, func() { forgets(t, b) })
	asks(t, b, sync("t4"), code(403))
	asks(t, b, sync("t5"), told("t5"))
}

func TestASyncOfTooMany(t *testing.T) { // P14.1
	b := full(t)
	var rows []api.Row
	for i := range api.MaxItems {
		rows = append(rows, row(numbered(i), fmt.Sprintf("e%d", i+1)))
	}
	asks(t, b, sync(""), told("t64", rows...))
	asks(t, b, sync("t0"), told("t64", rows...))
	// One is gone: still so many rows, of those that there ever were.
	drops(t, b, numbered(9))
	rows[9] = gone(numbered(9))
	asks(t, b, sync("t0"), told("t65", rows...))
	asks(t, b, sync(""), told("t65", slices.Delete(slices.Clone(rows), 9, 10)...))
	// A place that has a card again is one row, as is one that is gone twice.
	puts(t, b, numbered(9), "y")
	rows[9] = row(numbered(9), "e66")
	asks(t, b, sync("t0"), told("t66", rows...))
	drops(t, b, numbered(9))
	rows[9] = gone(numbered(9))
	asks(t, b, sync("t0"), told("t67", rows...))
	// One more is too many, but of the tokens that tell less.
	puts(t, b, at("new"), "x")
	asks(t, b, sync("t0"), code(507))
	asks(t, b, sync("t1"), told("t68", append(slices.Clone(rows[1:]), row(at("new"), "e68"))...))
	asks(t, b, sync("t70"), code(403))
	asks(t, b, sync("t66"), told("t68", gone(numbered(9)), row(at("new"), "e68")))
	asks(t, b, sync(""), told("t68", append(slices.Delete(slices.Clone(rows), 9, 10), row(at("new"), "e68"))...))
	// Those that are gone may be too many on their own.
	for i := range api.MaxItems {
		if i != 9 {
			drops(t, b, numbered(i))
		}
	}
	asks(t, b, sync("t0"), code(507))
	drops(t, b, at("new"))
	asks(t, b, sync("t0"), code(507))
	asks(t, b, sync("t66"), code(507))
	asks(t, b, sync("t68"), told("t132", func() []api.Row {
		var l []api.Row
		for i := range api.MaxItems {
			if i != 9 {
				l = append(l, gone(numbered(i)))
			}
		}
		return append(l, gone(at("new")))
	}()...))
	asks(t, b, sync(""), told("t132"))
}

func TestAskCards(t *testing.T) { // P14.1
	b := book.New()
	puts(t, b, at("a"), "x")
	puts(t, b, at("b"), "1 < 2 & 3 > 2\r\n\t\"'\xff")
	puts(t, b, at("c"), "z")
	puts(t, b, at("a"), "y")
	drops(t, b, at("c"))
	stays(t, "what is told", b, func() {
		asks(t, b, cards(at("a")), told("", whole(at("a"), "e4", "y")))
		asks(t, b, cards(at("b")), told("", whole(at("b"), "e2", "1 < 2 & 3 > 2\r\n\t\"'\xff")))
		asks(t, b, cards(at("c")), told("", gone(at("c"))))
		asks(t, b, cards(at("never")), told("", gone(at("never"))))
		asks(t, b, cards(at("0"), at("A"), at("a"), at("aa"), at("b"), at("c")),
			told("", gone(at("0")), gone(at("A")), whole(at("a"), "e4", "y"), gone(at("aa")), whole(at("b"), "e2", "1 < 2 & 3 > 2\r\n\t\"'\xff"), gone(at("c"))))
	})
	// What is forgotten is gone no less.
	forgets(t, b)
	asks(t, b, cards(at("a"), at("c")), told("", whole(at("a"), "e4", "y"), gone(at("c"))))
	// In whatever order they are asked for, they are told by rising places.
	r, no := b.Ask(api.Request{Method: "REPORT", Path: "/book/", Body: []byte(`<addressbook-multiget xmlns="urn:card"><href xmlns="DAV:">/book/b</href><href xmlns="DAV:">/book/0</href><href xmlns="DAV:">/book/a</href></addressbook-multiget>`)})
	is(t, "Ask", no, api.OK)
	is(t, "in order", plainReply(r), plainReply(told("", gone(at("0")), whole(at("a"), "e4", "y"), whole(at("b"), "e2", "1 < 2 & 3 > 2\r\n\t\"'\xff"))))
}

func TestAskCardsOfAll(t *testing.T) { // P14.1
	b := full(t)
	var hrefs []string
	var rows []api.Row
	for i := range api.MaxItems {
		hrefs = append(hrefs, numbered(i))
		rows = append(rows, whole(numbered(i), fmt.Sprintf("e%d", i+1), "x"))
	}
	asks(t, b, cards(hrefs...), told("", rows...))
	q := request(t, cards(hrefs...))
	q.Body = bytes.Replace(q.Body, []byte("</addressbook-multiget>"), []byte(`<href xmlns="DAV:">/book/x</href></addressbook-multiget>`), 1)
	r, no := b.Ask(q)
	is(t, "Ask", no, api.OK)
	is(t, "one more", plainReply(r), plainReply(code(400)))
}

func TestCardsThatAreTooLong(t *testing.T) { // P14.1
	b := book.New()
	last := strings.Repeat("x", api.MaxCard)
	for i, name := range []string{"a", "b", "c", "d"} {
		puts(t, b, at(name), last)
		is(t, "count", b.Count(), int64(i+1))
	}
	asks(t, b, cards(at("a"), at("b"), at("c")), told("", whole(at("a"), "e1", last), whole(at("b"), "e2", last), whole(at("c"), "e3", last)))
	stays(t, "what is refused", b, func() {
		asks(t, b, cards(at("a"), at("b"), at("c"), at("d")), code(507))
		asks(t, b, cards(at("a"), at("b"), at("c"), at("d"), at("e")), code(507))
	})
	// Just so long as a body may be, and one byte more.
	rows := func(n int) []api.Row {
		return []api.Row{whole(at("a"), "e1", last), whole(at("b"), "e2", last), whole(at("c"), "e3", last), whole(at("d"), "e5", strings.Repeat("x", n))}
	}
	n := 60000 - len(told("", rows(0)...).Body)
	puts(t, b, at("d"), strings.Repeat("x", n))
	is(t, "bytes", len(told("", rows(n)...).Body), 60000)
	asks(t, b, cards(at("a"), at("b"), at("c"), at("d")), told("", rows(n)...))
	puts(t, b, at("d"), strings.Repeat("x", n+1))
	asks(t, b, cards(at("a"), at("b"), at("c"), at("d")), code(507))
	asks(t, b, cards(at("a"), at("b"), at("d")), told("", whole(at("a"), "e1", last), whole(at("b"), "e2", last), whole(at("d"), "e6", strings.Repeat("x", n+1))))
	// One alone may be too long, by how its bytes are told, and is told by its mark no less.
	puts(t, b, at("e"), strings.Repeat("&", api.MaxCard))
	asks(t, b, cards(at("e")), code(507))
	asks(t, b, cards(at("0"), at("e")), code(507))
	asks(t, b, sync("t6"), told("t7", row(at("e"), "e7")))
}

func TestARequestThatAsksNothing(t *testing.T) { // P14.1
	b := full(t)
	drops(t, b, numbered(3))
	book0, one := "/book/", numbered(0)
	heads := func(l ...string) []api.Head {
		var all []api.Head
		for i := 0; i < len(l); i += 2 {
			all = append(all, api.Head{Name: l[i], Value: l[i+1]})
		}
		return all
	}
	stays(t, "what asks nothing", b, func() {
		for _, q := range []api.Request{
			{Method: "GET", Path: book0},
			{Method: "GET", Path: one},
			{Method: "POST", Path: one, Body: []byte("x")},
			{Method: "PROPFIND", Path: book0},
			{Method: "REPORT", Path: book0},
			{Method: "REPORT", Path: book0, Body: []byte("x")},
			{Method: "REPORT", Path: one, Body: request(t, sync("")).Body},
			{Method: "REPORT", Path: "/", Body: request(t, sync("")).Body},
			{Method: "REPORT", Path: book0, Body: []byte(`<sync-collection xmlns="DAV:"/>`)},
			{Method: "REPORT", Path: book0, Body: []byte(`<sync-collection xmlns="DAV:"><sync-token>t 1</sync-token></sync-collection>`)},
			{Method: "REPORT", Path: book0, Body: []byte(`<sync-collection xmlns="DAV:"><sync-token>` + strings.Repeat("t", 65) + `</sync-token></sync-collection>`)},
			{Method: "REPORT", Path: book0, Body: []byte(`<addressbook-multiget xmlns="urn:card"/>`)},
			{Method: "REPORT", Path: book0, Body: []byte(`<addressbook-multiget xmlns="urn:card"><href xmlns="DAV:">/book/</href></addressbook-multiget>`)},
			{Method: "REPORT", Path: book0, Body: []byte(`<addressbook-multiget xmlns="urn:card"><href xmlns="DAV:">/book/a</href><href xmlns="DAV:">/book/a</href></addressbook-multiget>`)},
			{Method: "REPORT", Path: book0, Body: []byte(`<multistatus xmlns="DAV:"/>`)},
			{Method: "PUT", Path: book0, Body: []byte("x")},
			{Method: "PUT", Path: "/a", Body: []byte("x")},
			{Method: "PUT", Path: one},
			{Method: "PUT", Path: one, Body: []byte("a\x00")},
			{Method: "PUT", Path: one, Body: bytes.Repeat([]byte("x"), api.MaxCard+1)},
			{Method: "PUT", Path: one, Body: []byte("x"), Heads: heads("if-match", `e1`)},
			{Method: "PUT", Path: one, Body: []byte("x"), Heads: heads("if-match", `*`)},
			{Method: "PUT", Path: one, Body: []byte("x"), Heads: heads("if-match", `""`)},
			{Method: "PUT", Path: numbered(3), Body: []byte("x"), Heads: heads("if-none-match", `"e1"`)},
			{Method: "PUT", Path: one, Body: []byte("x"), Heads: heads("if-match", `"e1"`, "if-none-match", "*")},
			{Method: "DELETE", Path: book0},
			{Method: "DELETE", Path: one, Body: []byte("x")},
			{Method: "DELETE", Path: one, Heads: heads("if-match", `e1`)},
			{Method: "DELETE", Path: one, Heads: heads("if-none-match", "*")},
		} {
			got, no := b.Ask(q)
			is(t, "the error of "+short(q), no, api.OK)
			is(t, short(q), plainReply(got), plainReply(code(400)))
		}
	})
}

func TestARequestThatMayNotBe(t *testing.T) { // P14.1
	b := full(t)
	many := make([]api.Head, 17)
	for i := range many {
		many[i] = api.Head{Name: "x" + string(rune('a'+i)), Value: "y"}
	}
	with := func(l ...api.Head) api.Request {
		return api.Request{Method: "PUT", Path: numbered(0), Heads: l, Body: []byte("x")}
	}
	stays(t, "what may not be", b, func() {
		for _, q := range []api.Request{
			{},
			{Method: "PUT"},
			{Path: numbered(0)},
			{Method: "PUT ", Path: numbered(0), Body: []byte("x")},
			{Method: "Put", Path: numbered(0), Body: []byte("x")},
			{Method: strings.Repeat("P", 21), Path: numbered(0)},
			{Method: "PUT", Path: "book/a", Body: []byte("x")},
			{Method: "PUT", Path: "/book/a b", Body: []byte("x")},
			{Method: "PUT", Path: "/book/\xc4", Body: []byte("x")},
			{Method: "PUT", Path: "/book/" + strings.Repeat("a", 195), Body: []byte("x")},
			{Method: "PUT", Path: numbered(0), Body: bytes.Repeat([]byte("x"), 60001)},
			{Method: "PUT", Path: numbered(0), Body: bytes.Repeat([]byte("x"), 1<<20)},
			with(api.Head{Name: "If-Match", Value: `"e1"`}),
			with(api.Head{Name: "content-length", Value: "1"}),
			with(api.Head{Name: "x", Value: " y"}),
			with(api.Head{Name: "x", Value: strings.Repeat("y", 201)}),
			with(api.Head{Name: "", Value: "y"}),
			with(api.Head{Name: "y"}, api.Head{Name: "x"}),
			with(api.Head{Name: "x"}, api.Head{Name: "x"}),
			with(many...),
		} {
			got, no := b.Ask(q)
			is(t, "Ask of "+short(q), no, api.ErrArg)
			is(t, "beside the error", got.Code == 0 && got.Heads == nil && got.Body == nil, true)
		}
	})
	got, no := b.Ask(with(many[:16]...))
	is(t, "Ask", no, api.OK)
	is(t, "other heads", plainReply(got), plainReply(marked(204, "e65")))
}

// sized tells the bytes of a message with a body, of which its head content-length tells how long it is.
func sized(ahead, body string) string {
	return ahead + "\r\ncontent-length: " + strconv.Itoa(len(body)) + "\r\n\r\n" + body
}

func TestBytes(t *testing.T) { // P14.1
	b := book.New()
	for _, c := range [][2]string{
		{sized("REPORT /book/ HTTP/1.1", `<sync-collection xmlns="DAV:"><sync-token/></sync-collection>`),
			sized("HTTP/1.1 207", `<multistatus xmlns="DAV:"><sync-token>t0</sync-token></multistatus>`)},
		{"PUT /book/a HTTP/1.1\r\nif-none-match: *\r\ncontent-length: 1\r\n\r\nx", "HTTP/1.1 201\r\netag: \"e1\"\r\ncontent-length: 0\r\n\r\n"},
		{"PUT /book/a HTTP/1.1\r\nIf-None-Match:*\r\nContent-Length: 1\r\n\r\nx", "HTTP/1.1 412\r\ncontent-length: 0\r\n\r\n"},
		{"PUT /book/a HTTP/1.1\r\nIF-MATCH: \t\"e1\" \r\nHost: x\r\ntransfer-encoding: Chunked\r\n\r\n1\r\ny\r\n02\r\nzw\r\n0\r\n\r\n", "HTTP/1.1 204\r\netag: \"e2\"\r\ncontent-length: 0\r\n\r\n"},
		{sized("REPORT /book/ HTTP/1.1", "<?xml?>\n"+`<a:addressbook-multiget xmlns:a='urn:card' xmlns='DAV:'><href>/book/a</href></a:addressbook-multiget>`+"\n"),
			sized("HTTP/1.1 207", `<multistatus xmlns="DAV:"><response><href>/book/a</href><getetag>e2</getetag><address-data xmlns="urn:card">yzw</address-data></response></multistatus>`)},
		{"DELETE /book/b HTTP/1.1\r\n\r\n", "HTTP/1.1 404\r\ncontent-length: 0\r\n\r\n"},
		{"DELETE /book/a HTTP/1.1\r\nif-match: \"e1\"\r\n\r\n", "HTTP/1.1 412\r\ncontent-length: 0\r\n\r\n"},
		{"DELETE /book/a HTTP/1.1\r\nif-match: \"e2\"\r\n\r\n", "HTTP/1.1 204\r\ncontent-length: 0\r\n\r\n"},
		{sized("REPORT /book/ HTTP/1.1", `<sync-collection xmlns="DAV:"><sync-token>t2</sync-token></sync-collection>`),
			sized("HTTP/1.1 207", `<multistatus xmlns="DAV:"><response><href>/book/a</href><status>gone</status></response><sync-token>t3</sync-token></multistatus>`)},
		{sized("REPORT /book/ HTTP/1.1", `<sync-collection xmlns="DAV:"><sync-token>t4</sync-token></sync-collection>`), "HTTP/1.1 403\r\ncontent-length: 0\r\n\r\n"},
		{"GET /book/a HTTP/1.1\r\n\r\n", "HTTP/1.1 400\r\ncontent-length: 0\r\n\r\n"},
	} {
		got, no := b.Bytes([]byte(c[0]))
		is(t, "the error of "+c[0], no, api.OK)
		is(t, "Bytes of "+c[0], string(got), c[1])
	}
	is(t, "count", b.Count(), 3)
}

func TestBytesThatAreNoRequest(t *testing.T) { // P14.1
	b := full(t)
	good, no := http.Request(request(t, put(numbered(0), "card")))
	is(t, "http.Request", no, api.OK)
	stays(t, "what is no request", b, func() {
		for _, q := range [][]byte{
			nil, {}, []byte("x"), []byte("\r\n\r\n"), []byte("PUT /book/a\r\n\r\n"), []byte("put /book/a HTTP/1.1\r\n\r\n"), []byte("HTTP/1.1 200\r\n\r\n"),
			good[4:], slices.Concat([]byte(" "), good), good[:len(good)-1], append(slices.Clone(good), 'x'), append(slices.Clone(good), good...), bytes.Replace(good, []byte("1.1"), []byte("1.0"), 1),
			[]byte("PUT /book/000 HTTP/1.1\r\ncontent-length: 01\r\n\r\nx"), []byte("PUT /book/000 HTTP/1.1\r\n\r\nx"), []byte("PUT /book/000 HTTP/1.1\ncontent-length: 1\n\nx"),
			bytes.Repeat([]byte("x"), 1<<20),
		} {
			got, no := b.Bytes(q)
			is(t, "Bytes of "+short(q), no, api.ErrHttp)
			is(t, "beside the error", got == nil, true)
		}
	})
	for i := range good {
		_, want := http.ReadRequest(good[:i])
		_, no := b.Bytes(good[:i])
		is(t, "a part of a request", no, want)
	}
	got, no := b.Bytes(good)
	is(t, "all of it", no, api.OK)
	is(t, "all of it", string(got), "HTTP/1.1 204\r\netag: \"e65\"\r\ncontent-length: 0\r\n\r\n")
}

func TestBytesOfALongAnswer(t *testing.T) { // P14.1
	b := book.New()
	long := strings.Repeat("x", api.MaxCard)
	for _, name := range []string{"a", "b", "c", "d"} {
		puts(t, b, at(name), long)
	}
	asked := func(hrefs ...string) []byte {
		q, no := http.Request(request(t, cards(hrefs...)))
		is(t, "http.Request", no, api.OK)
		got, no := b.Bytes(q)
		is(t, "Bytes", no, api.OK)
		return got
	}
	want, no := http.Reply(told("", whole(at("a"), "e1", long), whole(at("b"), "e2", long), whole(at("c"), "e3", long)))
	is(t, "http.Reply", no, api.OK)
	is(t, "three", string(asked(at("a"), at("b"), at("c"))), string(want))
	is(t, "four", string(asked(at("a"), at("b"), at("c"), at("d"))), "HTTP/1.1 507\r\ncontent-length: 0\r\n\r\n")
}

func TestPutAndDrop(t *testing.T) { // P14.1
	b := book.New()
	is(t, "Put", b.Put(at("a"), "x"), api.OK)
	is(t, "Put of another", b.Put(at("a"), "y"), api.OK)
	is(t, "Put of the same", b.Put(at("a"), "y"), api.OK)
	is(t, "Put", b.Put(at("b"), "z"), api.OK)
	is(t, "cards", plainKept(b.Cards()), plainKept([]api.Kept{{Href: at("a"), Mark: "e3", Card: "y", Seq: 3}, {Href: at("b"), Mark: "e4", Card: "z", Seq: 4}}))
	asks(t, b, sync("t3"), told("t4", row(at("b"), "e4")))
	is(t, "Drop of none", b.Drop(at("c")), api.ErrNone)
	is(t, "Drop", b.Drop(at("a")), api.OK)
	is(t, "Drop of one that is gone", b.Drop(at("a")), api.ErrNone)
	is(t, "count", b.Count(), 5)
	asks(t, b, sync("t4"), told("t5", gone(at("a"))))
	asks(t, b, put(at("a"), "w"), marked(201, "e6"))
	is(t, "Drop", b.Drop(at("a")), api.OK)
	is(t, "Drop", b.Drop(at("b")), api.OK)
	is(t, "cards", len(b.Cards()), 0)
	is(t, "count", b.Count(), 8)
}

// noPlaces are texts that are no places, noCards such that are no card's.
func noPlaces() []string {
	l := []string{"", "/", "/book", "/book/", "book/a", "/Book/a", "/book/a/", "/book//a", " /book/a", "/book/a ", "/book/a b", "/book/a\n", "/book/\xc4", "/book/é", "/book/" + strings.Repeat("a", 65), strings.Repeat("/book/a", 1<<17)}
	for c := range 256 {
		letter := c >= 'a' && c <= 'z' || c >= 'A' && c <= 'Z' || c >= '0' && c <= '9'
		if !letter && !strings.ContainsRune("-._", rune(c)) {
			l = append(l, "/book/a"+string([]byte{byte(c)}))
		}
	}
	return l
}

func noCards() []string {
	l := []string{"", strings.Repeat("x", api.MaxCard+1), strings.Repeat("x", 1<<20)}
	for c := range 32 {
		if c != 9 && c != 10 && c != 13 {
			l = append(l, "x"+string(rune(c))+"y", string(rune(c)))
		}
	}
	return l
}

func TestWhatMayNotBePutOrDropped(t *testing.T) { // P14.1
	for _, b := range []*book.Book{book.New(), full(t)} {
		stays(t, "what is refused", b, func() {
			for _, href := range noPlaces() {
				is(t, "Put at "+short(href), b.Put(href, "x"), api.ErrArg)
				is(t, "Drop at "+short(href), b.Drop(href), api.ErrArg)
			}
			for _, card := range noCards() {
				is(t, "Put of "+short(card), b.Put(numbered(0), card), api.ErrArg)
				// That counts ahead of that there is no room.
				is(t, "Put of "+short(card), b.Put(at("x"), card), api.ErrArg)
			}
			is(t, "Drop of none", b.Drop(at("x")), api.ErrNone)
		})
	}
	b := book.New()
	every := "\t\n\r"
	for c := 32; c < 256; c++ {
		every += string([]byte{byte(c)})
	}
	letters := "abcdefghijklmnopqrstuvwxyzABCDEFGHIJKLMNOPQRSTUVWXYZ0123456789-._"
	is(t, "a card at its bound", b.Put(at(strings.Repeat("a", 64)), strings.Repeat("x", api.MaxCard)), api.OK)
	is(t, "each byte of a card", b.Put(at("a"), every), api.OK)
	is(t, "each letter of a place", b.Put(at(letters[:40]), "x"), api.OK)
	is(t, "each letter of a place", b.Put(at(letters[40:]), "x"), api.OK)
	asks(t, b, cards(at("a")), told("", whole(at("a"), "e2", every)))
	is(t, "Drop", b.Drop(at(letters[:40])), api.OK)
	is(t, "Drop", b.Drop(at(letters[40:])), api.OK)
	is(t, "Drop", b.Drop(at(strings.Repeat("a", 64))), api.OK)
}

func TestFull(t *testing.T) { // P14.1
	b := full(t)
	is(t, "cards", len(b.Cards()), api.MaxItems)
	stays(t, "one more", b, func() {
		asks(t, b, put(at("x"), "x"), code(507))
		asks(t, b, putNew(at("x"), "x"), code(507))
		is(t, "Put", b.Put(at("x"), "x"), api.ErrLong)
		// Guards count ahead of that.
		asks(t, b, putOnly(at("x"), "x", "e1"), code(412))
		asks(t, b, putNew(numbered(0), "x"), code(412))
		asks(t, b, putOnly(numbered(0), "x", "e2"), code(412))
		is(t, "Drop", b.Drop(at("x")), api.ErrNone)
		asks(t, b, drop(at("x")), code(404))
	})
	asks(t, b, put(numbered(5), "y"), marked(204, "e65"))
	asks(t, b, putOnly(numbered(6), "y", "e7"), marked(204, "e66"))
	is(t, "Put of another card", b.Put(numbered(7), "y"), api.OK)
	is(t, "count", b.Count(), 67)
	asks(t, b, drop(numbered(5)), code(204))
	asks(t, b, putNew(at("x"), "x"), marked(201, "e69"))
	asks(t, b, putNew(numbered(5), "x"), code(507))
	drops(t, b, at("x"))
	puts(t, b, numbered(5), "x")
	is(t, "Put", b.Put(at("x"), "x"), api.ErrLong)
	is(t, "cards", len(b.Cards()), api.MaxItems)
	// What is gone takes no room.
	for i := range 3 * api.MaxItems {
		drops(t, b, numbered(5))
		puts(t, b, numbered(5), strconv.Itoa(i))
	}
	asks(t, b, sync("t71"), told("t455", row(numbered(5), "e455")))
}

func TestCards(t *testing.T) { // P14.2
	names := []string{"b", "B", "a.b", "a-b", "a", "_", "9", "10", "aa", "Z", "z", ".", "-"}
	b := book.New()
	var want []api.Kept
	for i, name := range names {
		puts(t, b, at(name), name)
		want = append(want, api.Kept{Href: at(name), Mark: fmt.Sprintf("e%d", i+1), Card: name, Seq: int64(i + 1)})
	}
	sort.Slice(want, func(i, j int) bool { return want[i].Href < want[j].Href })
	for range 20 {
		is(t, "cards", plainKept(b.Cards()), plainKept(want))
	}
	drops(t, b, at("a"))
	want = slices.DeleteFunc(want, func(k api.Kept) bool { return k.Href == at("a") })
	is(t, "cards", plainKept(b.Cards()), plainKept(want))
}

func TestFind(t *testing.T) { // P14.2
	b := book.New()
	puts(t, b, at("a"), "x")
	puts(t, b, at("b"), "y")
	puts(t, b, at("a"), "z")
	k, there := b.Find(at("a"))
	is(t, "there", there, true)
	is(t, "the card", k, api.Kept{Href: at("a"), Mark: "e3", Card: "z", Seq: 3})
	k, there = b.Find(at("b"))
	is(t, "there", there, true)
	is(t, "the card", k, api.Kept{Href: at("b"), Mark: "e2", Card: "y", Seq: 2})
	drops(t, b, at("b"))
	stays(t, "Find", b, func() {
		for _, href := range append(noPlaces(), at("b"), at("c"), at("A"), at("aa"), "a") {
			k, there := b.Find(href)
			is(t, "Find of "+short(href), there, false)
			is(t, "beside it", k, api.Kept{})
		}
	})
}

func TestCount(t *testing.T) { // P14.2
	b := book.New()
	for i, change := range []func(){
		func() { puts(t, b, at("a"), "x") },
		func() { puts(t, b, at("a"), "x") },
		func() { asks(t, b, putNew(at("b"), "x"), marked(201, "e3")) },
		func() { drops(t, b, at("a")) },
		func() { asks(t, b, drop(at("b")), code(204)) },
	} {
		change()
		is(t, "count", b.Count(), int64(i+1))
		is(t, "of the copy", b.Copy().Count(), int64(i+1))
	}
	forgets(t, b)
	is(t, "to forget is no change", b.Count(), 5)
}

// deeds are what may be done to an address book with cards at a, b and e.
func deeds(t *testing.T) []func(b *book.Book) {
	t.Helper()
	asked := func(a api.Ask) func(b *book.Book) {
		q := request(t, a)
		return func(b *book.Book) { b.Ask(q) }
	}
	return []func(b *book.Book){
		asked(putNew(at("d"), "new")),
		asked(put(at("a"), "other")),
		asked(drop(at("a"))),
		func(b *book.Book) { b.Put(at("a"), "w") },
		func(b *book.Book) { b.Put(at("d"), "w") },
		func(b *book.Book) { b.Drop(at("b")) },
		func(b *book.Book) { b.Forget() },
	}
}

// all tells all that can be seen of an address book.
func all(t *testing.T, b *book.Book) string {
	t.Helper()
	s := plainKept(b.Cards()) + strconv.FormatInt(b.Count(), 10)
	for n := range b.Count() + 2 {
		r, no := b.Ask(request(t, sync(fmt.Sprintf("t%d", n))))
		s += fmt.Sprintf("\nt%d %v %s", n, no, plainReply(r))
	}
	return s
}

func TestCopyGoesOnApart(t *testing.T) { // P14.2
	b := book.New()
	for _, name := range []string{"a", "b", "e"} {
		puts(t, b, at(name), "x")
	}
	for range 3 {
		puts(t, b, at("c"), "x")
		drops(t, b, at("c"))
	}
	do := deeds(t)
	for i, first := range do {
		for j, second := range do {
			other := b.Copy()
			is(t, "a copy", book.Same(b, other) && book.Same(other, b), true)
			is(t, "a copy", all(t, other), all(t, b))
			ahead := all(t, b)
			first(other)
			is(t, "the first, when the copy went on", all(t, b), ahead)
			is(t, "they are the same then", book.Same(b, other), false)
			// Both go on from there, and each is what it was done to alone.
			third := other.Copy()
			behind := all(t, third)
			second(other)
			is(t, fmt.Sprintf("deed %d, then %d", i, j), all(t, third), behind)
			behind = all(t, other)
			first(third)
			third.Drop(at("e"))
			is(t, fmt.Sprintf("deed %d, then %d, and one of another", i, j), all(t, other), behind)
			second(b.Copy())
			is(t, "the first, when copies of it went on", all(t, b), ahead)
		}
	}
}

func TestACopyOfANewOne(t *testing.T) { // P14.2
	b := book.New().Copy()
	is(t, "Same", book.Same(b, book.New()), true)
	is(t, "Put", b.Put(at("a"), "x"), api.OK)
	asks(t, b, sync(""), told("t1", row(at("a"), "e1")))
	asks(t, b.Copy(), putNew(at("b"), "x"), marked(201, "e2"))
}

func TestSame(t *testing.T) { // P14.2
	type deed = func(b *book.Book)
	made := func(do ...deed) *book.Book {
		b := book.New()
		for _, one := range do {
			one(b)
		}
		return b
	}
	with := func(name, card string) deed { return func(b *book.Book) { puts(t, b, at(name), card) } }
	less := func(name string) deed { return func(b *book.Book) { drops(t, b, at(name)) } }
	forget := func(b *book.Book) { forgets(t, b) }
	a, b := with("a", "x"), with("b", "x")
	unlike := []*book.Book{
		nil,
		made(),
		made(a),
		made(b),
		made(with("A", "x")),
		made(with("a", "X")),
		made(with("a", "xx")),
		made(a, a),
		made(a, forget),
		made(a, b),
		made(b, a),
		made(a, less("a")),
		made(b, less("b")),
		made(a, less("a"), forget),
		made(a, forget, less("a")),
		made(a, b, b, less("a")),
		made(a, b, less("a"), b),
		made(a, less("a"), b, b),
		made(a, a, a),
		made(a, less("a"), a),
		made(b, less("b"), a),
		// That one went twice can be told from that it went once.
		made(a, less("a"), a, less("a")),
		made(a, a, a, less("a")),
		made(b, b, b, forget),
		made(b, b, forget, b),
	}
	for i, x := range unlike {
		for j, y := range unlike {
			is(t, fmt.Sprintf("Same of %d and %d", i, j), book.Same(x, y), i == j)
			is(t, fmt.Sprintf("Same of %d and a copy of %d", i, j), book.Same(x, y.Copy()), i == j)
		}
	}
	asked := func(q api.Ask) deed { return func(b *book.Book) { b.Ask(request(t, q)) } }
	is(t, "what was done in two ways", book.Same(made(a, less("a")), made(asked(putNew(at("a"), "x")), asked(dropOnly(at("a"), "e1")))), true)
	is(t, "what is forgotten went at other times", book.Same(made(a, b, less("a"), b, forget), made(a, less("a"), b, b, forget)), true)
	is(t, "what is refused", book.Same(made(a), made(a, asked(putNew(at("a"), "y")), asked(drop(at("b"))), asked(sync("t0")))), true)
}

func TestNoAddressBook(t *testing.T) { // P14.1, P14.2
	var none *book.Book
	for _, b := range []*book.Book{none, {}, new(book.Book), none.Copy(), new(book.Book).Copy()} {
		for _, q := range []api.Request{{}, {Method: "GET", Path: "/"}, {Method: "x"}, request(t, sync("")), request(t, put(at("a"), "x")), request(t, drop(at("a")))} {
			r, no := b.Ask(q)
			is(t, "Ask", no, api.ErrNil)
			is(t, "beside it", r.Code == 0 && r.Heads == nil && r.Body == nil, true)
			laid, _ := http.Request(q)
			l, no := b.Bytes(laid)
			is(t, "Bytes", no, api.ErrNil)
			is(t, "beside it", l == nil, true)
		}
		for _, href := range []string{"", at("a"), at("")} {
			is(t, "Put", b.Put(href, "x"), api.ErrNil)
			is(t, "Put", b.Put(href, ""), api.ErrNil)
			is(t, "Drop", b.Drop(href), api.ErrNil)
			k, there := b.Find(href)
			is(t, "Find", there, false)
			is(t, "beside it", k, api.Kept{})
		}
		is(t, "Forget", b.Forget(), api.ErrNil)
		is(t, "Cards", b.Cards() == nil, true)
		is(t, "Count", b.Count(), 0)
		is(t, "Copy", b.Copy() == nil, true)
		is(t, "Same", book.Same(b, nil) && book.Same(nil, b) && book.Same(b, new(book.Book)), true)
		is(t, "Same", book.Same(b, book.New()) || book.Same(book.New(), b), false)
	}
}

// roomy tells bytes with room behind them, that is filled.
func roomy(b []byte) []byte {
	r := append(make([]byte, 0, len(b)+50), b...)
	spare := r[len(r):cap(r)]
	for i := range spare {
		spare[i] = '#'
	}
	return r
}

// spoil changes all that a reply holds, and the room behind.
func spoil(r api.Reply) {
	for i := range r.Heads[:cap(r.Heads)] {
		r.Heads[:cap(r.Heads)][i] = api.Head{Name: "spoiled", Value: "spoiled"}
	}
	clear(r.Body[:cap(r.Body)])
}

func TestWhatIsHandedInIsNotChangedOrKept(t *testing.T) { // P14.1
	b := book.New()
	for _, a := range []api.Ask{putNew(at("a"), "card a"), put(at("b"), "card b"), sync(""), sync("t1"), cards(at("a"), at("b")), putOnly(at("a"), "other", "e1"), dropOnly(at("b"), "e2"), drop(at("c"))} {
		q := request(t, a)
		q.Body = roomy(q.Body)
		q.Heads = append(append(make([]api.Head, 0, len(q.Heads)+2), q.Heads...), api.Head{Name: "x", Value: "y"})[:len(q.Heads)]
		ahead, aheadHeads := slices.Clone(q.Body[:cap(q.Body)]), slices.Clone(q.Heads[:cap(q.Heads)])
		b.Ask(q)
		is(t, "the body", string(q.Body[:cap(q.Body)]), string(ahead))
		is(t, "the heads", slices.Equal(q.Heads[:cap(q.Heads)], aheadHeads), true)
		kept := all(t, b)
		clear(q.Body[:cap(q.Body)])
		clear(q.Heads[:cap(q.Heads)])
		is(t, "what is kept", all(t, b), kept)
	}
	for _, a := range []api.Ask{putNew(at("c"), "card c"), put(at("d"), "card d"), sync(""), drop(at("d"))} {
		laid, _ := http.Request(request(t, a))
		q := roomy(laid)
		ahead := slices.Clone(q[:cap(q)])
		b.Bytes(q)
		is(t, "the bytes", string(q[:cap(q)]), string(ahead))
		kept := all(t, b)
		clear(q[:cap(q)])
		is(t, "what is kept", all(t, b), kept)
	}
	is(t, "cards", plainKept(b.Cards()), plainKept([]api.Kept{{Href: at("a"), Mark: "e3", Card: "other", Seq: 3}, {Href: at("c"), Mark: "e5", Card: "card c", Seq: 5}}))
}

func TestWhatIsAnsweredIsNew(t *testing.T) { // P14.1, P14.2
	b := book.New()
	for _, name := range []string{"a", "b", "c"} {
		puts(t, b, at(name), name)
	}
	drops(t, b, at("c"))
	other := b.Copy()
	kept := all(t, b)
	for _, a := range []api.Ask{sync(""), sync("t0"), sync("t9"), cards(at("a"), at("c")), putNew(at("a"), "x"), drop(at("x"))} {
		first, _ := b.Ask(request(t, a))
		second, _ := b.Ask(request(t, a))
		want := plainReply(second)
		spoil(first)
		is(t, "another answer", plainReply(second), want)
		laid, _ := http.Request(request(t, a))
		one, _ := b.Bytes(laid)
		two, _ := b.Bytes(laid)
		row := string(two)
		clear(one[:cap(one)])
		is(t, "another answer", string(two), row)
	}
	for _, name := range []string{"y", "z"} {
		one, _ := b.Copy().Ask(request(t, put(at(name), "x")))
		two, _ := b.Copy().Ask(request(t, put(at(name), "x")))
		spoil(one)
		is(t, "another answer", plainReply(two), plainReply(marked(201, "e5")))
	}
	one, two := b.Cards(), b.Cards()
	want := plainKept(two)
	clear(one[:cap(one)])
	is(t, "another answer", plainKept(two), want)
	is(t, "what is kept", all(t, b), kept)
	is(t, "the copy", book.Same(b, other), true)
}

func TestHugeArguments(t *testing.T) { // P14.1, P14.2
	b := book.New()
	puts(t, b, at("a"), "x")
	text := strings.Repeat("x", 1<<21)
	stays(t, "huge arguments", b, func() {
		for _, q := range []api.Request{
			{Method: text, Path: at("a")}, {Method: "PUT", Path: "/book/" + text, Body: []byte("x")}, {Method: "PUT", Path: at("a"), Body: []byte(text)},
			{Method: "PUT", Path: at("a"), Heads: make([]api.Head, 1<<20), Body: []byte("x")}, {Method: "PUT", Path: at("a"), Heads: []api.Head{{Name: text, Value: text}}, Body: []byte("x")},
		} {
			_, no := b.Ask(q)
			is(t, "Ask", no, api.ErrArg)
		}
		_, no := b.Bytes([]byte(text))
		is(t, "Bytes", no, api.ErrHttp)
		_, no = b.Bytes(bytes.Repeat([]byte("a: b\r\n"), 1<<18))
		is(t, "Bytes", no, api.ErrHttp)
		is(t, "Put", b.Put(text, "x"), api.ErrArg)
		is(t, "Put", b.Put(at("a"), text), api.ErrArg)
		is(t, "Drop", b.Drop(text), api.ErrArg)
		_, there := b.Find(text)
		is(t, "Find", there, false)
	})
}

// deed is a change of an address book: the first one has the Seq 1.
type deed struct{ href, card string } // no card, if it is gone by it

// past is an address book told by all that was ever done to it.
type past struct {
	deeds []deed
	floor int
}

// now tells the last deed at each place, with its Seq, by rising places.
func (p *past) now() []api.Kept {
	last := map[string]int{}
	for i, one := range p.deeds {
		last[one.href] = i
	}
	var l []api.Kept
	for href, i := range last {
		l = append(l, api.Kept{Href: href, Mark: fmt.Sprintf("e%d", i+1), Card: p.deeds[i].card, Seq: int64(i + 1)})
	}
	sort.Slice(l, func(i, j int) bool { return l[i].Href < l[j].Href })
	return l
}

// cards tells those that are there.
func (p *past) cards() []api.Kept {
	return slices.DeleteFunc(p.now(), func(k api.Kept) bool { return k.Card == "" })
}

// find tells the one at a place; of none all is zero.
func (p *past) find(href string) api.Kept {
	for _, k := range p.cards() {
		if k.Href == href {
			return k
		}
	}
	return api.Kept{}
}

// ask tells what is answered, and does it.
func (p *past) ask(a api.Ask) api.Reply {
	k := p.find(a.Href)
	switch a.Kind {
	case api.AskSync:
		return p.sync(a.Token)
	case api.AskCards:
		return p.whole(a.Hrefs)
	case api.AskPut:
		if a.New && k.Seq > 0 || a.Only != "" && k.Mark != a.Only {
			return code(412)
		}
		if k.Seq == 0 && len(p.cards()) == 64 {
			return code(507)
		}
		p.deeds = append(p.deeds, deed{a.Href, a.Card})
		return marked(map[bool]int{true: 201, false: 204}[k.Seq == 0], fmt.Sprintf("e%d", len(p.deeds)))
	}
	if k.Seq == 0 {
		return code(404)
	}
	if a.Only != "" && k.Mark != a.Only {
		return code(412)
	}
	p.deeds = append(p.deeds, deed{href: a.Href})
	return code(204)
}

// sync tells what an AskSync is answered.
func (p *past) sync(token string) api.Reply {
	since := -1
	for n := p.floor; n <= len(p.deeds); n++ {
		if token == fmt.Sprintf("t%d", n) {
			since = n
		}
	}
	if token != "" && since < 0 {
		return code(403)
	}
	var l []api.Row
	for _, k := range p.now() {
		switch {
		case k.Seq <= int64(since):
		case k.Card != "":
			l = append(l, row(k.Href, k.Mark))
		case token != "":
			l = append(l, gone(k.Href))
		}
	}
	if len(l) > 64 {
		return code(507)
	}
	return told(fmt.Sprintf("t%d", len(p.deeds)), l...)
}

// whole tells what an AskCards is answered.
func (p *past) whole(hrefs []string) api.Reply {
	var l []api.Row
	for _, href := range hrefs {
		if k := p.find(href); k.Seq > 0 {
			l = append(l, whole(href, k.Mark, k.Card))
		} else {
			l = append(l, gone(href))
		}
	}
	r := told("", l...)
	if len(r.Body) > 60000 {
		return code(507)
	}
	return r
}

// life makes what may happen to an address book, as it falls.
type life struct {
	*rand.Rand
	places int            // how many there are
	seqs   int            // how many changes there are about now
	seen   map[string]int // how often a Kind was answered by a Code
}

// one picks one of some.
func one[T any](l *life, some ...T) T { return some[l.Intn(len(some))] }

func (l *life) place() string { return at(one(l, "a", "A") + strconv.Itoa(l.Intn(l.places))) }

func (l *life) card() string {
	if l.Intn(6) == 0 {
		return strings.Repeat(one(l, "x", "<", "&\r\n", "\xff"), 1+l.Intn(5000))
	}
	return one(l, "x", "a & b\r\n", "BEGIN:VCARD") + strconv.Itoa(l.Intn(100))
}

// mark tells one that may be that of a card.
func (l *life) mark(p *past, href string) string {
	if k := p.find(href); k.Seq > 0 && l.Intn(3) > 0 {
		return k.Mark
	}
	return one(l, "e", "e0", "t") + strconv.Itoa(l.Intn(l.seqs+2))
}

func (l *life) token(p *past) string {
	return one(l, "", "t"+strconv.Itoa(p.floor), "t"+strconv.Itoa(max(0, l.seqs-l.Intn(60))), "t"+strconv.Itoa(l.Intn(2*l.seqs+2)), "t0"+strconv.Itoa(l.seqs), "e1")
}

func (l *life) ask(p *past) api.Ask {
	a := api.Ask{Href: l.place()}
	switch l.Intn(8) {
	case 0, 1:
		return sync(l.token(p))
	case 2:
		var hrefs []string
		for range 1 + l.Intn(30) {
			hrefs = append(hrefs, l.place())
		}
		slices.Sort(hrefs)
		return cards(slices.Compact(hrefs)...)
	case 3:
		a.Kind = api.AskDrop
	default:
		a.Kind, a.Card, a.New = api.AskPut, l.card(), l.Intn(3) == 0
	}
	if !a.New && l.Intn(2) == 0 {
		a.Only = l.mark(p, a.Href)
	}
	return a
}

// happens does one thing to an address book and to its past, and holds what both answer.
func (l *life) happens(t *testing.T, b *book.Book, p *past) {
	t.Helper()
	l.seqs = len(p.deeds)
	href, card := l.place(), l.card()
	switch l.Intn(12) {
	case 0:
		want := api.OK
		if p.ask(put(href, card)).Code == 507 {
			want = api.ErrLong
		}
		is(t, "Put", b.Put(href, card), want)
	case 1:
		want := api.OK
		if p.ask(drop(href)).Code == 404 {
			want = api.ErrNone
		}
		is(t, "Drop", b.Drop(href), want)
	case 2:
		if l.Intn(l.places) == 0 {
			forgets(t, b)
			p.floor = len(p.deeds)
		}
	case 3, 4, 5:
		a := l.ask(p)
		laid, _ := http.Request(request(t, a))
		got, no := b.Bytes(laid)
		want, _ := http.Reply(p.ask(a))
		is(t, "Bytes", no, api.OK)
		is(t, short(a), string(got), string(want))
	default:
		a := l.ask(p)
		want := p.ask(a)
		l.seen[fmt.Sprintf("%d %d", a.Kind, want.Code)]++
		asks(t, b, a, want)
	}
}

// holds holds what an address book tells of itself against its past.
func (p *past) holds(t *testing.T, b *book.Book, href string) {
	t.Helper()
	is(t, "count", b.Count(), int64(len(p.deeds)))
	is(t, "cards", plainKept(b.Cards()), plainKept(p.cards()))
	k, there := b.Find(href)
	is(t, "the card at a place", k, p.find(href))
	is(t, "there", there, k.Seq > 0)
	asks(t, b, sync(fmt.Sprintf("t%d", p.floor)), p.sync(fmt.Sprintf("t%d", p.floor)))
}

func TestAgainstItsPast(t *testing.T) { // P14.1, P14.2
	seen := map[string]int{}
	for seed := range int64(12) {
		l := &life{Rand: rand.New(rand.NewSource(seed)), places: []int{2, 12, 35, 60}[seed%4], seen: seen}
		b, p := book.New(), &past{}
		for range 500 {
			ahead, count := b.Copy(), b.Count()
			l.happens(t, b, p)
			p.holds(t, b, l.place())
			if b.Count() != count {
				is(t, "one that changed is the same", book.Same(ahead, b), false)
			}
			is(t, "the one ahead", ahead.Count(), count)
			if l.Intn(50) == 0 {
				b = b.Copy()
			}
			if t.Failed() {
				t.Fatalf("seed %d, behind %d changes", seed, len(p.deeds))
			}
		}
	}
	for _, what := range []string{"1 207", "1 403", "1 507", "2 207", "2 507", "3 201", "3 204", "3 412", "3 507", "4 204", "4 404", "4 412"} {
		if seen[what] < 5 {
			t.Errorf("asked and answered so (Kind, Code) %s: %d times", what, seen[what])
		}
	}
}

func TestTheSameDoneTwice(t *testing.T) { // P14.1, P14.2
	lived := func() *book.Book {
		l := &life{Rand: rand.New(rand.NewSource(99)), places: 30, seen: map[string]int{}}
		b, p := book.New(), &past{}
		for range 300 {
			l.happens(t, b, p)
		}
		return b
	}
	is(t, "two that lived the same", book.Same(lived(), lived()), true)
}

// follower keeps the marks that are told by AskSync, by their places.
type follower struct {
	token string
	kept  map[string]string
}

// follow asks what there is to tell, anew if need be.
func (f *follower) follow(t *testing.T, ask func(a api.Ask) api.Reply) {
	t.Helper()
	r := ask(sync(f.token))
	if r.Code == 403 || r.Code == 507 {
		is(t, "that there was a token", f.token != "", true)
		f.token = ""
		r = ask(sync(""))
	}
	if f.token == "" {
		f.kept = map[string]string{}
	}
	m, no := dav.Read(r)
	is(t, "what is told", no, api.OK)
	for _, one := range m.Rows {
		delete(f.kept, one.Href)
		if !one.Gone {
			f.kept[one.Href] = one.Mark
		}
	}
	is(t, "that there is a token", m.Token != "", true)
	f.token = m.Token
}

// holds holds what is kept against the cards.
func (f *follower) holds(t *testing.T, b *book.Book) {
	t.Helper()
	all := b.Cards()
	is(t, "how many are kept", len(f.kept), len(all))
	for _, k := range all {
		is(t, "the mark that is kept of "+k.Href, f.kept[k.Href], k.Mark)
	}
}

// asker asks an address book, as values or as bytes.
func asker(t *testing.T, b *book.Book, asBytes bool) func(a api.Ask) api.Reply {
	return func(a api.Ask) api.Reply {
		t.Helper()
		if !asBytes {
			r, _ := b.Ask(request(t, a))
			return r
		}
		laid, _ := http.Request(request(t, a))
		got, _ := b.Bytes(laid)
		r, no := http.ReadReply(got)
		is(t, "the bytes of an answer", no, api.OK)
		return r
	}
}

func TestWhoKeepsWhatIsTold(t *testing.T) { // P14.3
	for seed := range int64(8) {
		l := &life{Rand: rand.New(rand.NewSource(1000 + seed)), places: []int{2, 12, 30, 60}[seed%4], seen: map[string]int{}}
		b, p := book.New(), &past{}
		followers := make([]follower, 6)
		for range 400 {
			l.happens(t, b, p)
			for i := range followers {
				// Some ask often, some so seldom that there is too much to tell.
				if l.Intn(1<<(i+2)) == 0 {
					followers[i].follow(t, asker(t, b, l.Intn(2) == 0))
					followers[i].holds(t, b)
				}
			}
			if t.Failed() {
				t.Fatalf("seed %d, behind %d changes", seed, len(p.deeds))
			}
		}
	}
}

func TestWhoKeepsWhatIsToldOfOneThatWentAndCame(t *testing.T) { // P14.3
	b := book.New()
	ask := asker(t, b, false)
	f := &follower{}
	for i, change := range []func(){
		func() {},
		func() { puts(t, b, at("a"), "x") },
		func() { puts(t, b, at("a"), "y"); puts(t, b, at("b"), "y") },
		func() { drops(t, b, at("a")); puts(t, b, at("a"), "y") },
		func() { drops(t, b, at("a")); puts(t, b, at("a"), "y"); drops(t, b, at("a")) },
		func() { puts(t, b, at("c"), "x"); drops(t, b, at("c")) },
		func() { drops(t, b, at("b")); forgets(t, b) },
		func() { puts(t, b, at("b"), "x"); forgets(t, b); drops(t, b, at("b")); puts(t, b, at("d"), "x") },
		func() { forgets(t, b) },
	} {
		change()
		f.follow(t, ask)
		f.holds(t, b)
		is(t, fmt.Sprintf("behind change %d, the token", i), f.token, fmt.Sprintf("t%d", b.Count()))
	}
}

func TestNoMarkIsOfTwoChanges(t *testing.T) { // P14.3
	b := book.New()
	seen := map[string]string{}
	look := func(change string) {
		t.Helper()
		for _, k := range b.Cards() {
			of := fmt.Sprintf("%s %d %q", k.Href, k.Seq, k.Card)
			if ahead, there := seen[k.Mark]; there && ahead != of {
				t.Errorf("%s: %s is the mark of %s and of %s", change, k.Mark, ahead, of)
			}
			seen[k.Mark] = of
		}
	}
	for i := range 400 {
		name := string(rune('a' + i*i%5))
		switch i % 7 {
		case 0, 1, 2:
			b.Ask(request(t, put(at(name), strconv.Itoa(i))))
		case 3:
			b.Put(at(name), strconv.Itoa(i))
		case 4:
			b.Drop(at(name))
		case 5:
			b.Ask(request(t, drop(at(name))))
		default:
			b.Forget()
			b = b.Copy()
		}
		look(strconv.Itoa(i))
	}
	is(t, "marks that were seen", len(seen) > 150, true)
}
