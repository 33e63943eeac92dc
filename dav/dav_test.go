package dav_test

import (
	"fmt"
	"math"
	"math/rand"
	"reflect"
	"regexp"
	"slices"
	"sort"
	"strconv"
	"strings"
	"testing"

	"cardcase/api"
	"cardcase/dav"
	"cardcase/http"
	"cardcase/xml"
)

// is fails where an answer is another than the one that is asked for.
func is[T comparable](t *testing.T, what string, got, want T) {
	t.Helper()
	if got != want {
		t.Errorf("%s: %#v, want %#v", what, got, want)
	}
}

// short tells something that may be long.
func short(what any) string {
	s := fmt.Sprintf("%q", what)
	if len(s) > 400 {
		return s[:400] + " and more, " + strconv.Itoa(len(s)) + " bytes"
	}
	return s
}

// heads are Heads: Names and Values, by turns.
func heads(l ...string) []api.Head {
	var all []api.Head
	for i := 0; i < len(l); i += 2 {
		all = append(all, api.Head{Name: l[i], Value: l[i+1]})
	}
	return all
}

// req is a request.
func req(method, path, body string, l ...string) api.Request {
	return api.Request{Method: method, Path: path, Heads: heads(l...), Body: []byte(body)}
}

// report is a request of the address book itself.
func report(body string, l ...string) api.Request { return req("REPORT", "/book/", body, l...) }

// rep is a reply.
func rep(code int, body string, l ...string) api.Reply {
	return api.Reply{Code: code, Heads: heads(l...), Body: []byte(body)}
}

var (
	inBodies = strings.NewReplacer("&", "&amp;", "<", "&lt;", ">", "&gt;", "\r", "&#13;")
	inFlat   = strings.NewReplacer("%", "%25", "<", "%3c", ">", "%3e")
	outFlat  = strings.NewReplacer("%25", "%", "%3c", "<", "%3e", ">")
)

// plainText tells a Text as it stands in bodies.
func plainText(s string) string { return inBodies.Replace(s) }

// plainSync and plainCards tell bodies, as the chapter's 'Words' say.
func plainSync(token string) string {
	if token == "" {
		return `<sync-collection xmlns="DAV:"><sync-token/></sync-collection>`
	}
	return `<sync-collection xmlns="DAV:"><sync-token>` + token + `</sync-token></sync-collection>`
}

func plainCards(hrefs ...string) string {
	s := ""
	for _, h := range hrefs {
		s += `<href xmlns="DAV:">` + h + `</href>`
	}
	return `<addressbook-multiget xmlns="urn:card">` + s + `</addressbook-multiget>`
}

// plainRequest tells the request of what may be asked, as the chapter's 'Words' say.
func plainRequest(a api.Ask) api.Request {
	var l []string
	if a.Only != "" {
		l = append(l, "if-match", `"`+a.Only+`"`)
	}
	if a.New {
		l = append(l, "if-none-match", "*")
	}
	switch a.Kind {
	case api.AskSync:
		return report(plainSync(a.Token))
	case api.AskCards:
		return report(plainCards(a.Hrefs...))
	case api.AskPut:
		return req("PUT", a.Href, a.Card, l...)
	}
	return req("DELETE", a.Href, "", l...)
}

// plainMany tells the body of what may be told, as the chapter's 'Words' say.
func plainMany(m api.Many) string {
	s := ""
	for _, r := range m.Rows {
		s += "<response><href>" + r.Href + "</href>"
		if r.Gone {
			s += "<status>gone</status>"
		} else {
			s += "<getetag>" + r.Mark + "</getetag>"
		}
		if r.HasCard {
			s += `<address-data xmlns="urn:card">` + plainText(r.Card) + "</address-data>"
		}
		s += "</response>"
	}
	if m.Token != "" {
		s += "<sync-token>" + m.Token + "</sync-token>"
	}
	if s == "" {
		return `<multistatus xmlns="DAV:"/>`
	}
	return `<multistatus xmlns="DAV:">` + s + "</multistatus>"
}

const (
	markForm  = `[A-Za-z0-9._-]{1,64}`
	placeForm = `/book/` + markForm
)

var (
	isMark  = regexp.MustCompile(`^` + markForm + `$`)
	isPlace = regexp.MustCompile(`^` + placeForm + `$`)
	isTold  = regexp.MustCompile(`^"(` + markForm + `)"$`) // as the Value of a head
)

// none tells whether nothing is there.
func none(l ...string) bool { return strings.Join(l, "") == "" }

// mayMark tells whether a mark, a token, or nothing is there.
func mayMark(s string) bool { return s == "" || isMark.MatchString(s) }

// mayCard tells whether a text is a card's.
func mayCard(s string) bool {
	for _, c := range []byte(s) {
		if c < 32 && c != 9 && c != 10 && c != 13 {
			return false
		}
	}
	return s != "" && len(s) <= 16000
}

// risen tells whether these are places that rise, no two the same.
func risen(l []string) bool {
	for _, h := range l {
		if !isPlace.MatchString(h) {
			return false
		}
	}
	return slices.Equal(l, slices.Compact(slices.Sorted(slices.Values(l))))
}

// mayAsk tells whether that may be asked, as the chapter's 'Words' say.
func mayAsk(a api.Ask) bool {
	switch a.Kind {
	case 1:
		return mayMark(a.Token) && len(a.Hrefs) == 0 && none(a.Href, a.Card, a.Only) && !a.New
	case 2:
		return len(a.Hrefs) >= 1 && len(a.Hrefs) <= 64 && risen(a.Hrefs) && none(a.Token, a.Href, a.Card, a.Only) && !a.New
	case 3:
		guarded := a.Only == "" || isMark.MatchString(a.Only) && !a.New
		return isPlace.MatchString(a.Href) && mayCard(a.Card) && guarded && len(a.Hrefs) == 0 && none(a.Token)
	case 4:
		return isPlace.MatchString(a.Href) && mayMark(a.Only) && len(a.Hrefs) == 0 && none(a.Token, a.Card) && !a.New
	}
	return false
}

// mayTell tells whether that may be told, as the chapter's 'Words' say.
func mayTell(m api.Many) bool {
	var hrefs []string
	for _, r := range m.Rows {
		hrefs = append(hrefs, r.Href)
		if r.Gone && (r.Mark != "" || r.HasCard) || !r.Gone && !isMark.MatchString(r.Mark) {
			return false
		}
		if r.HasCard && !mayCard(r.Card) || !r.HasCard && r.Card != "" {
			return false
		}
	}
	return len(m.Rows) <= 64 && risen(hrefs) && mayMark(m.Token)
}

// flat tells an element in one form, without its attributes: its name, and what is in it, between < and >.
func flat(e api.Element) string {
	s := "<" + e.Space + " " + e.Name + "|" + inFlat.Replace(e.Text)
	for _, kid := range e.Kids {
		s += flat(kid)
	}
	return s + ">"
}

// Bounds are left to what asks whether that may be asked, told.
const (
	anyMark  = `[A-Za-z0-9._-]+`
	anyPlace = `/book/` + anyMark
	rowForm  = `<DAV: response\|<DAV: href\|(` + anyPlace + `)>(?:<DAV: (status)\|gone>|<DAV: getetag\|(` + anyMark + `)>(<urn:card address-data\|([^<>]+)>)?)>`
)

var (
	flatSync  = regexp.MustCompile(`^<DAV: sync-collection\|<DAV: sync-token\|((?:` + anyMark + `)?)>>$`)
	flatCards = regexp.MustCompile(`^<urn:card addressbook-multiget\|(?:<DAV: href\|` + anyPlace + `>)+>$`)
	flatHref  = regexp.MustCompile(`<DAV: href\|([^>]*)>`)
	flatRow   = regexp.MustCompile(rowForm)
	flatMany  = regexp.MustCompile(`^<DAV: multistatus\|((?:` + rowForm + `)*)(?:<DAV: sync-token\|(` + anyMark + `)>)?>$`)
)

// flatBody tells the element that a body is, in one form.
func flatBody(b []byte) string {
	e, no := xml.Parse(string(b))
	if no != api.OK {
		return ""
	}
	return flat(e)
}

// plainOf tells what a request asks, as the chapter's 'Words' say it.
func plainOf(q api.Request) (api.Ask, bool) {
	var a api.Ask
	if _, no := http.Request(q); no != api.OK {
		return a, false
	}
	for _, h := range q.Heads {
		switch h.Name {
		case "if-match":
			a.Only = strings.TrimSuffix(strings.TrimPrefix(h.Value, `"`), `"`)
			if h.Value != `"`+a.Only+`"` || a.Only == "" {
				return a, false
			}
		case "if-none-match":
			if a.New = true; h.Value != "*" {
				return a, false
			}
		}
	}
	switch q.Method {
	case "PUT":
		a.Kind, a.Href, a.Card = 3, q.Path, string(q.Body)
	case "DELETE":
		a.Kind, a.Href = 4, q.Path
		if len(q.Body) > 0 {
			return a, false
		}
	case "REPORT":
		body := flatBody(q.Body)
		if q.Path != "/book/" {
			return a, false
		} else if found := flatSync.FindStringSubmatch(body); found != nil {
			a.Kind, a.Token = 1, found[1]
		} else if flatCards.MatchString(body) {
			a.Kind = 2
			for _, found := range flatHref.FindAllStringSubmatch(body, -1) {
				a.Hrefs = append(a.Hrefs, found[1])
			}
			sort.Strings(a.Hrefs)
		}
	}
	return a, mayAsk(a)
}

// plainRead tells what a reply tells, as the chapter's 'Words' say it.
func plainRead(r api.Reply) (api.Many, bool) {
	var m api.Many
	if _, no := http.Reply(r); no != api.OK || r.Code != 207 {
		return m, false
	}
	found := flatMany.FindStringSubmatch(flatBody(r.Body))
	if found == nil {
		return m, false
	}
	m.Token = found[len(found)-1]
	for _, f := range flatRow.FindAllStringSubmatch(found[1], -1) {
		m.Rows = append(m.Rows, api.Row{Href: f[1], Gone: f[2] != "", Mark: f[3], HasCard: f[4] != "", Card: outFlat.Replace(f[5])})
	}
	sort.Slice(m.Rows, func(i, j int) bool { return m.Rows[i].Href < m.Rows[j].Href })
	return m, mayTell(m)
}

// sameRequest tells whether two are the same; nil and empty are the same.
func sameRequest(a, b api.Request) bool {
	return a.Method == b.Method && a.Path == b.Path && slices.Equal(a.Heads, b.Heads) && string(a.Body) == string(b.Body)
}

func sameReply(a, b api.Reply) bool {
	return a.Code == b.Code && slices.Equal(a.Heads, b.Heads) && string(a.Body) == string(b.Body)
}

func sameAsk(a, b api.Ask) bool {
	if !slices.Equal(a.Hrefs, b.Hrefs) {
		return false
	}
	a.Hrefs, b.Hrefs = nil, nil
	return reflect.DeepEqual(a, b)
}

func sameMany(a, b api.Many) bool { return slices.Equal(a.Rows, b.Rows) && a.Token == b.Token }

// isAnswer fails where an answer is another one, or another error; nil and empty are the same.
func isAnswer[T any](t *testing.T, call string, of any, got T, no api.Errno, want T, wantNo api.Errno, same func(a, b T) bool) {
	t.Helper()
	if no != wantNo {
		t.Errorf("%s of %s: %v, want %v", call, short(of), no, wantNo)
	} else if !same(got, want) {
		t.Errorf("%s of %s: %s, want %s", call, short(of), short(got), short(want))
	}
}

// isOf fails where Of does not answer as the chapter's 'Words' say; it tells whether that is asked.
func isOf(t *testing.T, q api.Request) bool {
	t.Helper()
	got, no := dav.Of(q)
	if want, may := plainOf(q); may {
		isAnswer(t, "Of", q, got, no, want, api.OK, sameAsk)
		return true
	}
	isAnswer(t, "Of", q, got, no, api.Ask{}, api.ErrAsk, sameAsk)
	return false
}

// isRead fails where Read does not answer as the chapter's 'Words' say; it tells whether that is told.
func isRead(t *testing.T, r api.Reply) bool {
	t.Helper()
	got, no := dav.Read(r)
	if want, may := plainRead(r); may {
		isAnswer(t, "Read", r, got, no, want, api.OK, sameMany)
		return true
	}
	isAnswer(t, "Read", r, got, no, api.Many{}, api.ErrMany, sameMany)
	return false
}

// asks fails where Of does not tell that this is asked.
func asks(t *testing.T, q api.Request, want api.Ask) {
	t.Helper()
	got, no := dav.Of(q)
	isAnswer(t, "Of", q, got, no, want, api.OK, sameAsk)
}

// asksNothing fails where Of does not refuse requests.
func asksNothing(t *testing.T, l ...api.Request) {
	t.Helper()
	for _, q := range l {
		got, no := dav.Of(q)
		isAnswer(t, "Of", q, got, no, api.Ask{}, api.ErrAsk, sameAsk)
	}
}

// tells fails where Read does not tell that this is told.
func tells(t *testing.T, r api.Reply, want api.Many) {
	t.Helper()
	got, no := dav.Read(r)
	isAnswer(t, "Read", r, got, no, want, api.OK, sameMany)
}

// tellsNothing fails where Read does not refuse replies.
func tellsNothing(t *testing.T, l ...api.Reply) {
	t.Helper()
	for _, r := range l {
		got, no := dav.Read(r)
		isAnswer(t, "Read", r, got, no, api.Many{}, api.ErrMany, sameMany)
	}
}

// isAsk fails where Request does not answer as the chapter's 'Words' say, or Of does not tell what was asked.
func isAsk(t *testing.T, a api.Ask) {
	t.Helper()
	q, no := dav.Request(a)
	if !mayAsk(a) {
		isAnswer(t, "Request", a, q, no, api.Request{}, api.ErrArg, sameRequest)
		return
	}
	isAnswer(t, "Request", a, q, no, plainRequest(a), api.OK, sameRequest)
	asks(t, plainRequest(a), a)
	asks(t, q, a)
}

// isMany fails where Reply does not answer as the chapter's 'Words' say, or Read does not tell what was told.
func isMany(t *testing.T, m api.Many) {
	t.Helper()
	r, no := dav.Reply(m)
	if !mayTell(m) {
		isAnswer(t, "Reply", m, r, no, api.Reply{}, api.ErrArg, sameReply)
		return
	}
	want := rep(207, plainMany(m))
	if len(want.Body) > 60000 {
		isAnswer(t, "Reply", m, r, no, api.Reply{}, api.ErrLong, sameReply)
		tellsNothing(t, want)
		return
	}
	isAnswer(t, "Reply", m, r, no, want, api.OK, sameReply)
	tells(t, want, m)
	tells(t, r, m)
}

// isShort fails where Short does not answer as the chapter's 'Words' say, or Mark not as told.
func isShort(t *testing.T, code int, told string) {
	t.Helper()
	what := fmt.Sprintf("Short(%d, %s)", code, short(told))
	r, no := dav.Short(code, told)
	if code < 100 || code > 599 || !mayMark(told) {
		isAnswer(t, "Short", told, r, no, api.Reply{}, api.ErrArg, sameReply)
		return
	}
	want := api.Reply{Code: code}
	if told != "" {
		want.Heads = heads("etag", `"`+told+`"`)
	}
	isAnswer(t, "Short", told, r, no, want, api.OK, sameReply)
	mark, there := dav.Mark(r)
	is(t, what+": Mark", mark, told)
	is(t, what+": Mark", there, told != "")
}

// bytesAround are texts of each byte, alone, and ahead of, behind and between others.
func bytesAround() []string {
	var l []string
	for n := range 256 {
		b := string([]byte{byte(n)})
		l = append(l, b, "a"+b, b+"a", "a"+b+"a")
	}
	return l
}

// marks are texts that are marks, and such that are none.
func marks() []string {
	return append(bytesAround(), "", "e1", "t0", ".", "..", "-", "_", "0", "A.b-C_9", strings.Repeat("z", 64), strings.Repeat("z", 65), strings.Repeat("z", 63)+" ", strings.Repeat("z", 64)+"\n", strings.Repeat(".", 64), strings.Repeat("z", 1000), "\u00e4", "a b", " e1", "e1 ", `"e1"`, `"e1`, `e1"`, `W/"e1"`, "*", "e1,e2", "&amp;", "&#97;", "<a/>", "a\r\n", "\u212a", "\uff41")
}

// cards are cards' texts, and such that are none.
func cards() []string {
	return append(bytesAround(), "", " ", "\n", "\t", "\r", "\r\n", " \r\n\t", "x", "BEGIN:VCARD\r\nFN:Ann & <B>\r\nEND:VCARD\r\n", "&amp;&lt;", "<a>b</a>", "]]>", "<!--", "\u00e4\u4e2d", "\xff\xfe", "\"'", strings.Repeat("x", 15999), strings.Repeat("x", 16000), strings.Repeat("x", 16001), strings.Repeat("\r", 9000), strings.Repeat("\xc3", 16000), strings.Repeat("x", 15999)+"\x00", "\x7f", "\x1f")
}

// P13.1 and P13.2: the chapter's examples.
func TestExamples(t *testing.T) {
	q, no := dav.Request(api.Ask{Kind: api.AskDrop, Href: "/book/a", Only: "e1"})
	isAnswer(t, "Request", "AskDrop", q, no, api.Request{Method: "DELETE", Path: "/book/a", Heads: heads("if-match", `"e1"`)}, api.OK, sameRequest)
	q, no = dav.Request(api.Ask{Kind: api.AskSync})
	is(t, "Request", no, api.OK)
	is(t, "Request", string(q.Body), `<sync-collection xmlns="DAV:"><sync-token/></sync-collection>`)
	r, no := dav.Short(412, "")
	isAnswer(t, "Short", "a Code", r, no, api.Reply{Code: 412}, api.OK, sameReply)
	is(t, "Href", dav.Href("/book/"), false)
	is(t, "Href", dav.Href("/book/a b"), false)
}

// P13.1: how what is asked is told as a request.
func TestAsked(t *testing.T) {
	for _, c := range []struct {
		a    api.Ask
		want api.Request
	}{
		{api.Ask{Kind: api.AskSync, Token: "t7"}, req("REPORT", "/book/", `<sync-collection xmlns="DAV:"><sync-token>t7</sync-token></sync-collection>`)},
		{api.Ask{Kind: api.AskCards, Hrefs: []string{"/book/a"}}, req("REPORT", "/book/", `<addressbook-multiget xmlns="urn:card"><href xmlns="DAV:">/book/a</href></addressbook-multiget>`)},
		{api.Ask{Kind: api.AskCards, Hrefs: []string{"/book/a", "/book/b.vcf"}}, req("REPORT", "/book/", `<addressbook-multiget xmlns="urn:card"><href xmlns="DAV:">/book/a</href><href xmlns="DAV:">/book/b.vcf</href></addressbook-multiget>`)},
		{api.Ask{Kind: api.AskPut, Href: "/book/a", Card: "x\r\n<&"}, req("PUT", "/book/a", "x\r\n<&")},
		{api.Ask{Kind: api.AskPut, Href: "/book/a", Card: "x", Only: "e1"}, req("PUT", "/book/a", "x", "if-match", `"e1"`)},
		{api.Ask{Kind: api.AskPut, Href: "/book/a", Card: "x", New: true}, req("PUT", "/book/a", "x", "if-none-match", "*")},
		{api.Ask{Kind: api.AskDrop, Href: "/book/a"}, req("DELETE", "/book/a", "")},
	} {
		q, no := dav.Request(c.a)
		isAnswer(t, "Request", c.a, q, no, c.want, api.OK, sameRequest)
		asks(t, c.want, c.a)
		isAsk(t, c.a)
	}
}

// P13.2: how what is told is told as a reply.
func TestTold(t *testing.T) {
	for _, c := range []struct {
		m    api.Many
		want string
	}{
		{api.Many{}, `<multistatus xmlns="DAV:"/>`},
		{api.Many{Token: "t0"}, `<multistatus xmlns="DAV:"><sync-token>t0</sync-token></multistatus>`},
		{api.Many{Rows: []api.Row{{Href: "/book/a", Gone: true}}}, `<multistatus xmlns="DAV:"><response><href>/book/a</href><status>gone</status></response></multistatus>`},
		{api.Many{Rows: []api.Row{{Href: "/book/a", Mark: "e1"}}, Token: "t1"}, `<multistatus xmlns="DAV:"><response><href>/book/a</href><getetag>e1</getetag></response><sync-token>t1</sync-token></multistatus>`},
		{api.Many{Rows: []api.Row{{Href: "/book/a", Mark: "e1", HasCard: true, Card: "x\r\ny\n <&>\"'\t"}, {Href: "/book/b", Gone: true}, {Href: "/book/c", Mark: "e3"}}}, `<multistatus xmlns="DAV:"><response><href>/book/a</href><getetag>e1</getetag><address-data xmlns="urn:card">x&#13;` + "\ny\n &lt;&amp;&gt;\"'\t" + `</address-data></response><response><href>/book/b</href><status>gone</status></response><response><href>/book/c</href><getetag>e3</getetag></response></multistatus>`},
	} {
		r, no := dav.Reply(c.m)
		isAnswer(t, "Reply", c.m, r, no, api.Reply{Code: 207, Body: []byte(c.want)}, api.OK, sameReply)
		tells(t, rep(207, c.want), c.m)
		isMany(t, c.m)
	}
}

// P13.1 and P13.2: places, wherever they stand.
func TestPlaces(t *testing.T) {
	places := []string{"", "/", "/book", "/book/", "book/a", "/book/a/", "/book//a", "//book/a", "/Book/a", "/BOOK/a", "/book/a/b", "/books/a", "/boo/a", " /book/a", "/book/a ", "/book/a?b", "/book/a#b", "/book/%61", "/book/a\n", "/book/book/a", "/bookk/a", "http://h/book/a", "\\book\\a", "/book/.", "/book/..", "/book/a.vcf"}
	for _, m := range marks() {
		places = append(places, "/book/"+m, m, "/book"+m)
	}
	for _, p := range places {
		is(t, "Href "+short(p), dav.Href(p), isPlace.MatchString(p))
		isAsk(t, api.Ask{Kind: api.AskPut, Href: p, Card: "x"})
		isAsk(t, api.Ask{Kind: api.AskDrop, Href: p})
		isAsk(t, api.Ask{Kind: api.AskCards, Hrefs: []string{p}})
		isAsk(t, api.Ask{Kind: api.AskCards, Hrefs: []string{p, "/book/~"}})
		two := []string{"/book/a1", p, "/book/zz"}
		sort.Strings(two)
		isAsk(t, api.Ask{Kind: api.AskCards, Hrefs: two})
		isMany(t, api.Many{Rows: []api.Row{{Href: p, Mark: "e1"}}, Token: "t1"})
		isMany(t, api.Many{Rows: []api.Row{{Href: p, Gone: true}}})
		isMany(t, api.Many{Rows: []api.Row{{Href: p, Mark: "e1", HasCard: true, Card: "x"}}})
		isOf(t, req("PUT", p, "x"))
		isOf(t, req("DELETE", p, ""))
		isOf(t, req("REPORT", p, plainSync("t1")))
		isOf(t, req("REPORT", p, plainCards("/book/a")))
		isOf(t, report(plainCards(plainText(p))))
		isOf(t, report(plainCards("/book/zz", plainText(p), "/book/a1")))
		isRead(t, rep(207, "<multistatus xmlns='DAV:'><response><href>"+plainText(p)+"</href><status>gone</status></response></multistatus>"))
		isRead(t, rep(207, "<multistatus xmlns='DAV:'><response><href>"+plainText(p)+"</href><getetag>e1</getetag></response></multistatus>"))
	}
}

// P13.1 and P13.2: marks and tokens, wherever they stand.
func TestMarks(t *testing.T) {
	for _, m := range marks() {
		isAsk(t, api.Ask{Kind: api.AskSync, Token: m})
		isAsk(t, api.Ask{Kind: api.AskPut, Href: "/book/a", Card: "x", Only: m})
		isAsk(t, api.Ask{Kind: api.AskPut, Href: "/book/a", Card: "x", Only: m, New: true})
		isAsk(t, api.Ask{Kind: api.AskDrop, Href: "/book/a", Only: m})
		isMany(t, api.Many{Rows: []api.Row{{Href: "/book/a", Mark: m}}, Token: "t1"})
		isMany(t, api.Many{Rows: []api.Row{{Href: "/book/a", Mark: m, HasCard: true, Card: "x"}}})
		isMany(t, api.Many{Token: m})
		isMany(t, api.Many{Rows: []api.Row{{Href: "/book/a", Mark: "e1"}}, Token: m})
		isShort(t, 204, m)
		isOf(t, report(plainSync(plainText(m))))
		isOf(t, report(plainSync(m)))
		for _, value := range []string{m, `"` + m + `"`, `"` + m, m + `"`, `W/"` + m + `"`, `""` + m + `""`, `'` + m + `'`, `"` + m + `" `, `"` + m + `",`} {
			isOf(t, req("PUT", "/book/a", "x", "if-match", value))
			isOf(t, req("PUT", "/book/a", "x", "if-none-match", value))
			isOf(t, req("DELETE", "/book/a", "", "if-match", value))
			want := ""
			if found := isTold.FindStringSubmatch(value); found != nil {
				want = found[1]
			}
			for _, r := range []api.Reply{rep(201, "", "etag", value), rep(204, "x", "date", "d", "etag", value, "x", "y"), rep(404, "", "ETag", value)} {
				mark, there := dav.Mark(r)
				is(t, "Mark of "+short(r), mark, want)
				is(t, "Mark of "+short(r), there, want != "")
			}
		}
		isRead(t, rep(207, "<multistatus xmlns='DAV:'><response><href>/book/a</href><getetag>"+plainText(m)+"</getetag></response></multistatus>"))
		isRead(t, rep(207, "<multistatus xmlns='DAV:'><response><href>/book/a</href><getetag>e1</getetag></response><sync-token>"+plainText(m)+"</sync-token></multistatus>"))
		isRead(t, rep(207, "<multistatus xmlns='DAV:'><sync-token>"+plainText(m)+"</sync-token></multistatus>"))
	}
}

// P13.1 and P13.2: cards' texts, wherever they stand.
func TestCards(t *testing.T) {
	for _, c := range cards() {
		for _, a := range []api.Ask{{}, {Only: "e1"}, {New: true}} {
			a.Kind, a.Href, a.Card = api.AskPut, "/book/a", c
			isAsk(t, a)
			isOf(t, plainRequest(a))
		}
		isMany(t, api.Many{Rows: []api.Row{{Href: "/book/a", Mark: "e1", HasCard: true, Card: c}}})
		isMany(t, api.Many{Rows: []api.Row{{Href: "/book/a", Mark: "e1", Card: c}}})
		isRead(t, rep(207, plainMany(api.Many{Rows: []api.Row{{Href: "/book/a", Mark: "e1", HasCard: true, Card: c}}})))
		isRead(t, rep(207, plainMany(api.Many{Rows: []api.Row{{Href: "/book/a", Gone: true}, {Href: "/book/b", Mark: "e1", HasCard: true, Card: c}}, Token: "t1"})))
	}
}

// P13.1: Kinds, and what they do not name.
func TestKinds(t *testing.T) {
	whole := []api.Ask{
		{Kind: api.AskSync}, {Kind: api.AskSync, Token: "t1"}, {Kind: api.AskCards, Hrefs: []string{"/book/a", "/book/b"}},
		{Kind: api.AskPut, Href: "/book/a", Card: "x"}, {Kind: api.AskPut, Href: "/book/a", Card: "x", Only: "e1"}, {Kind: api.AskPut, Href: "/book/a", Card: "x", New: true},
		{Kind: api.AskDrop, Href: "/book/a"}, {Kind: api.AskDrop, Href: "/book/a", Only: "e1"},
	}
	kinds := []api.AskKind{-1, 0, 1, 2, 3, 4, 5, 6, 255, 256, 257, 259, math.MinInt, math.MaxInt, 1<<32 + 1}
	for _, a := range whole {
		is(t, short(a)+" may be asked", mayAsk(a), true)
		isAsk(t, a)
		for _, k := range kinds {
			other := a
			other.Kind = k
			isAsk(t, other)
		}
		// Each part made nothing, or something.
		for _, change := range []func(a *api.Ask){
			func(a *api.Ask) { a.Token = "t2" }, func(a *api.Ask) { a.Token = "" },
			func(a *api.Ask) { a.Hrefs = []string{"/book/a"} }, func(a *api.Ask) { a.Hrefs = nil }, func(a *api.Ask) { a.Hrefs = []string{} }, func(a *api.Ask) { a.Hrefs = []string{""} },
			func(a *api.Ask) { a.Href = "/book/b" }, func(a *api.Ask) { a.Href = "" }, func(a *api.Ask) { a.Href = "/book/" },
			func(a *api.Ask) { a.Card = "y" }, func(a *api.Ask) { a.Card = "" }, func(a *api.Ask) { a.Card = "\x00" },
			func(a *api.Ask) { a.Only = "e2" }, func(a *api.Ask) { a.Only = "" }, func(a *api.Ask) { a.Only = "*" },
			func(a *api.Ask) { a.New = true }, func(a *api.Ask) { a.New = false },
		} {
			other := a
			change(&other)
			isAsk(t, other)
			for _, k := range kinds {
				other.Kind = k
				isAsk(t, other)
			}
		}
	}
	isAsk(t, api.Ask{})
}

// named are so many places, rising.
func named(many int) []string {
	var l []string
	for i := range many {
		l = append(l, fmt.Sprintf("/book/n%07d", i))
	}
	return l
}

// rows are so many rows, rising.
func rows(many int) []api.Row {
	var l []api.Row
	for i, h := range named(many) {
		l = append(l, []api.Row{{Href: h, Mark: "e" + strconv.Itoa(i)}, {Href: h, Gone: true}, {Href: h, Mark: "e", HasCard: true, Card: "x"}}[i%3])
	}
	return l
}

// swapped is a list with two things in each other's place.
func swapped[T any](l []T, i, j int) []T {
	l = slices.Clone(l)
	l[i], l[j] = l[j], l[i]
	return l
}

// P13.1: how many Hrefs, and in which order.
func TestHrefs(t *testing.T) {
	for many := range 70 {
		l := named(many)
		isAsk(t, api.Ask{Kind: api.AskCards, Hrefs: l})
		is(t, strconv.Itoa(many)+" Hrefs", isOf(t, report(plainCards(l...))), many >= 1 && many <= 64)
		for i := range max(0, many-1) {
			other := swapped(l, i, i+1)
			isAsk(t, api.Ask{Kind: api.AskCards, Hrefs: other})
			if many <= 64 {
				asks(t, report(plainCards(other...)), api.Ask{Kind: api.AskCards, Hrefs: l})
			}
			other = slices.Clone(l)
			other[i] = other[i+1]
			isAsk(t, api.Ask{Kind: api.AskCards, Hrefs: other})
			asksNothing(t, report(plainCards(other...)))
			other = slices.Clone(l)
			other[i+1] = l[0]
			isAsk(t, api.Ask{Kind: api.AskCards, Hrefs: other})
			asksNothing(t, report(plainCards(other...)))
		}
		slices.Reverse(l)
		isAsk(t, api.Ask{Kind: api.AskCards, Hrefs: l})
		is(t, strconv.Itoa(many)+" Hrefs, falling", isOf(t, report(plainCards(l...))), many >= 1 && many <= 64)
	}
	// Order is that of bytes.
	isAsk(t, api.Ask{Kind: api.AskCards, Hrefs: []string{"/book/-", "/book/.", "/book/0", "/book/00", "/book/1", "/book/10", "/book/2", "/book/A", "/book/B", "/book/_", "/book/a", "/book/aa", "/book/b"}})
	isAsk(t, api.Ask{Kind: api.AskCards, Hrefs: []string{"/book/a", "/book/B"}})
	asks(t, report(plainCards("/book/a", "/book/_", "/book/10", "/book/B", "/book/2", "/book/aa")), api.Ask{Kind: api.AskCards, Hrefs: []string{"/book/10", "/book/2", "/book/B", "/book/_", "/book/a", "/book/aa"}})
	long := "/book/" + strings.Repeat("x", 63)
	var all []string
	for n := range 64 {
		all = append(all, long+string("-.0123456789ABCDEFGHIJKLMNOPQRSTUVWXYZ_abcdefghijklmnopqrstuvwxyz"[n]))
	}
	is(t, "64 long places may be asked for", mayAsk(api.Ask{Kind: api.AskCards, Hrefs: all}), true)
	isAsk(t, api.Ask{Kind: api.AskCards, Hrefs: all})
}

// P13.2: how many Rows, and in which order.
func TestRows(t *testing.T) {
	for many := range 70 {
		l := rows(many)
		for _, token := range []string{"", "t1", "t 1"} {
			isMany(t, api.Many{Rows: l, Token: token})
		}
		is(t, strconv.Itoa(many)+" Rows", isRead(t, rep(207, plainMany(api.Many{Rows: l, Token: "t1"}))), many <= 64)
		for i := range max(0, many-1) {
			other := api.Many{Rows: swapped(l, i, i+1), Token: "t1"}
			isMany(t, other)
			if many <= 64 {
				tells(t, rep(207, plainMany(other)), api.Many{Rows: l, Token: "t1"})
			}
			for _, from := range []int{0, i} {
				other.Rows = slices.Clone(l)
				other.Rows[i+1].Href = l[from].Href
				isMany(t, other)
				tellsNothing(t, rep(207, plainMany(other)))
				other.Rows[i+1] = l[from]
				isMany(t, other)
				tellsNothing(t, rep(207, plainMany(other)))
			}
		}
		slices.Reverse(l)
		isMany(t, api.Many{Rows: l})
		is(t, strconv.Itoa(many)+" Rows, falling", isRead(t, rep(207, plainMany(api.Many{Rows: l}))), many <= 64)
	}
}

// P13.2: what a row has.
func TestRowParts(t *testing.T) {
	for _, href := range []string{"", "/book/b", "/book/"} {
		for _, mark := range []string{"", "e1", "e 1"} {
			for _, card := range []string{"", "x", "\x00"} {
				for n := range 4 {
					r := api.Row{Href: href, Mark: mark, Gone: n&1 != 0, HasCard: n&2 != 0, Card: card}
					isMany(t, api.Many{Rows: []api.Row{r}})
					isMany(t, api.Many{Rows: []api.Row{{Href: "/book/a", Gone: true}, r, {Href: "/book/c", Mark: "e2"}}, Token: "t1"})
				}
			}
		}
	}
}

// P13.1: Methods and Paths.
func TestMethods(t *testing.T) {
	bodies := []string{"", "x", plainSync(""), plainSync("t1"), plainCards("/book/a"), plainMany(api.Many{})}
	for _, m := range []string{"", "REPORT", "PUT", "DELETE", "GET", "HEAD", "POST", "PROPFIND", "OPTIONS", "MKCOL", "report", "Put", "REPORTS", "PU", "PUTS", "DELET", " PUT", "PUT "} {
		for _, p := range []string{"", "/", "/book", "/book/", "/book//", "/book/a", "/book/a/", "/other/", "/other/a", "*", "/BOOK/"} {
			for _, b := range bodies {
				for _, l := range [][]string{nil, {"if-match", `"e1"`}, {"if-none-match", "*"}} {
					isOf(t, req(m, p, b, l...))
				}
			}
		}
	}
	asks(t, req("PUT", "/book/a", plainSync("")), api.Ask{Kind: api.AskPut, Href: "/book/a", Card: plainSync("")})
	asksNothing(t, req("DELETE", "/book/a", "x"), req("DELETE", "/book/a", " "), req("DELETE", "/book/a", plainSync("")), req("PUT", "/book/a", ""), req("PUT", "/book/", "x"), req("DELETE", "/book/", ""), req("REPORT", "/book/a", plainSync("")), req("REPORT", "/book", plainSync("")), req("POST", "/book/", plainSync("")), req("GET", "/book/a", ""), req("put", "/book/a", "x"), api.Request{})
}

// P13.1: guards of requests.
func TestGuards(t *testing.T) {
	put, drop := api.Ask{Kind: api.AskPut, Href: "/book/a", Card: "x"}, api.Ask{Kind: api.AskDrop, Href: "/book/a"}
	guarded := func(a api.Ask, only string, isNew bool) api.Ask {
		a.Only, a.New = only, isNew
		return a
	}
	asks(t, req("PUT", "/book/a", "x", "if-match", `"e1"`), guarded(put, "e1", false))
	asks(t, req("PUT", "/book/a", "x", "if-none-match", "*"), guarded(put, "", true))
	asks(t, req("DELETE", "/book/a", "", "if-match", `"e1"`), guarded(drop, "e1", false))
	asksNothing(t,
		req("PUT", "/book/a", "x", "if-match", `"e1"`, "if-none-match", "*"),
		req("DELETE", "/book/a", "", "if-none-match", "*"),
		req("DELETE", "/book/a", "", "if-match", `"e1"`, "if-none-match", "*"))
	values := []string{"", "*", `"*"`, `"e1"`, "e1", `""`, `"`, `"e1", "e2"`, `"e1""`, `""e1"`, `W/"e1"`, `"e 1"`, "**", "* ", `"e1`, `e1"`, "'e1'", `"` + strings.Repeat("e", 64) + `"`, `"` + strings.Repeat("e", 65) + `"`}
	for _, a := range []api.Ask{put, drop, {Kind: api.AskSync}, {Kind: api.AskSync, Token: "t1"}, {Kind: api.AskCards, Hrefs: []string{"/book/a"}}} {
		for _, v := range values {
			q := plainRequest(a)
			q.Heads = heads("if-match", v)
			isOf(t, q)
			q.Heads = heads("if-none-match", v)
			isOf(t, q)
			for _, w := range values {
				q.Heads = heads("if-match", v, "if-none-match", w)
				isOf(t, q)
			}
		}
	}
	// Heads of other names are no guards.
	for _, n := range []string{"if", "if-matc", "if-matches", "if-none-matc", "if-none-match-", "if-modified-since", "if-range", "match", "etag", "if-none"} {
		for _, v := range []string{`"e1"`, "*", "x"} {
			asks(t, req("PUT", "/book/a", "x", n, v), put)
			asks(t, req("DELETE", "/book/a", "", n, v), drop)
			asks(t, report(plainSync("t1"), n, v), api.Ask{Kind: api.AskSync, Token: "t1"})
			asks(t, report(plainCards("/book/a"), n, v), api.Ask{Kind: api.AskCards, Hrefs: []string{"/book/a"}})
		}
	}
}

// P13.1 and P13.2: other Heads, and such that no message has.
func TestHeads(t *testing.T) {
	asked := []api.Ask{{Kind: api.AskSync, Token: "t1"}, {Kind: api.AskCards, Hrefs: []string{"/book/a"}}, {Kind: api.AskPut, Href: "/book/a", Card: "x", Only: "e1"}, {Kind: api.AskPut, Href: "/book/a", Card: "x", New: true}, {Kind: api.AskDrop, Href: "/book/a", Only: "e1"}, {Kind: api.AskDrop, Href: "/book/a"}}
	m := api.Many{Rows: rows(3), Token: "t1"}
	with := func(l []api.Head, more []api.Head) []api.Head {
		l = append(slices.Clone(l), more...)
		sort.Slice(l, func(i, j int) bool { return l[i].Name < l[j].Name })
		return l
	}
	for many := range 20 {
		var more []api.Head
		for i := range many {
			more = append(more, api.Head{Name: string("ahitxz"[i%6]) + "-" + strconv.Itoa(10+i), Value: strconv.Itoa(i)})
		}
		for _, a := range asked {
			q := plainRequest(a)
			q.Heads = with(q.Heads, more)
			if len(q.Heads) <= 16 {
				asks(t, q, a)
			} else {
				asksNothing(t, q)
			}
		}
		r := rep(207, plainMany(m))
		r.Heads = with(r.Heads, more)
		if many <= 16 {
			tells(t, r, m)
		} else {
			tellsNothing(t, r)
		}
	}
	for _, l := range [][]string{{"accept", "*/*", "content-type", "text/xml; charset=utf-8", "depth", "1"}, {"etag", `"e1"`}, {"etag", "x"}, {"if-none-matcha", ""}} {
		for _, a := range asked {
			q := plainRequest(a)
			q.Heads = with(q.Heads, heads(l...))
			asks(t, q, a)
		}
		tells(t, rep(207, plainMany(m), l...), m)
	}
	tells(t, rep(207, plainMany(m), "etag", "none", "if-match", "x", "if-none-match", "y"), m)
	// What layer 12 refuses is no request, no reply.
	for _, l := range [][]string{{"b", "1", "a", "2"}, {"a", "1", "a", "1"}, {"A", "1"}, {"Content-Type", "x"}, {"", ""}, {"a b", "1"}, {"a", " 1"}, {"a", "1 "}, {"a", "\x00"}, {"a", "\u00e4"}, {"a", strings.Repeat("v", 201)}, {strings.Repeat("a", 65), "1"}, {"content-length", "1"}, {"transfer-encoding", "chunked"}, {"If-Match", `"e1"`}, {"if-match", `"e1"`, "if-match", `"e1"`}} {
		asksNothing(t, report(plainSync("t1"), l...), report(plainCards("/book/a"), l...), req("PUT", "/book/a", "x", l...), req("DELETE", "/book/a", "", l...))
		tellsNothing(t, rep(207, plainMany(m), l...))
	}
}

// P13.2: Codes of what is told.
func TestCodes(t *testing.T) {
	m := api.Many{Rows: rows(3), Token: "t1"}
	for code := -10; code < 700; code++ {
		if r := rep(code, plainMany(m)); code == 207 {
			tells(t, r, m)
		} else {
			tellsNothing(t, r)
		}
	}
	for _, code := range []int{math.MinInt, math.MaxInt, 1<<32 + 207, 1<<16 + 207, 1<<8 + 207, -207, 2070} {
		tellsNothing(t, rep(code, plainMany(m)))
	}
}

// P13.2: short replies.
func TestShort(t *testing.T) {
	codes := []int{math.MinInt, math.MinInt32, math.MaxInt32, math.MaxInt, 1 << 32, 1<<32 + 204, 2040}
	for n := -5; n < 1000; n++ {
		codes = append(codes, n)
	}
	for _, code := range codes {
		for _, told := range []string{"", "e1", "e 1", strings.Repeat("e", 64), strings.Repeat("e", 65)} {
			isShort(t, code, told)
		}
	}
	r, no := dav.Short(201, "e1")
	isAnswer(t, "Short", "a Code", r, no, rep(201, "", "etag", `"e1"`), api.OK, sameReply)
}

// P13.2: marks of replies.
func TestMark(t *testing.T) {
	for _, c := range []struct {
		r    api.Reply
		want string
	}{
		{rep(204, ""), ""}, {api.Reply{}, ""}, {rep(204, "", "etags", `"e1"`), ""}, {rep(204, "", "eta", `"e1"`), ""}, {rep(204, "", "if-match", `"e1"`), ""}, {rep(204, "", "etag", ""), ""},
		{rep(204, "", "a", `"e0"`, "etag", `"e1"`, "f", `"e2"`), "e1"}, {rep(100, "a body", "etag", `"e1"`), "e1"}, {rep(207, plainMany(api.Many{}), "etag", `"e1"`), "e1"},
		{rep(500, "", "etag", `"`+strings.Repeat("e", 64)+`"`), strings.Repeat("e", 64)}, {rep(500, "", "etag", `"`+strings.Repeat("e", 65)+`"`), ""},
		{rep(204, `etag: "e1"`), ""}, {rep(204, "", "x-etag", `"e1"`), ""},
	} {
		mark, there := dav.Mark(c.r)
		is(t, "Mark of "+short(c.r), mark, c.want)
		is(t, "Mark of "+short(c.r), there, c.want != "")
	}
	r, _ := http.ReadReply([]byte("HTTP/1.1 201 Made\r\nETag: \"e7\"\r\n\r\n"))
	mark, there := dav.Mark(r)
	is(t, "Mark of bytes", mark, "e7")
	is(t, "Mark of bytes", there, true)
}

// P13.2: bodies as long as they may be, and longer ones.
func TestLong(t *testing.T) {
	// filled is what is told of four cards, with a body of so many bytes.
	filled := func(bytes int, of string, token string) api.Many {
		m := api.Many{Token: token}
		for i, h := range named(4) {
			m.Rows = append(m.Rows, api.Row{Href: h, Mark: "e" + strconv.Itoa(i), HasCard: true, Card: "x"})
		}
		cost := len(plainText(of))
		left := bytes - len(plainMany(m)) + 4
		for i := range m.Rows {
			part := left / 4
			if i == 3 {
				part = left - 3*(left/4)
			}
			m.Rows[i].Card = strings.Repeat(of, part/cost) + strings.Repeat("y", part%cost)
		}
		return m
	}
	for _, of := range []string{"x", "&", "\r", "<", "\xff", "\n"} {
		for _, token := range []string{"", "t1"} {
			for _, bytes := range []int{59998, 59999, 60000, 60001, 60002, 65534, 65535, 65536, 65537, 65538, 66000} {
				m := filled(bytes, of, token)
				if len(m.Rows[3].Card) > 16000 {
					continue
				}
				is(t, "the body's bytes", len(plainMany(m)), bytes)
				is(t, "that may be told", mayTell(m), true)
				isMany(t, m)
				// What may not be told at all is refused as such.
				m.Rows[2].Mark = ""
				isMany(t, m)
			}
		}
	}
	many := api.Many{}
	for _, h := range named(64) {
		many.Rows = append(many.Rows, api.Row{Href: h, Mark: "e1", HasCard: true, Card: strings.Repeat("x", 16000)})
	}
	isMany(t, many)
	many.Rows[63].Card += "x"
	isMany(t, many)
	isMany(t, api.Many{Rows: []api.Row{{Href: "/book/a", Mark: "e1", HasCard: true, Card: strings.Repeat("\r", 16000)}}})
	isAsk(t, api.Ask{Kind: api.AskPut, Href: "/book/" + strings.Repeat("a", 64), Card: strings.Repeat("\r", 16000), Only: strings.Repeat("e", 64)})
	// Bodies of blank bytes and something: as long as layer 12 has them.
	for _, bytes := range []int{59999, 60000, 60001, 65536, 65537} {
		for _, s := range []string{plainSync("t1"), plainCards("/book/a", "/book/b")} {
			is(t, "a long request", isOf(t, report(s+strings.Repeat(" ", bytes-len(s)))), bytes <= 60000)
		}
		s := plainMany(api.Many{Rows: rows(3), Token: "t1"})
		is(t, "a long reply", isRead(t, rep(207, s+strings.Repeat("\n", bytes-len(s)))), bytes <= 60000)
	}
}

// P13.1 and P13.2: bodies in the forms that layer 11 reads.
func TestForms(t *testing.T) {
	for _, s := range []string{
		`<?xml version="1.0"?><sync-collection xmlns="DAV:"><sync-token>t1</sync-token></sync-collection>`,
		"\n<D:sync-collection xmlns:D='DAV:'>\r\n\t<D:sync-token>t1</D:sync-token >\n </D:sync-collection>\n",
		`<sync-collection xmlns="DAV:"><x:sync-token xmlns:x="DAV:">t1</x:sync-token></sync-collection>`,
		`<x:sync-collection xmlns:x="DAV:"><sync-token xmlns="DAV:">t&#49;</sync-token></x:sync-collection>`,
		`<sync-collection xmlns="DAV:" a="1" b="&lt;"><sync-token c=""  d='2'>t1</sync-token></sync-collection>`,
		`<sync-collection xmlns:C="urn:card" xmlns="DAV:"><sync-token>&#116;1</sync-token></sync-collection>`,
	} {
		asks(t, report(s), api.Ask{Kind: api.AskSync, Token: "t1"})
	}
	for _, s := range []string{plainSync(""), `<sync-collection xmlns="DAV:"><sync-token></sync-token></sync-collection>`, `<sync-collection xmlns="DAV:"> <sync-token a="b" /> </sync-collection>`} {
		asks(t, report(s), api.Ask{Kind: api.AskSync})
	}
	for _, s := range []string{
		`<C:addressbook-multiget xmlns:C="urn:card" xmlns="DAV:"><href>/book/b</href><href>/book/a</href></C:addressbook-multiget>`,
		`<addressbook-multiget xmlns="urn:card" a="b"> <href c="d" xmlns="DAV:">/book/a</href> <D:href xmlns:D="DAV:">/book/b</D:href> </addressbook-multiget>`,
		`<x:addressbook-multiget xmlns:x="urn:card" xmlns:y="DAV:"><y:href>/book/a</y:href><y:href>/&#98;ook/b</y:href></x:addressbook-multiget>`,
	} {
		asks(t, report(s), api.Ask{Kind: api.AskCards, Hrefs: []string{"/book/a", "/book/b"}})
	}
	want := api.Many{Rows: []api.Row{{Href: "/book/a", Mark: "e1", HasCard: true, Card: " x\r\n"}, {Href: "/book/b", Gone: true}, {Href: "/book/c", Mark: "e3"}}, Token: "t3"}
	for _, s := range []string{
		`<?xml version="1.0" encoding="utf-8"?>` + "\n" + `<d:multistatus xmlns:d="DAV:" xmlns:c="urn:card"><d:response><d:href>/book/a</d:href><d:getetag>e1</d:getetag><c:address-data> x&#13;&#10;</c:address-data></d:response><d:response><d:href>/book/b</d:href><d:status>gone</d:status></d:response><d:response><d:href>/book/c</d:href><d:getetag>e3</d:getetag></d:response><d:sync-token>t3</d:sync-token></d:multistatus>`,
		`<multistatus xmlns="DAV:" a="1"> <response b="2"> <href c="3">/book/c</href> <getetag d="4">e3</getetag> </response> <response> <href>/book/b</href> <status e="5">gone</status> </response> <response> <href>/book/a</href> <getetag>e1</getetag> <address-data f="6" xmlns="urn:card"> x&#13;&#10;</address-data> </response> <sync-token g="7">t3</sync-token> </multistatus>`,
	} {
		tells(t, rep(207, s), want)
	}
	tells(t, rep(207, `<multistatus xmlns="DAV:"></multistatus>`), api.Many{})
	tells(t, rep(207, ` <a:multistatus xmlns:a="DAV:" b='c' /> `), api.Many{})
}

// P13.1: bodies that ask nothing.
func TestNoAsks(t *testing.T) {
	for _, s := range []string{
		"", " ", "t1", "<", "<a/>", `<sync-collection xmlns="DAV:"/>`, `<sync-collection xmlns="DAV:"></sync-collection>`, `<sync-collection xmlns="DAV:"> </sync-collection>`,
		`<sync-collection xmlns="DAV:">t1</sync-collection>`, `<sync-collection><sync-token/></sync-collection>`, `<sync-collection xmlns="DAV"><sync-token/></sync-collection>`, `<sync-collection xmlns="dav:"><sync-token/></sync-collection>`,
		`<sync-collection xmlns="urn:card"><sync-token xmlns="DAV:"/></sync-collection>`, `<sync-collection xmlns="DAV:"><sync-token xmlns=""/></sync-collection>`, `<sync-collection xmlns="DAV:"><sync-token xmlns="urn:card"/></sync-collection>`,
		`<sync-collection xmlns="DAV:"><sync-token/><sync-token/></sync-collection>`, `<sync-collection xmlns="DAV:"><sync-token>t1</sync-token><sync-token>t1</sync-token></sync-collection>`,
		`<sync-collection xmlns="DAV:"><sync-token/><sync-level>1</sync-level></sync-collection>`, `<sync-collection xmlns="DAV:"><prop/><sync-token/></sync-collection>`,
		`<sync-collection xmlns="DAV:"><sync-token><a/></sync-token></sync-collection>`, `<sync-collection xmlns="DAV:"><sync-token> </sync-token></sync-collection>`, `<sync-collection xmlns="DAV:"><sync-token> t1</sync-token></sync-collection>`, `<sync-collection xmlns="DAV:"><sync-token>t1` + "\n" + `</sync-token></sync-collection>`,
		`<sync-collection xmlns="DAV:"><href>/book/a</href></sync-collection>`, `<Sync-collection xmlns="DAV:"><sync-token/></Sync-collection>`, `<sync-collection xmlns="DAV:"><Sync-Token/></sync-collection>`, `<sync-token xmlns="DAV:">t1</sync-token>`,
		`<sync-collections xmlns="DAV:"><sync-token/></sync-collections>`, `<a xmlns="DAV:"><sync-collection><sync-token/></sync-collection></a>`, plainSync("t1") + plainSync("t1"), plainSync("t1") + "x",
		`<addressbook-multiget xmlns="urn:card"/>`, `<addressbook-multiget xmlns="urn:card"> </addressbook-multiget>`, `<addressbook-multiget xmlns="urn:card">/book/a</addressbook-multiget>`,
		`<addressbook-multiget xmlns="DAV:"><href>/book/a</href></addressbook-multiget>`, `<addressbook-multiget xmlns="urn:card"><href>/book/a</href></addressbook-multiget>`, `<addressbook-multiget xmlns="urn:card:"><href xmlns="DAV:">/book/a</href></addressbook-multiget>`,
		`<addressbook-multiget xmlns="urn:card"><href xmlns="DAV:"/></addressbook-multiget>`, `<addressbook-multiget xmlns="urn:card"><href xmlns="DAV:">/book/a<a/></href></addressbook-multiget>`, `<addressbook-multiget xmlns="urn:card"><href xmlns="DAV:"><a/></href></addressbook-multiget>`,
		`<addressbook-multiget xmlns="urn:card"><href xmlns="DAV:">/book/a</href><prop xmlns="DAV:"/></addressbook-multiget>`, `<addressbook-multiget xmlns="urn:card"><prop xmlns="DAV:"/><href xmlns="DAV:">/book/a</href></addressbook-multiget>`,
		`<addressbook-multiget xmlns="urn:card"><href xmlns="DAV:">/book/a</href><a/><href xmlns="DAV:">/book/b</href></addressbook-multiget>`, `<addressbook-multiget xmlns="urn:card"><sync-token xmlns="DAV:"/></addressbook-multiget>`,
		`<addressbook-multiget xmlns="urn:card"><href xmlns="DAV:"> /book/a</href></addressbook-multiget>`, `<addressbook-multiget xmlns="urn:card"><href xmlns="DAV:">/book/a /book/b</href></addressbook-multiget>`,
		plainCards("/book/a", "/book/a"), plainCards("/book/b", "/book/a", "/book/b"), plainCards("/book/"), plainCards("/book/a", ""), plainMany(api.Many{}), plainMany(api.Many{Token: "t1"}),
	} {
		asksNothing(t, report(s))
		isOf(t, report(s))
	}
}

// P13.2: bodies that tell nothing.
func TestNoMany(t *testing.T) {
	row := "<response><href>/book/a</href><getetag>e1</getetag></response>"
	for _, s := range []string{
		"", " ", "t1", "<", "<a/>", "<multistatus/>", `<multistatus xmlns="urn:card"/>`, `<multistatus xmlns="DAV"/>`, `<Multistatus xmlns="DAV:"/>`, `<multistatuses xmlns="DAV:"/>`, `<a xmlns="DAV:"><multistatus/></a>`, `<response xmlns="DAV:"><href>/book/a</href><getetag>e1</getetag></response>`,
		plainSync(""), plainSync("t1"), plainCards("/book/a"), plainMany(api.Many{}) + "x", plainMany(api.Many{}) + plainMany(api.Many{}),
	} {
		tellsNothing(t, rep(207, s))
		isRead(t, rep(207, s))
	}
	tells(t, rep(207, `<multistatus xmlns="DAV:">`+row+`</multistatus>`), api.Many{Rows: []api.Row{{Href: "/book/a", Mark: "e1"}}})
	for _, s := range []string{
		" ", "x", "\n", "<sync-token/>", "<sync-token></sync-token>", "<sync-token> </sync-token>", "<sync-token><a/></sync-token>", "<sync-token>t 1</sync-token>", "<sync-token xmlns='urn:card'>t1</sync-token>", "<sync-token>t1</sync-token><sync-token>t1</sync-token>",
		"<sync-token>t1</sync-token>" + row, row + "<a/>", "<a/>" + row, row + "<a/><sync-token>t1</sync-token>", row + "<sync-token>t1</sync-token><a/>", row + "<a/>" + strings.ReplaceAll(row, "/a<", "/b<"), row + row, row + "<sync-token>t1</sync-token>" + strings.ReplaceAll(row, "/a<", "/b<"),
		"<response/>", "<response> </response>", "<response>x</response>", "<response><a/></response>", "<response><href>/book/a</href></response>", "<response><href>/book/</href><getetag>e1</getetag></response>", "<response><getetag>e1</getetag></response>", "<response><status>gone</status></response>",
		"<response><getetag>e1</getetag><href>/book/a</href></response>", "<response><status>gone</status><href>/book/a</href></response>", "<response><href>/book/a</href><href>/book/a</href><getetag>e1</getetag></response>", "<response><href>/book/a</href><href>/book/b</href><status>gone</status></response>",
		"<response><href>/book/a</href><status>gone</status><getetag>e1</getetag></response>", "<response><href>/book/a</href><getetag>e1</getetag><status>gone</status></response>", "<response><href>/book/a</href><status>gone</status><status>gone</status></response>", "<response><href>/book/a</href><getetag>e1</getetag><getetag>e1</getetag></response>",
		"<response><href>/book/a</href><status/></response>", "<response><href>/book/a</href><status>Gone</status></response>", "<response><href>/book/a</href><status> gone</status></response>", "<response><href>/book/a</href><status>gone </status></response>", "<response><href>/book/a</href><status>there</status></response>", "<response><href>/book/a</href><status>HTTP/1.1 404 Not Found</status></response>", "<response><href>/book/a</href><status><gone/></status></response>", "<response><href>/book/a</href><status xmlns='urn:card'>gone</status></response>",
		"<response><href>/book/a</href><getetag/></response>", "<response><href>/book/a</href><getetag>\"e1\"</getetag></response>", "<response><href>/book/a</href><getetag> e1</getetag></response>", "<response><href>/book/a</href><getetag><e1/></getetag></response>", "<response><href>/book/a</href><getetag xmlns='urn:card'>e1</getetag></response>", "<response><href>/book/a</href><etag>e1</etag></response>",
		"<response><href>/book/a</href><getetag>e1</getetag><address-data>x</address-data></response>", "<response><href>/book/a</href><getetag>e1</getetag><address-data xmlns='urn:card'/></response>", "<response><href>/book/a</href><getetag>e1</getetag><address-data xmlns='urn:card'><a/></address-data></response>", "<response><href>/book/a</href><getetag>e1</getetag><address-data xmlns='urn:card'>x</address-data><address-data xmlns='urn:card'>x</address-data></response>",
		"<response><href>/book/a</href><address-data xmlns='urn:card'>x</address-data><getetag>e1</getetag></response>", "<response><href>/book/a</href><address-data xmlns='urn:card'>x</address-data></response>", "<response><href>/book/a</href><status>gone</status><address-data xmlns='urn:card'>x</address-data></response>", "<response><href>/book/a</href><getetag>e1</getetag><a/></response>", "<response><href>/book/a</href><a/><getetag>e1</getetag></response>", "<response><a/><href>/book/a</href><getetag>e1</getetag></response>",
		"<response xmlns='urn:card'><href xmlns='DAV:'>/book/a</href><getetag xmlns='DAV:'>e1</getetag></response>", "<response><href xmlns='urn:card'>/book/a</href><getetag>e1</getetag></response>", "<response><href><a/></href><getetag>e1</getetag></response>", "<Response><href>/book/a</href><getetag>e1</getetag></Response>", "<response><href>/book/a</href><getetag>e1</getetag><address-data xmlns='urn:card'>" + strings.Repeat("x", 16001) + "</address-data></response>",
	} {
		tellsNothing(t, rep(207, `<multistatus xmlns="DAV:">`+s+`</multistatus>`))
		isRead(t, rep(207, `<multistatus xmlns="DAV:">`+s+`</multistatus>`))
	}
}

// pick tells one of some.
func pick[T any](r *rand.Rand, l ...T) T { return l[r.Intn(len(l))] }

// randomText tells a text of these bytes, with one at least.
func randomText(r *rand.Rand, of string, most int) string {
	b := make([]byte, 1+r.Intn(most))
	for i := range b {
		b[i] = of[r.Intn(len(of))]
	}
	return string(b)
}

func randomMark(r *rand.Rand) string { return randomText(r, "aZ0-._", 4) }

func randomCard(r *rand.Rand) string {
	return randomText(r, "x \t\r\n<>&\"'%;#\xff\xc3", pick(r, 1, 5, 60))
}

// randomHrefs tells places, rising.
func randomHrefs(r *rand.Rand, most int) []string {
	var l []string
	for range r.Intn(most) {
		l = append(l, "/book/"+randomMark(r))
	}
	sort.Strings(l)
	return slices.Compact(l)
}

// randomAsk tells something that may be asked.
func randomAsk(r *rand.Rand) api.Ask {
	switch href, only := "/book/"+randomMark(r), pick(r, "", randomMark(r)); r.Intn(4) {
	case 0:
		return api.Ask{Kind: api.AskSync, Token: only}
	case 1:
		return api.Ask{Kind: api.AskCards, Hrefs: append([]string{"/book/-"}, randomHrefs(r, 5)...)[:1]}
	case 2:
		return api.Ask{Kind: api.AskPut, Href: href, Card: randomCard(r), Only: only, New: only == "" && r.Intn(2) == 0}
	default:
		return api.Ask{Kind: api.AskDrop, Href: href, Only: only}
	}
}

// randomMany tells something that may be told.
func randomMany(r *rand.Rand) api.Many {
	m := api.Many{Token: pick(r, "", randomMark(r))}
	for _, h := range randomHrefs(r, 6) {
		m.Rows = append(m.Rows, pick(r, api.Row{Href: h, Gone: true}, api.Row{Href: h, Mark: randomMark(r)}, api.Row{Href: h, Mark: randomMark(r), HasCard: true, Card: randomCard(r)}))
	}
	return m
}

// looseText tells a Text in one of the forms that layer 11 reads.
func looseText(r *rand.Rand, s string) string {
	told := ""
	for _, c := range []byte(s) {
		one := string([]byte{c})
		l := []string{fmt.Sprintf("&#%d;", c), plainText(one), plainText(one), plainText(one)}
		if c == '>' || c == '"' {
			l = append(l, one)
		}
		told += pick(r, l...)
	}
	return told
}

// looseBlanks tells blank bytes, or none.
func looseBlanks(r *rand.Rand) string { return pick(r, "", "", " ", "\n", "\r\n\t ") }

// looseElement tells an element in one of the forms that layer 11 reads.
func looseElement(r *rand.Rand, e api.Element) string {
	said, name := ` xmlns="`+e.Space+`"`, e.Name
	if r.Intn(2) == 0 {
		prefix := pick(r, "d", "C.9", "xmln", "a-b")
		said, name = pick(r, " ", "\n\t")+"xmlns:"+prefix+"='"+e.Space+"'", prefix+":"+name
	}
	parts := []string{said}
	for _, n := range []string{"a", "href", "sync-token"} {
		if r.Intn(4) == 0 {
			parts = append(parts, " "+n+"="+pick(r, `""`, `'1'`, `"&lt;"`, `'"'`, "'gone'"))
		}
	}
	r.Shuffle(len(parts), func(i, j int) { parts[i], parts[j] = parts[j], parts[i] })
	s := "<" + name + strings.Join(parts, "") + looseBlanks(r)
	if e.Text == "" && len(e.Kids) == 0 && r.Intn(2) == 0 {
		return s + "/>"
	}
	s += ">" + looseText(r, e.Text)
	for _, kid := range e.Kids {
		s += looseBlanks(r) + looseElement(r, kid)
	}
	if len(e.Kids) > 0 {
		s += looseBlanks(r)
	}
	return s + "</" + name + looseBlanks(r) + ">"
}

// looseBody tells a body in one of the forms that layer 11 reads, with hrefs or responses in any order.
func looseBody(r *rand.Rand, body string) []byte {
	e, no := xml.Parse(body)
	if no != api.OK {
		panic(no)
	}
	last := len(e.Kids)
	if last > 0 && e.Kids[last-1].Name == "sync-token" {
		last--
	}
	r.Shuffle(last, func(i, j int) { e.Kids[i], e.Kids[j] = e.Kids[j], e.Kids[i] })
	return []byte(pick(r, "", "", "<?xml version='1.0'?>") + looseBlanks(r) + looseElement(r, e) + looseBlanks(r))
}

// looseHeads tells Heads with others among them.
func looseHeads(r *rand.Rand, l []api.Head) []api.Head {
	l = slices.Clone(l)
	for _, n := range []string{"accept", "content-type", "etag", "if", "if-n", "x"} {
		if r.Intn(3) == 0 {
			l = append(l, api.Head{Name: n, Value: pick(r, "", "*", `"e1"`, "text/xml")})
		}
	}
	sort.Slice(l, func(i, j int) bool { return l[i].Name < l[j].Name })
	return l
}

// P13.1 to P13.3: many asked and told things as they fall, in their own form and in the others that they may have.
func TestMany(t *testing.T) {
	r := rand.New(rand.NewSource(13))
	for range 6000 {
		a := randomAsk(r)
		if a.Kind == api.AskCards {
			a.Hrefs = slices.Compact(slices.Sorted(slices.Values(append(a.Hrefs, randomHrefs(r, 9)...))))
		}
		is(t, short(a)+" may be asked", mayAsk(a), true)
		isAsk(t, a)
		q := plainRequest(a)
		q.Heads = looseHeads(r, q.Heads)
		if q.Method == "REPORT" {
			q.Body = looseBody(r, string(q.Body))
		}
		asks(t, q, a)
		isOf(t, q)
		m := randomMany(r)
		is(t, short(m)+" may be told", mayTell(m), true)
		isMany(t, m)
		p := api.Reply{Code: 207, Heads: looseHeads(r, nil), Body: looseBody(r, plainMany(m))}
		tells(t, p, m)
		isRead(t, p)
		if t.Failed() {
			return
		}
	}
}

// changed is a text with a change somewhere.
func changed(r *rand.Rand, s string, pieces ...string) string {
	at := r.Intn(len(s) + 1)
	return s[:at] + pick(r, pieces...) + s[min(len(s), at+r.Intn(3)):]
}

// P13.1 and P13.2: many messages with changes here and there, held against the chapter's words.
func TestManyChanged(t *testing.T) {
	r := rand.New(rand.NewSource(14))
	pieces := []string{"", "", "a", "/", "/book/", "<", ">", " ", "\n", "\x00", "\xff", "\"", "*", "<a/>", "<href/>", "<href>/book/a</href>", "<response>", "</response>", "<status>gone</status>", "<getetag>e1</getetag>", "<sync-token>t1</sync-token>", "xmlns=\"DAV:\"", "urn:card", "&#97;", "e1"}
	good := 0
	for range 40000 {
		q := plainRequest(randomAsk(r))
		q.Heads = looseHeads(r, q.Heads)
		p := api.Reply{Code: pick(r, 207, 207, 207, 207, 200, 204, 208), Heads: looseHeads(r, nil), Body: []byte(plainMany(randomMany(r)))}
		switch r.Intn(5) {
		case 0:
			q.Path = changed(r, q.Path, pieces...)
		case 1:
			q.Method = pick(r, "PUT", "DELETE", "REPORT", "GET", changed(r, q.Method, pieces...))
		case 2:
			if len(q.Heads) > 0 {
				h := &q.Heads[r.Intn(len(q.Heads))]
				h.Value = changed(r, h.Value, pieces...)
			}
		default:
			q.Body = []byte(changed(r, string(q.Body), pieces...))
		}
		if r.Intn(2) == 0 {
			p.Body = looseBody(r, string(p.Body))
		}
		p.Body = []byte(changed(r, string(p.Body), pieces...))
		if isOf(t, q) {
			good++
		}
		if isRead(t, p) {
			good++
		}
		if t.Failed() {
			return
		}
	}
	if good < 5000 || good > 75000 {
		t.Errorf("%d of the messages ask or tell something", good)
	}
}

// P13.1 and P13.2: trees of elements as they fall, held against the chapter's words.
func TestTrees(t *testing.T) {
	r := rand.New(rand.NewSource(15))
	leaves := []api.Element{
		{Space: "DAV:", Name: "href", Text: "/book/a"}, {Space: "DAV:", Name: "href", Text: "/book/b"}, {Space: "DAV:", Name: "href", Text: "/book/c"}, {Space: "DAV:", Name: "href"}, {Space: "urn:card", Name: "href", Text: "/book/a"},
		{Space: "DAV:", Name: "sync-token", Text: "t1"}, {Space: "DAV:", Name: "sync-token"}, {Space: "DAV:", Name: "status", Text: "gone"}, {Space: "DAV:", Name: "getetag", Text: "e1"}, {Space: "DAV:", Name: "getetag", Text: "e2"},
		{Space: "urn:card", Name: "address-data", Text: "x"}, {Space: "DAV:", Name: "address-data", Text: "x"}, {Space: "DAV:", Name: "a"},
	}
	around := []api.Element{{Space: "DAV:", Name: "multistatus"}, {Space: "DAV:", Name: "multistatus"}, {Space: "DAV:", Name: "response"}, {Space: "DAV:", Name: "response"}, {Space: "DAV:", Name: "sync-collection"}, {Space: "urn:card", Name: "addressbook-multiget"}, {Space: "urn:card", Name: "multistatus"}, {Space: "urn:card", Name: "response"}}
	var tree func(e api.Element, depth int) api.Element
	tree = func(e api.Element, depth int) api.Element {
		for range r.Intn(4) {
			if e.Name == "multistatus" && depth > 0 && r.Intn(8) > 0 {
				row := api.Element{Space: "DAV:", Name: "response", Kids: []api.Element{leaves[r.Intn(3)], leaves[7+r.Intn(3)]}}
				if r.Intn(3) == 0 {
					row.Kids = append(row.Kids, leaves[5+r.Intn(8)])
				}
				e.Kids = append(e.Kids, row)
			} else if depth > 0 && r.Intn(3) == 0 {
				e.Kids = append(e.Kids, tree(pick(r, around...), depth-1))
			} else {
				e.Kids = append(e.Kids, pick(r, leaves...))
			}
		}
		return e
	}
	asked, told := 0, 0
	for range 60000 {
		e := tree(pick(r, around...), 2)
		s, no := xml.Text(e)
		is(t, "Text", no, api.OK)
		if isOf(t, report(s)) {
			asked++
		}
		if isRead(t, rep(207, s)) {
			told++
		}
		if t.Failed() {
			return
		}
	}
	if asked < 500 || told < 2000 {
		t.Errorf("%d of the trees ask something, %d tell something", asked, told)
	}
}

// P13.1 and P13.2: bytes of a message, whole or cut, held against the chapter's words.
func TestCuts(t *testing.T) {
	for _, s := range []string{plainSync("t1"), plainCards("/book/b", "/book/a"), plainMany(api.Many{Rows: rows(3), Token: "t1"})} {
		for at := range len(s) + 1 {
			isOf(t, report(s[:at]))
			isRead(t, rep(207, s[:at]))
			isOf(t, report(s[at:]))
			isRead(t, rep(207, s[at:]))
			for _, more := range []string{"", " ", "a", "<a/>", "<", "\x00"} {
				isOf(t, report(s[:at]+more+s[at:]))
				isRead(t, rep(207, s[:at]+more+s[at:]))
				isOf(t, report(s[:at]+more+s[min(len(s), at+1):]))
				isRead(t, rep(207, s[:at]+more+s[min(len(s), at+1):]))
			}
		}
	}
}

// spare is a list with spare room behind it, in which something stands.
func spare[T any](l []T, behind T) []T { return append(slices.Clone(l), behind)[:len(l)] }

// isUnspoiled fails where a list, or its spare room, is not as spare made it.
func isUnspoiled[T comparable](t *testing.T, what string, l, want []T, behind T) {
	t.Helper()
	if !slices.Equal(l, want) {
		t.Errorf("%s is changed", what)
	}
	is(t, what+": spare room", l[:len(l)+1][len(l)], behind)
}

// spoil changes all of a list that can be changed, its spare room, too.
func spoil[T any](l []T, other T) {
	l = l[:cap(l)]
	for i := range l {
		l[i] = other
	}
}

// other is a head that stands nowhere else.
var other = api.Head{Name: "spare", Value: "room"}

// P13.1: what is handed in is neither changed nor kept, and what is answered is new memory.
func TestMemoryOfRequests(t *testing.T) {
	falling := []string{"/book/c", "/book/b", "/book/a"}
	rising := []string{"/book/a", "/book/b", "/book/c"}
	a := api.Ask{Kind: api.AskCards, Hrefs: spare(rising, "#")}
	for range 2 {
		q, no := dav.Request(a)
		isAnswer(t, "Request", a, q, no, report(plainCards(rising...)), api.OK, sameRequest)
		spoil(q.Body, '!')
	}
	isUnspoiled(t, "Hrefs", a.Hrefs, rising, "#")
	l := heads("accept", "x", "if-match", `"e1"`)
	for _, s := range []string{plainCards(falling...), plainSync("t1")} {
		q := req("REPORT", "/book/", "")
		q.Body = spare([]byte(s), '#')
		first, _ := dav.Of(q)
		second, _ := dav.Of(q)
		isUnspoiled(t, "Body", q.Body, []byte(s), '#')
		spoil(first.Hrefs, "#")
		spoil(q.Body, '!')
		want, _ := plainOf(report(s))
		isAnswer(t, "Of", "bytes that are spoilt then", second, api.OK, want, api.OK, sameAsk)
	}
	for _, method := range []string{"PUT", "DELETE"} {
		body := []byte("a card's text")
		if method == "DELETE" {
			body = nil
		}
		q := api.Request{Method: method, Path: "/book/a", Heads: spare(l, other), Body: spare(body, '#')}
		got, no := dav.Of(q)
		is(t, method, no, api.OK)
		isUnspoiled(t, "Heads", q.Heads, l, other)
		isUnspoiled(t, "Body", q.Body, body, '#')
		spoil(q.Heads, other)
		spoil(q.Body, '!')
		is(t, method+": Card", got.Card, string(body))
		is(t, method+": Only", got.Only, "e1")
		for range 2 {
			q, no := dav.Request(got)
			isAnswer(t, "Request", got, q, no, plainRequest(got), api.OK, sameRequest)
			spoil(q.Heads, other)
			spoil(q.Body, '!')
		}
	}
}

// P13.2: what is handed in is neither changed nor kept, and what is answered is new memory.
func TestMemoryOfReplies(t *testing.T) {
	up, down := rows(3), rows(3)
	slices.Reverse(down)
	m := api.Many{Rows: spare(up, api.Row{Card: "#"}), Token: "t1"}
	for range 2 {
		r, no := dav.Reply(m)
		isAnswer(t, "Reply", m, r, no, rep(207, plainMany(m)), api.OK, sameReply)
		spoil(r.Body, '!')
	}
	isUnspoiled(t, "Rows", m.Rows, up, api.Row{Card: "#"})
	s := []byte(plainMany(api.Many{Rows: down, Token: "t1"}))
	r := api.Reply{Code: 207, Heads: spare(heads("etag", `"e1"`), other), Body: spare(s, '#')}
	first, _ := dav.Read(r)
	second, _ := dav.Read(r)
	dav.Mark(r)
	isUnspoiled(t, "Heads", r.Heads, heads("etag", `"e1"`), other)
	isUnspoiled(t, "Body", r.Body, s, '#')
	spoil(first.Rows, api.Row{})
	spoil(r.Body, '!')
	spoil(r.Heads, other)
	isAnswer(t, "Read", "bytes that are spoilt then", second, api.OK, api.Many{Rows: up, Token: "t1"}, api.OK, sameMany)
	for range 2 {
		r, no := dav.Short(204, "e1")
		isAnswer(t, "Short", "a Code", r, no, rep(204, "", "etag", `"e1"`), api.OK, sameReply)
		spoil(r.Heads, other)
	}
}

// P13.1 and P13.2: nil and empty are the same.
func TestNil(t *testing.T) {
	for _, a := range []api.Ask{{Kind: api.AskSync}, {Kind: api.AskPut, Href: "/book/a", Card: "x"}, {Kind: api.AskDrop, Href: "/book/a"}, {Kind: api.AskCards}} {
		isAsk(t, a)
		a.Hrefs = []string{}
		isAsk(t, a)
	}
	isMany(t, api.Many{Rows: []api.Row{}})
	for _, q := range []api.Request{{Method: "DELETE", Path: "/book/a"}, {Method: "DELETE", Path: "/book/a", Heads: []api.Head{}, Body: []byte{}}} {
		asks(t, q, api.Ask{Kind: api.AskDrop, Href: "/book/a"})
	}
	asksNothing(t, api.Request{}, api.Request{Method: "REPORT", Path: "/book/"}, api.Request{Method: "REPORT", Path: "/book/", Body: []byte{}}, api.Request{Method: "PUT", Path: "/book/a"}, api.Request{Method: "PUT", Path: "/book/a", Body: []byte{}})
	tellsNothing(t, api.Reply{}, api.Reply{Code: 207}, api.Reply{Code: 207, Heads: []api.Head{}, Body: []byte{}})
}

// All calls end, of very large things.
func TestHuge(t *testing.T) {
	long := strings.Repeat("a", 1<<23)
	is(t, "Href", dav.Href("/book/"+long), false)
	isShort(t, 204, long)
	for _, a := range []api.Ask{
		{Kind: api.AskSync, Token: long}, {Kind: api.AskCards, Hrefs: named(1 << 20)}, {Kind: api.AskCards, Hrefs: make([]string, 1<<20)}, {Kind: api.AskCards, Hrefs: []string{"/book/" + long}},
		{Kind: api.AskPut, Href: "/book/a", Card: long}, {Kind: api.AskPut, Href: "/book/" + long, Card: "x"}, {Kind: api.AskPut, Href: "/book/a", Card: "x", Only: long}, {Kind: api.AskDrop, Href: "/book/" + long}, {Kind: api.AskDrop, Href: "/book/a", Hrefs: named(1 << 20)}, {Kind: math.MaxInt, Card: long},
	} {
		q, no := dav.Request(a)
		isAnswer(t, "Request", "a very large thing", q, no, api.Request{}, api.ErrArg, sameRequest)
	}
	for _, m := range []api.Many{
		{Token: long}, {Rows: rows(1 << 18)}, {Rows: make([]api.Row, 1<<18)}, {Rows: []api.Row{{Href: "/book/" + long, Gone: true}}}, {Rows: []api.Row{{Href: "/book/a", Mark: long}}}, {Rows: []api.Row{{Href: "/book/a", Mark: "e1", HasCard: true, Card: long}}},
	} {
		r, no := dav.Reply(m)
		isAnswer(t, "Reply", "a very large thing", r, no, api.Reply{}, api.ErrArg, sameReply)
	}
	kids := `<multistatus xmlns="DAV:">` + strings.Repeat("<response><href>/book/a</href><status>gone</status></response>", 1<<16) + "</multistatus>"
	deep := strings.Repeat("<multistatus xmlns='DAV:'>", 1<<16) + strings.Repeat("</multistatus>", 1<<16)
	many := make([]api.Head, 1<<18)
	for _, body := range []string{long, kids, deep, plainCards(named(1 << 12)...), strings.Repeat("<", 1<<22), plainSync(long)} {
		asksNothing(t, report(body), req("PUT", "/book/a", body), req("DELETE", "/book/a", body), req(strings.ToUpper(long), "/book/a", body), req("PUT", "/book/"+long, body))
		tellsNothing(t, rep(207, body))
	}
	asksNothing(t, api.Request{Method: "DELETE", Path: "/book/a", Heads: many})
	tellsNothing(t, api.Reply{Code: 207, Heads: many, Body: []byte(plainMany(api.Many{}))})
	mark, there := dav.Mark(api.Reply{Code: 204, Heads: append(many, heads("etag", `"e1"`)...)})
	is(t, "Mark of very many Heads", mark, "e1")
	is(t, "Mark of very many Heads", there, true)
	_, there = dav.Mark(rep(204, "", "etag", `"`+long+`"`))
	is(t, "Mark of a very long Value", there, false)
}

// P13.1 and P13.2: what goes as bytes comes as it went.
func TestBytes(t *testing.T) {
	r := rand.New(rand.NewSource(16))
	for range 1000 {
		a, m := randomAsk(r), randomMany(r)
		q, no := dav.Request(a)
		is(t, "Request", no, api.OK)
		b, no := http.Request(q)
		is(t, "Request as bytes", no, api.OK)
		q, no = http.ReadRequest(b)
		is(t, "ReadRequest", no, api.OK)
		asks(t, q, a)
		p, no := dav.Reply(m)
		is(t, "Reply", no, api.OK)
		b, no = http.Chunks(p, 1+r.Intn(200))
		is(t, "Reply as bytes", no, api.OK)
		p, no = http.ReadReply(b)
		is(t, "ReadReply", no, api.OK)
		tells(t, p, m)
	}
}
