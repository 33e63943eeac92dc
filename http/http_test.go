package http_test

import (
	"fmt"
	"math"
	"math/rand"
	"regexp"
	"slices"
	"strconv"
	"strings"
	"testing"

	"cardcase/api"
	"cardcase/http"
)

// is fails where an answer is another than the one that is asked for.
func is[T comparable](t *testing.T, what string, got, want T) {
	t.Helper()
	if got != want {
		t.Errorf("%s: %#v, want %#v", what, got, want)
	}
}

// short tells a text that may be long.
func short(s string) string {
	if len(s) > 200 {
		return strconv.Quote(s[:200]) + " and more, " + strconv.Itoa(len(s)) + " bytes"
	}
	return strconv.Quote(s)
}

// heads are Heads: Names and Values, by turns.
func heads(l ...string) []api.Head {
	var all []api.Head
	for i := 0; i < len(l); i += 2 {
		all = append(all, api.Head{Name: l[i], Value: l[i+1]})
	}
	return all
}

// req is a request.
func req(method, path, body string, l ...string) api.Request {
	return api.Request{Method: method, Path: path, Heads: heads(l...), Body: []byte(body)}
}

// rep is a reply.
func rep(code int, body string, l ...string) api.Reply {
	return api.Reply{Code: code, Heads: heads(l...), Body: []byte(body)}
}

// message is a request or a reply, told as a line without what may stand there in several forms.
type message struct {
	first string
	heads []api.Head
	body  string
}

// ofRequest and ofReply tell what messages are in common.
func ofRequest(q api.Request) message {
	return message{q.Method + " " + q.Path + " HTTP/1.1", q.Heads, string(q.Body)}
}

func ofReply(r api.Reply) message {
	return message{"HTTP/1.1 " + strconv.Itoa(r.Code), r.Heads, string(r.Body)}
}

// plain tells a message's bytes, as the chapter's 'Words' say.
func plain(m message) string {
	return plainAhead(m) + fmt.Sprintf("content-length: %d\r\n\r\n%s", len(m.body), m.body)
}

// plainChunks tells a message's bytes in chunks of that many bytes.
func plainChunks(m message, size int) string {
	var s strings.Builder
	s.WriteString(plainAhead(m) + "transfer-encoding: chunked\r\n\r\n")
	for body := m.body; body != ""; {
		n := min(size, len(body))
		s.WriteString(fmt.Sprintf("%x", n) + "\r\n" + body[:n] + "\r\n")
		body = body[n:]
	}
	return s.String() + "0\r\n\r\n"
}

// plainAhead tells a message's first line and its Heads.
func plainAhead(m message) string {
	s := m.first + "\r\n"
	for _, h := range m.heads {
		s += h.Name + ": " + h.Value + "\r\n"
	}
	return s
}

const valueForm = `(?:[!-~](?:[ -~]{0,198}[!-~])?)?`

var (
	requestLine = regexp.MustCompile(`^([A-Z]{1,20}) (/[!-~]{0,199}) HTTP/1\.1\r\n`)
	replyLine   = regexp.MustCompile(`^HTTP/1\.1 ([1-5][0-9][0-9])(?: [ -~]*)?\r\n`)
	headLine    = regexp.MustCompile(`^([A-Za-z][A-Za-z0-9-]{0,63}):[ \t]*(` + valueForm + `)[ \t]*\r\n`)
	chunkLine   = regexp.MustCompile(`^([0-9A-Fa-f]{1,5})\r\n`)
	isLength    = regexp.MustCompile(`^(?:0|[1-9][0-9]{0,4})$`)
	isMethod    = regexp.MustCompile(`^[A-Z]{1,20}$`)
	isPath      = regexp.MustCompile(`^/[!-~]{0,199}$`)
	isName      = regexp.MustCompile(`^[a-z][a-z0-9-]{0,63}$`)
	isValue     = regexp.MustCompile(`^` + valueForm + `$`)
)

// mayHeads tells whether these may be Heads, as the chapter's 'Words' say.
func mayHeads(l []api.Head) bool {
	var names []string
	for _, h := range l {
		if !isName.MatchString(h.Name) || !isValue.MatchString(h.Value) {
			return false
		}
		names = append(names, h.Name)
	}
	once := slices.Compact(slices.Sorted(slices.Values(names)))
	return len(l) <= 16 && slices.Equal(names, once) && !slices.Contains(names, "content-length") && !slices.Contains(names, "transfer-encoding")
}

// plainBody tells the Body that stands behind heads, which lengths tell of, and nothing behind it.
func plainBody(s string, lengths map[string]string) (string, bool) {
	length, hasLength := lengths["content-length"]
	coding, hasCoding := lengths["transfer-encoding"]
	if !hasCoding {
		if !hasLength {
			length = "0"
		}
		return s, isLength.MatchString(length) && length == strconv.Itoa(len(s))
	}
	body := ""
	for !strings.HasPrefix(s, "0\r\n") {
		found := chunkLine.FindStringSubmatch(s)
		if found == nil {
			return "", false
		}
		n, _ := strconv.ParseInt(found[1], 16, 64)
		s = s[len(found[0]):]
		if n < 1 || int64(len(s)) < n+2 || s[n:n+2] != "\r\n" {
			return "", false
		}
		body += s[:n]
		s = s[n+2:]
	}
	return body, s == "0\r\n\r\n" && !hasLength && strings.EqualFold(coding, "chunked")
}

// plainRead tells the message of bytes behind its first line.
func plainRead(s string) (l []api.Head, body string, is bool) {
	lengths := map[string]string{}
	names := map[string]bool{}
	for !strings.HasPrefix(s, "\r\n") {
		found := headLine.FindStringSubmatch(s)
		if found == nil {
			return nil, "", false
		}
		s = s[len(found[0]):]
		name := strings.ToLower(found[1])
		if names[name] {
			return nil, "", false
		}
		names[name] = true
		if name == "content-length" || name == "transfer-encoding" {
			lengths[name] = found[2]
		} else {
			l = append(l, api.Head{Name: name, Value: found[2]})
		}
	}
	body, is = plainBody(s[2:], lengths)
	slices.SortFunc(l, func(a, b api.Head) int { return strings.Compare(a.Name, b.Name) })
	return l, body, is && len(l) <= 16 && len(body) <= 60000
}

// plainRequest tells the request of bytes, as the chapter's 'Words' say it.
func plainRequest(s string) (api.Request, bool) {
	found := requestLine.FindStringSubmatch(s)
	if found == nil {
		return api.Request{}, false
	}
	l, body, is := plainRead(s[len(found[0]):])
	return api.Request{Method: found[1], Path: found[2], Heads: l, Body: []byte(body)}, is
}

// plainReply tells the reply of bytes, as the chapter's 'Words' say it.
func plainReply(s string) (api.Reply, bool) {
	found := replyLine.FindStringSubmatch(s)
	if found == nil {
		return api.Reply{}, false
	}
	l, body, is := plainRead(s[len(found[0]):])
	code, _ := strconv.Atoi(found[1])
	return api.Reply{Code: code, Heads: l, Body: []byte(body)}, is
}

// isMessage fails where a message is another than the one that is asked for; nil and empty are the same.
func isMessage(t *testing.T, what string, got, want message) {
	t.Helper()
	if got.first != want.first || !slices.Equal(got.heads, want.heads) || got.body != want.body {
		t.Errorf("%s: %.300q, want %.300q", what, fmt.Sprint(got), fmt.Sprint(want))
	}
}

// isRequest fails where ReadRequest does not tell the request.
func isRequest(t *testing.T, s string, want api.Request) {
	t.Helper()
	q, no := http.ReadRequest([]byte(s))
	is(t, "ReadRequest("+short(s)+")", no, api.OK)
	isMessage(t, "ReadRequest("+short(s)+")", ofRequest(q), ofRequest(want))
}

// isReply fails where ReadReply does not tell the reply.
func isReply(t *testing.T, s string, want api.Reply) {
	t.Helper()
	r, no := http.ReadReply([]byte(s))
	is(t, "ReadReply("+short(s)+")", no, api.OK)
	isMessage(t, "ReadReply("+short(s)+")", ofReply(r), ofReply(want))
}

// isNoRequest fails where ReadRequest does not refuse bytes.
func isNoRequest(t *testing.T, s string) {
	t.Helper()
	q, no := http.ReadRequest([]byte(s))
	is(t, "ReadRequest("+short(s)+")", no, api.ErrHttp)
	isMessage(t, "ReadRequest("+short(s)+") tells nothing", ofRequest(q), ofRequest(api.Request{}))
}

// isNoReply fails where ReadReply does not refuse bytes.
func isNoReply(t *testing.T, s string) {
	t.Helper()
	r, no := http.ReadReply([]byte(s))
	is(t, "ReadReply("+short(s)+")", no, api.ErrHttp)
	isMessage(t, "ReadReply("+short(s)+") tells nothing", ofReply(r), ofReply(api.Reply{}))
}

// isRead fails where what stands behind a first line is not read as of a request and of a reply.
func isRead(t *testing.T, s, body string, l ...string) {
	t.Helper()
	isRequest(t, "PUT /a HTTP/1.1\r\n"+s, req("PUT", "/a", body, l...))
	isReply(t, "HTTP/1.1 200 OK\r\n"+s, rep(200, body, l...))
}

// isNone fails where what stands behind a first line is not refused, as of a request and of a reply.
func isNone(t *testing.T, s string) {
	t.Helper()
	isNoRequest(t, "PUT /a HTTP/1.1\r\n"+s)
	isNoReply(t, "HTTP/1.1 200\r\n"+s)
}

// isAsTold fails where ReadRequest and ReadReply do not answer as the chapter's 'Words' say.
func isAsTold(t *testing.T, s string) {
	t.Helper()
	if q, is := plainRequest(s); is {
		isRequest(t, s, q)
	} else {
		isNoRequest(t, s)
	}
	if r, is := plainReply(s); is {
		isReply(t, s, r)
	} else {
		isNoReply(t, s)
	}
}

// isGoodRequest fails where Request and ReadRequest do not answer as of a request that may be.
func isGoodRequest(t *testing.T, what string, q api.Request) {
	t.Helper()
	b, no := http.Request(q)
	is(t, what+": Request", no, api.OK)
	if want := plain(ofRequest(q)); string(b) != want {
		t.Errorf("%s: Request: %s, want %s", what, short(string(b)), short(want))
	}
	isRequest(t, plain(ofRequest(q)), q)
}

// isGoodReply fails where Reply, Chunks and ReadReply do not answer as of a reply that may be.
func isGoodReply(t *testing.T, what string, r api.Reply, sizes ...int) {
	t.Helper()
	b, no := http.Reply(r)
	is(t, what+": Reply", no, api.OK)
	if want := plain(ofReply(r)); string(b) != want {
		t.Errorf("%s: Reply: %s, want %s", what, short(string(b)), short(want))
	}
	isReply(t, plain(ofReply(r)), r)
	for _, size := range append(sizes, 60000) {
		b, no := http.Chunks(r, size)
		is(t, what+": Chunks of "+strconv.Itoa(size), no, api.OK)
		want := plainChunks(ofReply(r), size)
		if string(b) != want {
			t.Errorf("%s: Chunks of %d: %s, want %s", what, size, short(string(b)), short(want))
		}
		isReply(t, want, r)
	}
}

// isBadRequest fails where Request does not refuse a request.
func isBadRequest(t *testing.T, what string, q api.Request) {
	t.Helper()
	b, no := http.Request(q)
	is(t, what+": Request", no, api.ErrArg)
	is(t, what+": Request tells nothing", len(b), 0)
}

// isBadReply fails where Reply and Chunks do not refuse a reply.
func isBadReply(t *testing.T, what string, r api.Reply) {
	t.Helper()
	b, no := http.Reply(r)
	is(t, what+": Reply", no, api.ErrArg)
	is(t, what+": Reply tells nothing", len(b), 0)
	b, no = http.Chunks(r, 10)
	is(t, what+": Chunks", no, api.ErrArg)
	is(t, what+": Chunks tells nothing", len(b), 0)
}

// haveHeads fails where a request and a reply with these Heads and this Body are not told, or not refused.
func haveHeads(t *testing.T, what string, may bool, body string, l ...string) {
	t.Helper()
	q, r := req("PUT", "/a", body, l...), rep(200, body, l...)
	if may {
		isGoodRequest(t, what, q)
		isGoodReply(t, what, r)
	} else {
		isBadRequest(t, what, q)
		isBadReply(t, what, r)
	}
}

// P12.1: the chapter's examples.
func TestExamples(t *testing.T) {
	b, no := http.Request(req("PUT", "/a", "x"))
	is(t, "Request", no, api.OK)
	is(t, "Request", string(b), "PUT /a HTTP/1.1\r\ncontent-length: 1\r\n\r\nx")
	isReply(t, "HTTP/1.1 204 No\r\n\r\n", rep(204, ""))
	isNoReply(t, "HTTP/1.1 200\r\nContent-Length: 01\r\n\r\nx")
}

// P12.1 and P12.2: how messages are told.
func TestTold(t *testing.T) {
	b, no := http.Request(req("GET", "/", ""))
	is(t, "Request", no, api.OK)
	is(t, "Request", string(b), "GET / HTTP/1.1\r\ncontent-length: 0\r\n\r\n")
	b, no = http.Request(req("PUT", "/book/a", "x\r\ny", "a", "", "if-match", `"e1"`, "x-1", "a  b: c"))
	is(t, "Request", no, api.OK)
	is(t, "Request", string(b), "PUT /book/a HTTP/1.1\r\na: \r\nif-match: \"e1\"\r\nx-1: a  b: c\r\ncontent-length: 4\r\n\r\nx\r\ny")
	r := rep(207, "0123456789abcdefg", "etag", `"e"`)
	b, no = http.Reply(r)
	is(t, "Reply", no, api.OK)
	is(t, "Reply", string(b), "HTTP/1.1 207\r\netag: \"e\"\r\ncontent-length: 17\r\n\r\n0123456789abcdefg")
	for size, want := range map[int]string{
		5:     "5\r\n01234\r\n5\r\n56789\r\n5\r\nabcde\r\n2\r\nfg\r\n",
		10:    "a\r\n0123456789\r\n7\r\nabcdefg\r\n",
		16:    "10\r\n0123456789abcdef\r\n1\r\ng\r\n",
		17:    "11\r\n0123456789abcdefg\r\n",
		18:    "11\r\n0123456789abcdefg\r\n",
		60000: "11\r\n0123456789abcdefg\r\n",
	} {
		b, no = http.Chunks(r, size)
		is(t, "Chunks", no, api.OK)
		is(t, "Chunks", string(b), "HTTP/1.1 207\r\netag: \"e\"\r\ntransfer-encoding: chunked\r\n\r\n"+want+"0\r\n\r\n")
	}
	b, no = http.Chunks(rep(599, ""), 1)
	is(t, "Chunks", no, api.OK)
	is(t, "Chunks", string(b), "HTTP/1.1 599\r\ntransfer-encoding: chunked\r\n\r\n0\r\n\r\n")
}

// P12.1: Methods.
func TestMethods(t *testing.T) {
	methods := []string{"", "A", "PUT", "PROPFIND", strings.Repeat("Z", 20), strings.Repeat("Z", 21), "get", "GET ", " GET", "GEt", "G\u00c4T"}
	for n := range 256 {
		b := string([]byte{byte(n)})
		methods = append(methods, b, b+"A", "A"+b, "A"+b+"A")
	}
	for _, m := range methods {
		q := req(m, "/a", "x", "b", "c")
		if isMethod.MatchString(m) {
			isGoodRequest(t, "Method "+short(m), q)
		} else {
			isBadRequest(t, "Method "+short(m), q)
		}
		isAsTold(t, plain(ofRequest(q)))
	}
}

// P12.1: Paths.
func TestPaths(t *testing.T) {
	paths := []string{"", "/", "//", "a", "a/", "/a/b?c#d%20", "/" + strings.Repeat("~", 199), "/" + strings.Repeat("~", 200), strings.Repeat("/", 201), "*", "http://a/", " /a", "/a ", "/a /b", "/\u00e9"}
	for n := range 256 {
		b := string([]byte{byte(n)})
		paths = append(paths, b, b+"/", "/"+b, "/"+b+"a")
	}
	for _, p := range paths {
		q := req("GET", p, "x", "b", "c")
		if isPath.MatchString(p) {
			isGoodRequest(t, "Path "+short(p), q)
		} else {
			isBadRequest(t, "Path "+short(p), q)
		}
		isAsTold(t, plain(ofRequest(q)))
	}
}

// P12.1: Codes.
func TestCodes(t *testing.T) {
	codes := []int{math.MinInt, math.MinInt32, -200, -100, math.MaxInt32, math.MaxInt, 1 << 32, 1<<32 + 200, 2000, 5990}
	for n := -5; n < 1100; n++ {
		codes = append(codes, n)
	}
	for _, n := range codes {
		r := rep(n, "x", "b", "c")
		if n >= 100 && n <= 599 {
			isGoodReply(t, "Code "+strconv.Itoa(n), r, 1)
		} else {
			isBadReply(t, "Code "+strconv.Itoa(n), r)
		}
		isAsTold(t, plain(ofReply(r)))
	}
	for _, code := range []string{"", "0", "00", "099", "0200", "00200", "+200", "-200", "--200", "2_00", "2e2", "0x64", "20", "2000", "200x", "x200", "2O0", "\u0662\u0660\u0660", "200\t", "\t200", " 200", "200.", "18446744073709551816", "4294967496", "99999999999999999999999999", "9223372036854775807", "9223372036854775808"} {
		isNoReply(t, "HTTP/1.1 "+code+"\r\n\r\n")
		isAsTold(t, "HTTP/1.1 "+code+" OK\r\n\r\n")
	}
}

// P12.1: first lines.
func TestFirstLines(t *testing.T) {
	isRequest(t, "GET /a HTTP/1.1\r\n\r\n", req("GET", "/a", ""))
	isReply(t, "HTTP/1.1 200\r\n\r\n", rep(200, ""))
	for _, why := range []string{"", " ", "  ", "OK", "Not Found", " Not  Found ", "201", ":", "~", "HTTP/1.1 200", strings.Repeat("why ", 20000)} {
		isReply(t, "HTTP/1.1 200 "+why+"\r\n\r\n", rep(200, ""))
	}
	for n := range 256 {
		b := string([]byte{byte(n)})
		isAsTold(t, "HTTP/1.1 200 O"+b+"K\r\n\r\n")
		isAsTold(t, "HTTP/1.1 200 "+b+"\r\n\r\n")
		isAsTold(t, "HTTP/1.1 200"+b+"OK\r\n\r\n")
		isAsTold(t, "HTTP/1.1 200"+b+"\r\n\r\n")
		isAsTold(t, "HTTP/1.1"+b+"200\r\n\r\n")
		isAsTold(t, b+"HTTP/1.1 200\r\n\r\n")
		isAsTold(t, "GET"+b+"/a HTTP/1.1\r\n\r\n")
		isAsTold(t, "GET /a"+b+"HTTP/1.1\r\n\r\n")
		isAsTold(t, "GET /a HTTP/1.1"+b+"\r\n\r\n")
		isAsTold(t, "GET /a HTTP/1"+b+"1\r\n\r\n")
		isAsTold(t, "GET /a HTTP/1."+b+"\r\n\r\n")
		isAsTold(t, "GET /a "+b+"HTTP/1.1\r\n\r\n")
		isAsTold(t, b+"GET /a HTTP/1.1\r\n\r\n")
	}
	for _, s := range []string{"GET /a", "GET /a ", "GET /a HTTP/1.0", "GET /a HTTP/1.10", "GET /a HTTP/1.1 ", "GET /a  HTTP/1.1", "GET  /a HTTP/1.1", " GET /a HTTP/1.1", "GET /a http/1.1", "GET /a HTTP/1.1 OK", "GET /a /b HTTP/1.1", "GET HTTP/1.1", " /a HTTP/1.1", "GET /a HTTP", "GET/a HTTP/1.1", "GET\t/a\tHTTP/1.1", "HTTP/1.1 GET /a", "HTTP/1.1", "HTTP/1.1 ", "HTTP/1.0 200", "HTTP/2 200", "http/1.1 200", "HTTP/1.1  200", "HTTP/1.1 200\tOK", "HTTP/1.1200", "HTTP/1.1 200OK", "HTTP/1.1\t200", "200", "200 OK", " HTTP/1.1 200", "", " ", "HTTP/1.1/200", "HTTP/11 200", "GET /a HTTP/1.1\r", "HTTP/1.1 200\r", "\rHTTP/1.1 200", "HTTP/1.1 200 OK\r", "HTTP/1.1 200 O\nK", "HTTP/1.1 200\n"} {
		isNoRequest(t, s+"\r\n\r\n")
		isNoReply(t, s+"\r\n\r\n")
	}
	// The one's bytes are never the other's.
	isNoReply(t, plain(ofRequest(req("GET", "/a", "x"))))
	isNoRequest(t, plain(ofReply(rep(200, "x"))))
}

// P12.1: Names of heads.
func TestNames(t *testing.T) {
	names := []string{"", "a", strings.Repeat("n", 64), strings.Repeat("n", 65), "n" + strings.Repeat("-", 63), "n" + strings.Repeat("9", 64), "content-lengths", "content", "transfer-encodings", "transfer-encodin", "content_length", "x-", "a--b", "\u00e9", "a:b", "a b", "a ", " a", "a\t", "chunked", "content-type"}
	for n := range 256 {
		b := string([]byte{byte(n)})
		names = append(names, b, "a"+b, "a"+b+"b")
	}
	for _, n := range names {
		haveHeads(t, "Name "+short(n), isName.MatchString(n), "x", n, "v")
		isAsTold(t, plain(ofRequest(req("GET", "/", "x", n, "v"))))
		isAsTold(t, plain(ofReply(rep(200, "x", n, "v"))))
		isAsTold(t, plain(ofReply(rep(200, "", "A", "1", n, "v"))))
	}
	// Names that tell lengths are none of Heads; those with great letters are none either.
	for _, n := range []string{"content-length", "transfer-encoding", "Content-Length", "TRANSFER-ENCODING", "Etag", "eTag"} {
		haveHeads(t, "Name "+n, false, "x", n, "1")
		haveHeads(t, "Name "+n, false, "", n, "0")
		haveHeads(t, "Name "+n, false, "", n, "chunked")
		haveHeads(t, "Name "+n, false, "", "a", "", n, "", "z", "")
	}
	isRead(t, "ETag: x\r\nIF-MATCH: y\r\n\r\n", "", "etag", "x", "if-match", "y")
	isRead(t, strings.Repeat("N", 64)+":\r\n\r\n", "", strings.Repeat("n", 64), "")
	isNone(t, strings.Repeat("N", 65)+":\r\n\r\n")
}

// P12.1: Values of heads, and what may stand around them.
func TestValues(t *testing.T) {
	values := []string{"", " ", "  ", " v", "v ", "v v", "v  v", "\tv", "v\t", "v\tv", "\t", ":", "a: b", "v\r\n", "v\r\nb: c", strings.Repeat("v", 200), strings.Repeat("v", 201), "v" + strings.Repeat(" ", 198) + "v", "v" + strings.Repeat(" ", 199) + "v", strings.Repeat(" ", 200), "\u00e9", "\x00"}
	for n := range 256 {
		b := string([]byte{byte(n)})
		values = append(values, b, "v"+b, b+"v", "v"+b+"v")
	}
	for _, v := range values {
		haveHeads(t, "Value "+short(v), isValue.MatchString(v), "x", "a", v)
		haveHeads(t, "Value "+short(v), isValue.MatchString(v), "", "a", "1", "b", v)
		for _, around := range []string{"", " ", "\t", " \t  \t\t ", strings.Repeat(" ", 1000), strings.Repeat("\t", 201)} {
			isAsTold(t, "GET / HTTP/1.1\r\na:"+around+v+"\r\n\r\n")
			isAsTold(t, "GET / HTTP/1.1\r\na:"+v+around+"\r\n\r\n")
			isAsTold(t, "HTTP/1.1 200\r\na:"+around+v+around+"\r\nb: c\r\n\r\n")
			isAsTold(t, "HTTP/1.1 200\r\na"+around+":"+v+"\r\n\r\n")
			isAsTold(t, "HTTP/1.1 200\r\n"+around+"a: "+v+"\r\n\r\n")
		}
	}
	isRead(t, "a:v\r\nb:  v w \t\r\nc:\r\nd: \t\r\n\r\n", "", "a", "v", "b", "v w", "c", "", "d", "")
	isRead(t, "a: "+strings.Repeat(" ", 300)+strings.Repeat("v", 200)+strings.Repeat("\t", 300)+"\r\n\r\n", "", "a", strings.Repeat("v", 200))
	isNone(t, "a: "+strings.Repeat("v", 201)+"\r\n\r\n")
	isNone(t, "a: v\tw\r\n\r\n")
	isRead(t, "a:::\r\n\r\n", "", "a", "::")
}

// named are so many Heads, with rising Names.
func named(many int) []string {
	var l []string
	for i := range many {
		l = append(l, "n"+strconv.Itoa(10+i), strconv.Itoa(i))
	}
	return l
}

// P12.1: Heads: how many, in which order, which ones.
func TestHeads(t *testing.T) {
	for many := range 20 {
		l := named(many)
		haveHeads(t, strconv.Itoa(many)+" Heads", many <= 16, "x", l...)
		s := ""
		for i := 0; i < len(l); i += 2 {
			s = l[i] + ":" + l[i+1] + "\r\n" + s
		}
		for _, c := range []struct{ text, body string }{
			{s + "\r\n", ""},
			{s + "content-length: 1\r\n\r\nx", "x"},
			{"content-length: 1\r\n" + s + "\r\nx", "x"},
			{s + "Transfer-Encoding: Chunked\r\n\r\n1\r\nx\r\n0\r\n\r\n", "x"},
			{"transfer-encoding: chunked\r\n" + s + "\r\n0\r\n\r\n", ""},
		} {
			if many <= 16 {
				isRead(t, c.text, c.body, l...)
			} else {
				isNone(t, c.text)
			}
		}
	}
	for _, names := range [][]string{{"b", "b"}, {"c", "b"}, {"b", "c", "b"}, {"a", "b", "b", "c"}, {"a", "c", "b"}, {"a", "A"}, {"A", "a"}, {"b", "", "c"}, {"a", "content-length", "d"}, {"a", "transfer-encoding"}, {"a", "b-", "b"}} {
		var l []string
		for _, n := range names {
			l = append(l, n, "v")
		}
		haveHeads(t, strings.Join(names, " "), false, "", l...)
		isAsTold(t, plain(ofRequest(req("GET", "/", "", l...))))
	}
	haveHeads(t, "in order", true, "", "a", "", "a-", "", "a-b", "", "a0", "", "aa", "", "b", "")
	isRead(t, "c: 3\r\na: 1\r\nB: 2\r\n\r\n", "", "a", "1", "b", "2", "c", "3")
	isRead(t, "c: 3\r\nContent-Length: 2\r\na: 1\r\n\r\nxy", "xy", "a", "1", "c", "3")
	for _, s := range []string{"a: 1\r\na: 1\r\n\r\n", "a: 1\r\nA: 2\r\n\r\n", "A: 1\r\nb:\r\na: 2\r\n\r\n", "a\r\n\r\n", "a\r\nb: c\r\n\r\n", ":\r\n\r\n", ": v\r\n\r\n", "a: 1\r\n b: 2\r\n\r\n", "a: 1\r\n\tb\r\n\r\n", " \r\n\r\n", "a: 1\r\n \r\n\r\n", "a: 1\n\r\n", "a: 1\r\r\n\r\n", "a: 1\rb: 2\r\n\r\n", "a: 1\nb: 2\r\n\r\n", "a: 1\n\n", "\n", "\r", "", "a: 1\r\n", "a: 1", "\r\n\r\n", "a : 1\r\n\r\n", "\x00: 1\r\n\r\n", "a;b\r\n\r\n"} {
		isNone(t, s)
	}
}

// P12.1: Bodies, and the lengths that are told of them.
func TestLengths(t *testing.T) {
	for _, n := range []int{0, 1, 2, 9, 10, 99, 100, 9999, 10000, 59999, 60000} {
		body := strings.Repeat("x", n)
		haveHeads(t, strconv.Itoa(n)+" bytes", true, body, "a", "b")
		length := "content-length: " + strconv.Itoa(n) + "\r\n"
		isRead(t, length+"\r\n"+body, body)
		isRead(t, "a: b\r\nCONTENT-Length:\t"+strconv.Itoa(n)+" \t\r\nc: d\r\n\r\n"+body, body, "a", "b", "c", "d")
		isNone(t, length+"\r\n"+body+"x")
		isNone(t, length+"\r\n"+body+"\r\n")
		if n > 0 {
			isNone(t, length+"\r\n"+body[1:])
			isNone(t, "\r\n"+body)
			isNone(t, "a: b\r\n\r\n"+body)
			isNone(t, "content-length: 0\r\n\r\n"+body)
			isNone(t, "content-length: 0"+strconv.Itoa(n)+"\r\n\r\n"+body)
			isNone(t, "content-length: +"+strconv.Itoa(n)+"\r\n\r\n"+body)
			isNone(t, "content-length: -"+strconv.Itoa(n)+"\r\n\r\n"+body)
		}
	}
	for _, n := range []int{60001, 65536, 100000} {
		body := strings.Repeat("x", n)
		haveHeads(t, strconv.Itoa(n)+" bytes", false, body)
		isNone(t, "content-length: "+strconv.Itoa(n)+"\r\n\r\n"+body)
		isNone(t, "content-length: 60000\r\n\r\n"+body)
	}
	every := ""
	for n := range 256 {
		every += string([]byte{byte(n)})
	}
	haveHeads(t, "each byte", true, every+"\r\n\r\n0\r\n\r\n"+every)
	isRead(t, "\r\n", "")
	isRead(t, "content-length: 0\r\n\r\n", "")
	isRead(t, "content-length:0\r\n\r\n", "")
	for _, length := range []string{"", "00", "01", "+0", "-0", "-1", "1", "0x0", "0 0", "0,0", "0, 0", "0;", "\"0\"", "0.", "0e0", "1-1", "\u0660", "0\t0", "none", "chunked", "9223372036854775807", "9223372036854775808", "18446744073709551616", "-9223372036854775808", "-9223372036854775809", "99999999999999999999999999999", strings.Repeat("0", 200)} {
		isNone(t, "content-length: "+length+"\r\n\r\n")
		isNone(t, "content-length: "+length+"\r\n\r\nxy")
	}
	for _, s := range []string{"content-length: 1\r\ncontent-length: 1\r\n\r\nx", "content-length: 1\r\nContent-Length: 1\r\n\r\nx", "content-length: 1\r\n\r\n", "content-length 1\r\n\r\nx", "content-length : 1\r\n\r\nx", "content-length: 1\r\nx", "content-length: 1\r\n\nx", "content-length: 1\n\nx"} {
		isNone(t, s)
	}
}

// P12.1: Bodies in chunks, of requests and replies, in the forms that they may have.
func TestChunked(t *testing.T) {
	const coded = "transfer-encoding: chunked\r\n\r\n"
	for _, s := range []string{"1\r\nx\r\n1\r\ny\r\n1\r\nz\r\n", "3\r\nxyz\r\n", "03\r\nxyz\r\n", "00003\r\nxyz\r\n", "0002\r\nxy\r\n01\r\nz\r\n"} {
		isRead(t, coded+s+"0\r\n\r\n", "xyz")
		isRead(t, "b: 1\r\nTRANSFER-encoding:\t CHUNked  \r\nA: 2\r\n\r\n"+s+"0\r\n\r\n", "xyz", "a", "2", "b", "1")
		for _, end := range []string{"", "0", "0\r\n", "0\r\n\r", "0\r\n\n", "\r\n", "\r\n\r\n", "00\r\n\r\n", "00000\r\n\r\n", "000000\r\n\r\n", "0 \r\n\r\n", " 0\r\n\r\n", "0;a=b\r\n\r\n", "0\r\n\r\n\r\n", "0\r\n\r\nx", "0\r\n\r\n0\r\n\r\n", "0\r\na: b\r\n\r\n", "0\r\n \r\n", "-0\r\n\r\n", "+0\r\n\r\n", "0x0\r\n\r\n", "0\n\n", "0\n\r\n", "0\r\n\r\n\x00"} {
			isNone(t, coded+s+end)
		}
	}
	isRead(t, coded+"0\r\n\r\n", "")
	for _, s := range []string{"3\r\nxyz", "3\r\nxyz\r", "3\r\nxyz\n", "3\r\nxyz0\r\n\r\n", "3\r\nxy\r\n", "3\r\nwxyz\r\n", "3\nxyz\r\n", "3\r\nxyz\n\r\n", "3\r\nxyz\r\n\r\n", "3\r\nxyz \r\n", "3 \r\nxyz\r\n", " 3\r\nxyz\r\n", "3\t\r\nxyz\r\n", "3;a\r\nxyz\r\n", "3;a=b\r\nxyz\r\n", "000003\r\nxyz\r\n", "+3\r\nxyz\r\n", "-3\r\nxyz\r\n", "0x3\r\nxyz\r\n", "3h\r\nxyz\r\n", "0_3\r\nxyz\r\n", "3.\r\nxyz\r\n", "\r\nxyz\r\n", "g\r\nxyz\r\n", "\u0663\r\nxyz\r\n", "fffff\r\nxyz\r\n", "FFFFFFFF\r\nxyz\r\n", "10000000000000003\r\nxyz\r\n", "00\r\n\r\n3\r\nxyz\r\n", "00000\r\n\r\n", "0\r\n\r\n3\r\nxyz\r\n", "3\rxyz\r\n"} {
		isNone(t, coded+s+"0\r\n\r\n")
		isNone(t, coded+"1\r\na\r\n"+s+"0\r\n\r\n")
	}
	for _, value := range []string{"", "chunke", "chunkedd", "identity", "chunked, gzip", "gzip, chunked", "chunked;", "\"chunked\"", "c hunked", "\u017fchunked", "chun\u212aed", "1"} {
		isNone(t, "transfer-encoding: "+value+"\r\n\r\n1\r\nx\r\n0\r\n\r\n")
		isNone(t, "transfer-encoding: "+value+"\r\n\r\nx")
		isNone(t, "transfer-encoding: "+value+"\r\n\r\n")
	}
	for _, s := range []string{"content-length: 1\r\n" + coded, "content-length: 11\r\n" + coded, "content-length: 0\r\n" + coded, "transfer-encoding: chunked\r\ncontent-length: 11\r\n\r\n", "transfer-encoding: chunked\r\n" + coded, "Transfer-Encoding: chunked\r\n" + coded, "content-length: chunked\r\n\r\n"} {
		isNone(t, s+"1\r\nx\r\n0\r\n\r\n")
		isNone(t, s+"0\r\n\r\n")
		isNone(t, s)
	}
	isRead(t, "transfer-encodings: chunked\r\n\r\n", "", "transfer-encodings", "chunked")
	isNone(t, "transfer-encodings: chunked\r\n\r\n1\r\nx\r\n0\r\n\r\n")
	for n := range 256 {
		b := string([]byte{byte(n)})
		isAsTold(t, "HTTP/1.1 200\r\n"+coded+b+"\r\n0123456789abcde\r\n0\r\n\r\n")
		for _, m := range []string{"1" + b, b + "1", "000" + b} {
			size, _ := strconv.ParseInt(m, 16, 64)
			isAsTold(t, "PUT / HTTP/1.1\r\n"+coded+m+"\r\n"+strings.Repeat("x", max(0, int(size)))+"\r\n0\r\n\r\n")
		}
		isAsTold(t, "HTTP/1.1 200\r\n"+coded+"1\r\n"+b+"\r\n0\r\n\r\n")
		isAsTold(t, "HTTP/1.1 200\r\n"+coded+"1\r\nx"+b+"\n0\r\n\r\n")
		isAsTold(t, "HTTP/1.1 200\r\n"+coded+"1\r\nx\r"+b+"0\r\n\r\n")
		isAsTold(t, "HTTP/1.1 200\r\n"+coded+b+"\r\n\r\n")
	}
}

// P12.1: chunks in great and small letters, and as many bytes as a Body may have in them.
func TestLongChunks(t *testing.T) {
	const coded = "transfer-encoding: chunked\r\n\r\n"
	for _, n := range []int{10, 15, 16, 171, 255, 256, 4095, 43981, 59999, 60000} {
		body := strings.Repeat("x", n)
		for _, form := range []string{"%x", "%X", "%05x", "%05X"} {
			isRead(t, coded+fmt.Sprintf(form, n)+"\r\n"+body+"\r\n0\r\n\r\n", body)
		}
	}
	isRead(t, coded+"aB\r\n"+strings.Repeat("x", 171)+"\r\n0Ba\r\n"+strings.Repeat("y", 186)+"\r\n0\r\n\r\n", strings.Repeat("x", 171)+strings.Repeat("y", 186))
	long := strings.Repeat("x", 30000)
	half := fmt.Sprintf("%x\r\n%s\r\n", 30000, long)
	isRead(t, coded+half+half+"0\r\n\r\n", long+long)
	isNone(t, coded+half+half+"1\r\nx\r\n0\r\n\r\n")
	isNone(t, coded+half+half+half+"0\r\n\r\n")
	for _, n := range []int{60001, 65535, 65536, 0xfffff} {
		isNone(t, coded+fmt.Sprintf("%x\r\n%s\r\n0\r\n\r\n", n, strings.Repeat("x", n)))
	}
	isRead(t, coded+strings.Repeat("1\r\nx\r\n", 60000)+"0\r\n\r\n", long+long)
	isNone(t, coded+strings.Repeat("1\r\nx\r\n", 60001)+"0\r\n\r\n")
	// What looks like lines in a chunk is of the chunk.
	isRead(t, coded+"7\r\n0\r\n\r\n\r\n\r\n2\r\n\r\n\r\n0\r\n\r\n", "0\r\n\r\n\r\n\r\n")
}

// P12.2: sizes of chunks.
func TestSizes(t *testing.T) {
	for _, size := range []int{math.MinInt, math.MinInt32, -60000, -1, 0, 60001, 65536, 1 << 32, 1<<32 + 1, math.MaxInt32, math.MaxInt} {
		for _, r := range []api.Reply{rep(200, ""), rep(200, "x"), rep(200, "xyz", "a", "b"), rep(99, ""), {}} {
			b, no := http.Chunks(r, size)
			is(t, "Chunks of "+strconv.Itoa(size), no, api.ErrArg)
			is(t, "Chunks of "+strconv.Itoa(size)+" tells nothing", len(b), 0)
		}
	}
	for size := 1; size <= 300; size++ {
		isGoodReply(t, "chunks of "+strconv.Itoa(size), rep(200, strings.Repeat("0123456789abcdef", 17), "a", "b"), size)
	}
	for many := range 40 {
		isGoodReply(t, strconv.Itoa(many)+" bytes", rep(200, strings.Repeat("\r\n0", 14)[:many]), 1, 2, 3, 7, 16, 38, 39, 40, 59999)
	}
	isGoodReply(t, "a long one", rep(200, strings.Repeat("x", 60000)), 1, 2, 9, 7, 15, 16, 17, 255, 256, 4095, 4096, 29999, 30000, 30001, 59999)
}

// P12.2: Value.
func TestValue(t *testing.T) {
	l := heads("a", "1", "etag", "\"e\"", "b", "", "a", "2", "x-y", "3")
	for _, c := range []struct {
		name, want string
		there      bool
	}{
		{"a", "1", true}, {"A", "1", true}, {"etag", "\"e\"", true}, {"ETag", "\"e\"", true}, {"ETAG", "\"e\"", true},
		{"b", "", true}, {"B", "", true}, {"X-y", "3", true}, {"x-Y", "3", true},
		{"", "", false}, {"c", "", false}, {"eta", "", false}, {"etags", "", false}, {"a ", "", false}, {"x_y", "", false}, {"x\ry", "", false}, {"\x81", "", false}, {"1", "", false},
	} {
		value, there := http.Value(l, c.name)
		is(t, "Value of "+short(c.name), value, c.want)
		is(t, "Value of "+short(c.name), there, c.there)
	}
	value, there := http.Value(nil, "")
	is(t, "Value of none", value, "")
	is(t, "Value of none", there, false)
	_, there = http.Value([]api.Head{}, "a")
	is(t, "Value of none", there, false)
	// Of lists that no message has.
	odd := heads("\xc3\x84", "1", "", "2", "a b", " 3\r\n", "content-length", "4", "k", "5", "Great", "6", "great", "7")
	for name, want := range map[string]string{"\xc3\x84": "1", "": "2", "A B": " 3\r\n", "Content-Length": "4", "K": "5", "great": "6", "GREAT": "6"} {
		value, there := http.Value(odd, name)
		is(t, "Value of "+short(name), value, want)
		is(t, "Value of "+short(name), there, true)
	}
	for _, name := range []string{"\xc3\xa4", "\u212a", "a  b", "\x00"} {
		value, there := http.Value(odd, name)
		is(t, "Value of "+short(name), value, "")
		is(t, "Value of "+short(name), there, false)
	}
	r, _ := http.ReadReply([]byte("HTTP/1.1 201\r\nETag:  \"e1\" \r\n\r\n"))
	value, there = http.Value(r.Heads, "etag")
	is(t, "Value of a reply", value, "\"e1\"")
	is(t, "Value of a reply", there, true)
}

// P12.1: each cut of a message, and each one with a byte more, is none.
func TestCuts(t *testing.T) {
	q, r := req("PUT", "/a", "x\r\n\r\ny", "a", "1", "b", "2"), rep(207, "x\r\n\r\ny", "a", "1", "b", "2")
	for _, s := range []string{plain(ofRequest(q)), plain(ofReply(r)), plainChunks(ofRequest(q), 2), plainChunks(ofReply(r), 2), plainChunks(ofReply(r), 3), plainChunks(ofReply(r), 10)} {
		isAsTold(t, s)
		for at := range len(s) {
			isNoRequest(t, s[:at])
			isNoReply(t, s[:at])
			isAsTold(t, s[at:])
			for _, more := range []string{"\r", "\n", "\r\n", " ", "\x00", "\xff", "0", "a", ":", "A", "-"} {
				isAsTold(t, s[:at]+more+s[at:])
				isAsTold(t, s[:at]+more+s[at+1:])
			}
			isAsTold(t, s[:at]+s[at+1:])
		}
		for n := range 256 {
			isNoRequest(t, s+string([]byte{byte(n)}))
			isNoReply(t, s+string([]byte{byte(n)}))
		}
		isNoRequest(t, s+s)
		isNoReply(t, s+s)
	}
}

// P12.1: ends of lines.
func TestEnds(t *testing.T) {
	s := "HTTP/1.1 200 OK\r\na: 1\r\ntransfer-encoding: chunked\r\n\r\n1\r\nx\r\n0\r\n\r\n"
	isReply(t, s, rep(200, "x", "a", "1"))
	parts := strings.SplitAfter(s, "\r\n")
	for i := range parts {
		for _, end := range []string{"\n", "\r", "\n\r", "\r\r\n", "\r\n\n", "\v", "\x85", "\u2028"} {
			other := slices.Clone(parts)
			if !strings.HasSuffix(other[i], "\r\n") {
				continue
			}
			other[i] = strings.TrimSuffix(other[i], "\r\n") + end
			isNoReply(t, strings.Join(other, ""))
		}
	}
	isNoReply(t, strings.ReplaceAll(s, "\r\n", "\n"))
	isNoRequest(t, strings.ReplaceAll("GET /a HTTP/1.1\r\na: 1\r\n\r\n", "\r\n", "\n"))
}

// pick tells one of some.
func pick[T any](r *rand.Rand, l ...T) T { return l[r.Intn(len(l))] }

// randomText tells a text of these bytes.
func randomText(r *rand.Rand, of string, most int) string {
	b := make([]byte, r.Intn(most+1))
	for i := range b {
		b[i] = of[r.Intn(len(of))]
	}
	return string(b)
}

// randomHeads tells Heads that may be.
func randomHeads(r *rand.Rand) []api.Head {
	var l []api.Head
	for _, n := range []string{"a", "a-b", "content", "content-length-", "content-type", "etag", "if-match", "if-none-match", "transfer", "z0"} {
		if r.Intn(3) == 0 {
			l = append(l, api.Head{Name: n, Value: strings.Trim(randomText(r, "ab:\" ~!0,", 9), " ")})
		}
	}
	return l
}

// randomBody tells a Body.
func randomBody(r *rand.Rand) []byte {
	return []byte(randomText(r, "\r\n0x\x00\xff1a: ", pick(r, 0, 3, 20, 300)))
}

// looseLetters tells a text in whatever letters.
func looseLetters(r *rand.Rand, s string) string {
	return pick(r, s, strings.ToUpper(s), strings.ToUpper(s[:1])+s[1:], s[:len(s)-1]+strings.ToUpper(s[len(s)-1:]))
}

// looseText tells a message in one of the forms that its bytes may have, behind its first line.
func looseText(r *rand.Rand, first string, l []api.Head, body string) string {
	lines := []string{}
	line := func(name, value string) {
		lines = append(lines, looseLetters(r, name)+":"+randomText(r, " \t", 3)+value+randomText(r, "\t ", 3)+"\r\n")
	}
	for _, h := range l {
		line(h.Name, h.Value)
	}
	told := body
	if r.Intn(2) == 0 {
		line("transfer-encoding", looseLetters(r, "chunked"))
		told = ""
		for body != "" {
			n := 1 + r.Intn(min(len(body), 40))
			told += fmt.Sprintf(pick(r, "%x", "%X", "%02x", "%03X", "%05x"), n) + "\r\n" + body[:n] + "\r\n"
			body = body[n:]
		}
		told += "0\r\n\r\n"
	} else if body != "" || r.Intn(2) == 0 {
		line("content-length", strconv.Itoa(len(body)))
	}
	r.Shuffle(len(lines), func(i, j int) { lines[i], lines[j] = lines[j], lines[i] })
	return first + "\r\n" + strings.Join(lines, "") + "\r\n" + told
}

// randomRequest and randomReply tell a request, a reply that may be.
func randomRequest(r *rand.Rand) api.Request {
	return api.Request{Method: "A" + randomText(r, "AGTZ", 19), Path: "/" + randomText(r, "/a~!%:?", 12), Heads: randomHeads(r), Body: randomBody(r)}
}

func randomReply(r *rand.Rand) api.Reply {
	return api.Reply{Code: 100 + r.Intn(500), Heads: randomHeads(r), Body: randomBody(r)}
}

// P12.1 and P12.3: many messages as they fall, in their own bytes, in chunks, and in the other forms that they may have.
func TestMany(t *testing.T) {
	r := rand.New(rand.NewSource(12))
	for range 4000 {
		q := randomRequest(r)
		isGoodRequest(t, "a request", q)
		isRequest(t, looseText(r, ofRequest(q).first, q.Heads, string(q.Body)), q)
		p := randomReply(r)
		isGoodReply(t, "a reply", p, 1, 1+r.Intn(20), 1+r.Intn(300))
		isReply(t, looseText(r, ofReply(p).first+pick(r, "", " ", " OK", " a  b "), p.Heads, string(p.Body)), p)
		if t.Failed() {
			return
		}
	}
}

// P12.1: many bytes as they fall, with changes here and there, held against the chapter's words.
func TestManyBytes(t *testing.T) {
	r := rand.New(rand.NewSource(13))
	pieces := []string{"\r\n", "\r", "\n", " ", "\t", ":", "0", "1", "a", "A", "g", "\r\n\r\n", "0\r\n\r\n", "1\r\nx\r\n", "a: b\r\n", "content-length: 0\r\n", "Content-Length: 1\r\n", "transfer-encoding: chunked\r\n", "HTTP/1.1", "200", "/", "\x00", "\xff", "-", "+", "~", ""}
	good := 0
	for range 60000 {
		q, p := randomRequest(r), randomReply(r)
		s := looseText(r, ofRequest(q).first, q.Heads, string(q.Body))
		if r.Intn(2) == 0 {
			s = looseText(r, ofReply(p).first, p.Heads, string(p.Body))
		}
		for range 1 + r.Intn(2) {
			at := r.Intn(len(s) + 1)
			to := min(len(s), at+r.Intn(3))
			s = s[:at] + pick(r, pieces...) + s[to:]
		}
		isAsTold(t, s)
		if _, no := http.ReadReply([]byte(s)); no == api.OK {
			good++
		} else if _, no := http.ReadRequest([]byte(s)); no == api.OK {
			good++
		}
		if t.Failed() {
			return
		}
	}
	if good < 3000 || good > 57000 {
		t.Errorf("%d of the bytes are messages'", good)
	}
}

// P12.1: all bytes of few pieces behind a first line, held against the chapter's words.
func TestAllPieces(t *testing.T) {
	pieces := []string{"\r\n", "x", "0", "1", " ", "a: 1\r\n", "A:2\r\n", "content-length: 1\r\n", "Content-Length:0\r\n", "transfer-encoding: chunked\r\n", "0\r\n\r\n"}
	texts := []string{""}
	good := 0
	for range 5 {
		var longer []string
		for _, s := range texts {
			for _, p := range pieces {
				isAsTold(t, "HTTP/1.1 200\r\n"+s+p)
				if _, no := http.ReadReply([]byte("HTTP/1.1 200\r\n" + s + p)); no == api.OK {
					good++
				}
				longer = append(longer, s+p)
			}
			if t.Failed() {
				return
			}
		}
		texts = longer
	}
	if good < 100 {
		t.Errorf("%d of the bytes are messages'", good)
	}
}

// spare is a list with spare room behind it, in which something stands.
func spare[T any](l []T, behind T) []T { return append(slices.Clone(l), behind)[:len(l)] }

// isUnspoiled fails where a list, or its spare room, is not as spare made it.
func isUnspoiled[T comparable](t *testing.T, what string, l, want []T, behind T) {
	t.Helper()
	if !slices.Equal(l, want) {
		t.Errorf("%s is changed", what)
	}
	is(t, what+": spare room", l[:len(l)+1][len(l)], behind)
}

// spoil changes all of a list that can be changed, its spare room, too.
func spoil[T any](l []T, other T) {
	l = l[:cap(l)]
	for i := range l {
		l[i] = other
	}
}

// P12.1 and P12.2: what is handed in is neither changed nor kept, and what is answered is new memory.
func TestMemory(t *testing.T) {
	body, l := []byte("body of some bytes"), heads("a", "1", "b", "2")
	other := api.Head{Name: "spare", Value: "room"}
	q := api.Request{Method: "PUT", Path: "/a", Heads: spare(l, other), Body: spare(body, '#')}
	p := api.Reply{Code: 200, Heads: q.Heads, Body: q.Body}
	b, _ := http.Request(q)
	told := string(b)
	spoil(b, '!')
	spoil(must(http.Reply(p)), '!')
	spoil(must(http.Chunks(p, 5)), '!')
	spoil(must(http.Chunks(p, 60000)), '!')
	http.Value(q.Heads, "B")
	isUnspoiled(t, "Heads", q.Heads, l, other)
	isUnspoiled(t, "Body", q.Body, body, '#')
	is(t, "Request again", string(must(http.Request(q))), told)
	for _, s := range []string{plain(ofReply(p)), plainChunks(ofReply(p), 4), plainChunks(ofReply(p), 60000)} {
		in := spare([]byte(s), '#')
		first, _ := http.ReadReply(in)
		second, _ := http.ReadReply(in)
		spoil(first.Body, '!')
		spoil(first.Heads, other)
		isUnspoiled(t, "ReadReply's bytes", in, []byte(s), '#')
		spoil(in, '!')
		isMessage(t, "ReadReply tells new memory", ofReply(second), ofReply(rep(200, string(body), "a", "1", "b", "2")))
	}
	for _, s := range []string{plain(ofRequest(q)), plainChunks(ofRequest(q), 4)} {
		in := spare([]byte(s), '#')
		first, _ := http.ReadRequest(in)
		second, _ := http.ReadRequest(in)
		spoil(first.Body, '!')
		spoil(first.Heads, other)
		isUnspoiled(t, "ReadRequest's bytes", in, []byte(s), '#')
		spoil(in, '!')
		isMessage(t, "ReadRequest tells new memory", ofRequest(second), ofRequest(req("PUT", "/a", string(body), "a", "1", "b", "2")))
	}
}

// must hands on bytes that were not refused.
func must(b []byte, no api.Errno) []byte {
	if no != api.OK {
		panic(no)
	}
	return b
}

// P12.1: nil and empty are the same.
func TestNil(t *testing.T) {
	none, _ := http.Request(api.Request{Method: "A", Path: "/"})
	empty, no := http.Request(api.Request{Method: "A", Path: "/", Heads: []api.Head{}, Body: []byte{}})
	is(t, "Request", no, api.OK)
	is(t, "Request", string(none), string(empty))
	none, _ = http.Chunks(api.Reply{Code: 100}, 1)
	empty, no = http.Chunks(api.Reply{Code: 100, Heads: []api.Head{}, Body: []byte{}}, 1)
	is(t, "Chunks", no, api.OK)
	is(t, "Chunks", string(none), string(empty))
	isBadRequest(t, "zero", api.Request{})
	isBadReply(t, "zero", api.Reply{})
	_, no = http.ReadRequest(nil)
	is(t, "ReadRequest of nothing", no, api.ErrHttp)
	_, no = http.ReadReply(nil)
	is(t, "ReadReply of nothing", no, api.ErrHttp)
}

// All calls end, of very large messages and bytes.
func TestHuge(t *testing.T) {
	long := strings.Repeat("a", 1<<23)
	isBadRequest(t, "a very long Method", req(strings.ToUpper(long), "/", ""))
	isBadRequest(t, "a very long Path", req("A", "/"+long, ""))
	haveHeads(t, "a very long Name", false, "", long, "")
	haveHeads(t, "a very long Value", false, "", "a", long)
	haveHeads(t, "a very long Body", false, long)
	haveHeads(t, "very many Heads", false, "", named(1<<18)...)
	lines := strings.Repeat("\r\n", 1<<22)
	many := strings.Builder{}
	for i := range 1 << 18 {
		many.WriteString("n" + strconv.Itoa(i) + ": v\r\n")
	}
	for _, s := range []string{long, lines, many.String() + "\r\n", "a: " + long + "\r\n\r\n", long + ": a\r\n\r\n", "content-length: " + long, "content-length: 8388608\r\n\r\n" + long, "transfer-encoding: chunked\r\n\r\n" + strings.Repeat("1\r\nx\r\n", 1<<20) + "0\r\n\r\n", "transfer-encoding: chunked\r\n\r\n1\r\n" + long, "transfer-encoding: chunked\r\n\r\n" + lines, strings.Repeat(":", 1<<23), strings.Repeat("a:\r\n", 1<<20)} {
		isNone(t, s)
		isNoRequest(t, s)
		isNoReply(t, s)
	}
	isNoRequest(t, strings.Repeat(" ", 1<<23)+"\r\n\r\n")
	isNoReply(t, "HTTP/1.1 "+strings.Repeat("1", 1<<22)+"\r\n\r\n")
	isReply(t, "HTTP/1.1 200 "+long+"\r\n\r\n", rep(200, ""))
	isRead(t, "a:"+strings.Repeat(" \t", 1<<22)+"v"+strings.Repeat("\t ", 1<<22)+"\r\n\r\n", "", "a", "v")
	value, there := http.Value(heads(named(1<<18)...), "N"+strconv.Itoa(9+1<<18))
	is(t, "Value of very many", value, strconv.Itoa(1<<18-1))
	is(t, "Value of very many", there, true)
}
