package xml_test

import (
	"math/rand"
	"regexp"
	"slices"
	"strconv"
	"strings"
	"testing"

	"cardcase/api"
	"cardcase/xml"
)

// is fails where an answer is another than the one that is asked for.
func is[T comparable](t *testing.T, what string, got, want T) {
	t.Helper()
	if got != want {
		t.Errorf("%s: %#v, want %#v", what, got, want)
	}
}

// short tells a text that may be long.
func short(s string) string {
	if len(s) > 200 {
		return strconv.Quote(s[:200]) + " and more, " + strconv.Itoa(len(s)) + " bytes"
	}
	return strconv.Quote(s)
}

// el is an element without attributes.
func el(space, name, text string, kids ...api.Element) api.Element {
	return api.Element{Space: space, Name: name, Text: text, Kids: kids}
}

// with is an element with attributes: names and Values, by turns.
func with(e api.Element, l ...string) api.Element {
	for i := 0; i < len(l); i += 2 {
		e.Attributes = append(e.Attributes, api.Attribute{Name: l[i], Value: l[i+1]})
	}
	return e
}

// equal tells whether two are the same, with nil and empty the same, by other means than Same.
func equal(a, b api.Element) bool {
	if a.Space != b.Space || a.Name != b.Name || a.Text != b.Text || len(a.Attributes) != len(b.Attributes) || len(a.Kids) != len(b.Kids) {
		return false
	}
	for i := range a.Attributes {
		if a.Attributes[i] != b.Attributes[i] {
			return false
		}
	}
	for i := range a.Kids {
		if !equal(a.Kids[i], b.Kids[i]) {
			return false
		}
	}
	return true
}

// isElement fails where an element is another than the one that is asked for.
func isElement(t *testing.T, what string, got, want api.Element) {
	t.Helper()
	if !equal(got, want) {
		t.Errorf("%s: %.400v, want %.400v", what, got, want)
	}
}

// plainValue and plainIn tell how a Value and a Text are told, as the chapter's 'Words' say.
var (
	plainIn    = strings.NewReplacer("&", "&amp;", "<", "&lt;", ">", "&gt;", "\r", "&#13;")
	plainValue = strings.NewReplacer("&", "&amp;", "<", "&lt;", ">", "&gt;", "\r", "&#13;", "\"", "&quot;", "\t", "&#9;", "\n", "&#10;")
)

// plainText tells an element's text, as the chapter's 'Words' say it.
func plainText(e api.Element, around string) string {
	s := "<" + e.Name
	if e.Space != around {
		s += " xmlns=\"" + e.Space + "\""
	}
	for _, a := range e.Attributes {
		s += " " + a.Name + "=\"" + plainValue.Replace(a.Value) + "\""
	}
	if e.Text == "" && len(e.Kids) == 0 {
		return s + "/>"
	}
	s += ">" + plainIn.Replace(e.Text)
	for _, kid := range e.Kids {
		s += plainText(kid, e.Space)
	}
	return s + "</" + e.Name + ">"
}

const (
	wordForm  = `[A-Za-z][A-Za-z0-9._-]{0,63}`
	nameForm  = `(?:` + wordForm + `:)?` + wordForm
	valueForm = `(?:"[^"<]*"|'[^'<]*')`
	blankForm = `[ \t\n\r]`
	markForm  = `&(?:amp|lt|gt|quot|apos|#[1-9][0-9]?[0-9]?);`
)

var (
	isWord     = regexp.MustCompile(`^` + wordForm + `$`)
	isSpace    = regexp.MustCompile(`^[!#-%'-;=?-~]{0,100}$`)
	noText     = regexp.MustCompile(`[\x00-\x08\x0b\x0c\x0e-\x1f]`)
	ahead      = regexp.MustCompile(`^` + blankForm + `*(?:(?s:<\?.*?\?>)` + blankForm + `*)?`)
	startTag   = regexp.MustCompile(`^<(` + nameForm + `)((?:` + blankForm + `+` + nameForm + `=` + valueForm + `)*)` + blankForm + `*(/?)>`)
	endTag     = regexp.MustCompile(`^</(` + nameForm + `)` + blankForm + `*>`)
	between    = regexp.MustCompile(`^[^<]+`)
	allBlank   = regexp.MustCompile(`^` + blankForm + `*$`)
	attribute  = regexp.MustCompile(`(` + nameForm + `)=(` + valueForm + `)`)
	plainBytes = regexp.MustCompile(`^(?:[^&<\r]|` + markForm + `)*$`)
	marked     = regexp.MustCompile(markForm)
)

// unmarked tells the Text or the Value that is told so.
func unmarked(s string) (string, bool) {
	is := plainBytes.MatchString(s)
	return marked.ReplaceAllStringFunc(s, func(m string) string {
		if i := slices.Index([]string{"&amp;", "&lt;", "&gt;", "&quot;", "&apos;"}, m); i >= 0 {
			return "&<>\"'"[i : i+1]
		}
		n, _ := strconv.Atoi(m[2 : len(m)-1])
		is = is && n < 256
		return string([]byte{byte(n)})
	}), is
}

// plainMay tells whether an element may be, as the chapter's 'Words' say.
func plainMay(e api.Element) bool {
	most, many := plainSize(e, 1)
	return most <= 16 && many <= 400 && plainParts(e)
}

// plainSize tells how deep an element is, and how many are in it.
func plainSize(e api.Element, depth int) (most, many int) {
	most, many = depth, 1
	for _, kid := range e.Kids {
		m, n := plainSize(kid, depth+1)
		most, many = max(most, m), many+n
	}
	return most, many
}

// plainParts tells whether the parts of an element and of its Kids may be.
func plainParts(e api.Element) bool {
	names := []string{}
	for _, a := range e.Attributes {
		names = append(names, a.Name)
		if !isWord.MatchString(a.Name) || noText.MatchString(a.Value) {
			return false
		}
	}
	once := slices.Compact(slices.Sorted(slices.Values(names)))
	if len(names) > 16 || !slices.Equal(names, once) || slices.Contains(names, "xmlns") {
		return false
	}
	for _, kid := range e.Kids {
		if !plainParts(kid) {
			return false
		}
	}
	return isSpace.MatchString(e.Space) && isWord.MatchString(e.Name) && !noText.MatchString(e.Text) && (len(e.Kids) == 0 || e.Text == "")
}

// frame is an element that is not yet at its end: what its name was told as, the spaces of prefixes, the bytes in it so far.
type frame struct {
	e      api.Element
	told   string
	spaces map[string]string
	text   string
}

// begun tells what a start begins that stands among those spaces.
func begun(found []string, around map[string]string) (frame, bool) {
	f := frame{told: found[1], spaces: map[string]string{}}
	for k, v := range around {
		f.spaces[k] = v
	}
	said := map[string]bool{}
	for _, a := range attribute.FindAllStringSubmatch(found[2], -1) {
		value, good := unmarked(a[2][1 : len(a[2])-1])
		prefix, isPrefix := strings.CutPrefix(a[1], "xmlns:")
		if !good || said[a[1]] || strings.Contains(a[1], ":") && !isPrefix {
			return f, false
		}
		said[a[1]] = true
		switch {
		case isPrefix || a[1] == "xmlns":
			if !isSpace.MatchString(value) {
				return f, false
			}
			if !isPrefix {
				prefix = ""
			}
			f.spaces[prefix] = value
		default:
			f.e.Attributes = append(f.e.Attributes, api.Attribute{Name: a[1], Value: value})
		}
	}
	slices.SortFunc(f.e.Attributes, func(a, b api.Attribute) int { return strings.Compare(a.Name, b.Name) })
	prefix, word, has := strings.Cut(f.told, ":")
	if !has {
		prefix, word = "", prefix
	}
	space, there := f.spaces[prefix]
	f.e.Space, f.e.Name = space, word
	return f, there
}

// ended tells an element at its end.
func ended(f frame) (api.Element, bool) {
	if len(f.e.Kids) > 0 {
		return f.e, allBlank.MatchString(f.text)
	}
	text, good := unmarked(f.text)
	f.e.Text = text
	return f.e, good
}

// plainParse tells the element of a text, as the chapter's 'Words' say it, with a list of those that are not yet at their end.
func plainParse(s string) (api.Element, api.Errno) {
	none := api.Element{}
	if len(s) > 65536 {
		return none, api.ErrLong
	}
	s = s[len(ahead.FindString(s)):]
	open := []frame{{spaces: map[string]string{"": ""}}}
	for first := true; first || len(open) > 1; first = false {
		top := &open[len(open)-1]
		var done *api.Element
		if found := startTag.FindStringSubmatch(s); found != nil {
			f, good := begun(found, top.spaces)
			if !good {
				return none, api.ErrXml
			}
			s = s[len(found[0]):]
			if found[3] == "" {
				open = append(open, f)
			} else {
				done = &f.e
			}
		} else if found := endTag.FindStringSubmatch(s); found != nil && len(open) > 1 && found[1] == top.told {
			e, good := ended(*top)
			if !good {
				return none, api.ErrXml
			}
			s = s[len(found[0]):]
			done = &e
			open = open[:len(open)-1]
		} else if found := between.FindString(s); found != "" && len(open) > 1 {
			top.text += found
			s = s[len(found):]
		} else {
			return none, api.ErrXml
		}
		if done != nil {
			last := &open[len(open)-1]
			last.e.Kids = append(last.e.Kids, *done)
		}
	}
	e := open[0].e.Kids[0]
	if !allBlank.MatchString(s) || !plainMay(e) {
		return none, api.ErrXml
	}
	return e, api.OK
}

// isGood fails where Check, Text and Parse do not answer as of an element that may be.
func isGood(t *testing.T, what string, e api.Element) {
	t.Helper()
	is(t, what+": Check", xml.Check(e), api.OK)
	s, no := xml.Text(e)
	is(t, what+": Text", no, api.OK)
	if want := plainText(e, ""); s != want {
		t.Errorf("%s: Text: %s, want %s", what, short(s), short(want))
	}
	again, no := xml.Parse(s)
	is(t, what+": Parse of Text", no, api.OK)
	isElement(t, what+": Parse of Text", again, e)
}

// isRefused fails where Check and Text do not refuse an element so.
func isRefused(t *testing.T, what string, e api.Element, want api.Errno) {
	t.Helper()
	is(t, what+": Check", xml.Check(e), want)
	s, no := xml.Text(e)
	is(t, what+": Text", no, want)
	is(t, what+": Text tells nothing", len(s), 0)
}

// isRead fails where Parse does not tell the element.
func isRead(t *testing.T, s string, want api.Element) {
	t.Helper()
	e, no := xml.Parse(s)
	is(t, "Parse("+short(s)+")", no, api.OK)
	isElement(t, "Parse("+short(s)+")", e, want)
}

// isNone fails where Parse does not refuse a text so.
func isNone(t *testing.T, s string, want api.Errno) {
	t.Helper()
	e, no := xml.Parse(s)
	is(t, "Parse("+short(s)+")", no, want)
	isElement(t, "Parse("+short(s)+") tells nothing", e, api.Element{})
}

// isAsTold fails where Parse does not answer as the chapter's 'Words' say.
func isAsTold(t *testing.T, s string) {
	t.Helper()
	if e, no := plainParse(s); no == api.OK {
		isRead(t, s, e)
	} else {
		isNone(t, s, no)
	}
}

// P11.1: the chapter's examples, and P11.3 of those that are elements.
func TestExamples(t *testing.T) {
	e := el("s", "a", "", el("s", "b", "1 < 2"))
	s, no := xml.Text(e)
	is(t, "Text", no, api.OK)
	is(t, "Text", s, `<a xmlns="s"><b>1 &lt; 2</b></a>`)
	isGood(t, "the example", e)
	isRead(t, "<x:a xmlns:x='s'><x:b/> </x:a>", el("s", "a", "", el("s", "b", "")))
	isNone(t, "<a>t<b/></a>", api.ErrXml)
	isNone(t, "<a></b>", api.ErrXml)
	isNone(t, "<x:a/>", api.ErrXml)
	isRead(t, "<a> </a>", el("", "a", " "))
}

// P11.1: how elements are told.
func TestTexts(t *testing.T) {
	for _, c := range []struct {
		e    api.Element
		want string
	}{
		{el("", "a", ""), `<a/>`},
		{el("s", "a", ""), `<a xmlns="s"/>`},
		{el("", "a", "t"), `<a>t</a>`},
		{el("s", "a", "", el("s", "a", "", el("s", "a", ""))), `<a xmlns="s"><a><a/></a></a>`},
		{el("s", "a", "", el("", "b", "")), `<a xmlns="s"><b xmlns=""/></a>`},
		{el("", "a", "", el("s", "b", ""), el("", "c", ""), el("s", "d", "", el("", "e", ""))), `<a><b xmlns="s"/><c/><d xmlns="s"><e xmlns=""/></d></a>`},
		{el("it's", "a", "it's"), `<a xmlns="it's">it's</a>`},
		{with(el("s", "a", "t"), "b", "1", "c", ""), `<a xmlns="s" b="1" c="">t</a>`},
		{with(el("", "a", "&<>\"'\t\n\r"), "b", "&<>\"'\t\n\r"), "<a b=\"&amp;&lt;&gt;&quot;'&#9;&#10;&#13;\">&amp;&lt;&gt;\"'\t\n&#13;</a>"},
		{with(el("", "a", ""), "A", "", "B", "", "a", "", "a-", "", "a.", "", "a0", "", "aA", "", "a_", "", "aa", ""), `<a A="" B="" a="" a-="" a.="" a0="" aA="" a_="" aa=""/>`},
		{with(el("", "xmlns", ""), "Xmlns", "", "xmlns-", ""), `<xmlns Xmlns="" xmlns-=""/>`},
		{el("", "a", "&amp;"), `<a>&amp;amp;</a>`},
		{el("", "a", "\xff\x80\u00e9"), "<a>\xff\x80\u00e9</a>"},
	} {
		s, no := xml.Text(c.e)
		is(t, c.want, no, api.OK)
		is(t, c.want, s, c.want)
		isGood(t, c.want, c.e)
	}
}

// P11.1: each byte, in Text and in Values, told and read.
func TestBytes(t *testing.T) {
	for n := range 256 {
		b := string([]byte{byte(n)})
		what := "byte " + strconv.Itoa(n)
		for _, e := range []api.Element{el("", "a", b), el("", "a", "t"+b+"t"), with(el("", "a", ""), "b", b), el("", "k", "", with(el("", "a", "t"), "b", "t"+b))} {
			if n >= 32 || n == 9 || n == 10 || n == 13 {
				isGood(t, what, e)
			} else {
				isRefused(t, what, e, api.ErrArg)
			}
		}
		may := n >= 32 && b != "&" && b != "<" || n == 9 || n == 10
		for _, c := range []struct {
			s    string
			may  bool
			want api.Element
		}{
			{"<a>" + b + "</a>", may, el("", "a", b)},
			{"<a>t" + b + "t</a>", may, el("", "a", "t"+b+"t")},
			{`<a b="` + b + `"/>`, may && b != `"`, with(el("", "a", ""), "b", b)},
			{`<a b='` + b + `'/>`, may && b != "'", with(el("", "a", ""), "b", b)},
		} {
			if c.may {
				isRead(t, c.s, c.want)
			} else {
				isNone(t, c.s, api.ErrXml)
			}
		}
	}
}

// P11.1: what stands for a byte, in Text and in Values.
func TestMarks(t *testing.T) {
	bytes := map[string]string{"&amp;": "&", "&lt;": "<", "&gt;": ">", "&quot;": `"`, "&apos;": "'"}
	none := []string{"& amp;", "&amp ;", "& ;", "&# 65;", "&#65 ;", "&#6 5;", "&\n;", "&amp;\r", "&lt;<"}
	for n := -1; n < 1300; n++ {
		s := "&#" + strconv.Itoa(n) + ";"
		if n >= 32 && n < 256 || n == 9 || n == 10 || n == 13 {
			bytes[s] = string([]byte{byte(n)})
		} else {
			none = append(none, s)
		}
	}
	none = append(none, strings.Fields("& &; &# &#; &a; &AMP; &Amp; &amp &lt &gt &quot &apos &#65 &amp&; &#065; &#0065; &#00; &#+65; &#-65; &#x41; &#X41; &#A; &#6_5; &#65.; &#1e1; &nbsp; &&; &amp;& &#18446744073709551681; &#99999999999999999999999; &#\u0665; &65; &#amp;")...)
	for s, b := range bytes {
		isRead(t, "<a>"+s+"</a>", el("", "a", b))
		isRead(t, "<a>t"+s+";t</a>", el("", "a", "t"+b+";t"))
		isRead(t, `<a b="`+s+`"/>`, with(el("", "a", ""), "b", b))
		isRead(t, `<a b='`+s+`;'/>`, with(el("", "a", ""), "b", b+";"))
	}
	for _, s := range none {
		isNone(t, "<a>"+s+"</a>", api.ErrXml)
		isNone(t, "<a>t"+s+"t</a>", api.ErrXml)
		isNone(t, `<a b="`+s+`"/>`, api.ErrXml)
		isNone(t, `<a b='`+s+`'/>`, api.ErrXml)
		isAsTold(t, "<a>"+s+";</a>")
	}
	isRead(t, "<a>&#38;lt;&amp;#65;&#60;b></a>", el("", "a", "&lt;&#65;<b>"))
	isRead(t, "<a b='&#39;&apos;\"&quot;' c=\"&#34;&apos;'&quot;\"/>", with(el("", "a", ""), "b", `''""`, "c", `"''"`))
	isRead(t, "<a b='\t\n>'>\t\n>]]></a>", with(el("", "a", "\t\n>]]>"), "b", "\t\n>"))
	isRead(t, "<a>&#32;&#9;&#13;</a>", el("", "a", " \t\r"))
}

// P11.1: words, as Names of elements and attributes, and as prefixes.
func TestWords(t *testing.T) {
	words := map[string]bool{"": false, strings.Repeat("a", 64): true, strings.Repeat("a", 65): false, "a" + strings.Repeat(".", 63): true, "a" + strings.Repeat("-", 64): false, "\u00e9": false, "a\u00e9": false, "a:b": false, ":a": false, "a:": false, "a b": false, "xmlns": true, "xml": true, "XMLNS": true}
	for n := range 256 {
		b := byte(n)
		isLetter := b >= 'a' && b <= 'z' || b >= 'A' && b <= 'Z'
		words[string([]byte{b})] = isLetter
		words[string([]byte{'a', b})] = isLetter || b >= '0' && b <= '9' || strings.IndexByte("-._", b) >= 0
	}
	for w, may := range words {
		if may {
			isGood(t, w, el("", w, ""))
			isGood(t, w, el("s", "k", "", el("s", w, "t")))
			isRead(t, "<"+w+" xmlns='s'></"+w+">", el("s", w, ""))
			isRead(t, "<"+w+":a xmlns:"+w+"='s'>t</"+w+":a>", el("s", "a", "t"))
			isRead(t, "<x:"+w+" xmlns:x='s'>t</x:"+w+">", el("s", w, "t"))
		} else {
			isRefused(t, w, el("", w, ""), api.ErrArg)
			isRefused(t, w, el("s", "k", "", el("s", w, "t")), api.ErrArg)
			isAsTold(t, "<"+w+"/>")
			isAsTold(t, "<"+w+" xmlns='s'></"+w+">")
			isAsTold(t, "<"+w+":a xmlns:"+w+"='s'>t</"+w+":a>")
			isAsTold(t, "<x:"+w+" xmlns:x='s'>t</x:"+w+">")
		}
		if may && w != "xmlns" {
			isGood(t, w, with(el("", "a", ""), w, "v"))
			isRead(t, "<a "+w+"='v'/>", with(el("", "a", ""), w, "v"))
		} else {
			isRefused(t, w, with(el("", "a", ""), w, "v"), api.ErrArg)
			isAsTold(t, "<a "+w+"='v'/>")
		}
	}
}

// P11.1: spaces of names.
func TestSpaces(t *testing.T) {
	spaces := map[string]bool{"": true, strings.Repeat("s", 100): true, strings.Repeat("s", 101): false, "urn:ietf:params:xml:ns:carddav": true, "DAV:": true}
	for n := range 256 {
		b := byte(n)
		spaces[string([]byte{'s', b})] = b >= 33 && b <= 126 && strings.IndexByte(`&<>"`, b) < 0
	}
	for s, may := range spaces {
		what := "space " + short(s)
		told := plainValue.Replace(s)
		for _, e := range []api.Element{el(s, "a", ""), el("", "k", "", el(s, "a", "t"))} {
			if may {
				isGood(t, what, e)
			} else {
				isRefused(t, what, e, api.ErrArg)
			}
		}
		for _, c := range []struct {
			s    string
			want api.Element
		}{
			{`<a xmlns="` + told + `"/>`, el(s, "a", "")},
			{`<x:a xmlns:x="` + told + `"/>`, el(s, "a", "")},
			{`<a xmlns:x="` + told + `"/>`, el("", "a", "")},
			{`<x:a xmlns:x="s" xmlns="` + told + `"/>`, el("s", "a", "")},
			{`<a xmlns='` + strings.ReplaceAll(told, "'", "&apos;") + `'/>`, el(s, "a", "")},
		} {
			if may {
				isRead(t, c.s, c.want)
			} else {
				isNone(t, c.s, api.ErrXml)
			}
		}
	}
	isRead(t, "<a xmlns='&#115;&apos;'/>", el("s'", "a", ""))
}

// P11.1: attributes: how many, in which order, which ones.
func TestAttributes(t *testing.T) {
	var e api.Element
	e.Name = "a"
	for i := range 16 {
		e.Attributes = append(e.Attributes, api.Attribute{Name: "n" + strconv.Itoa(10+i), Value: strconv.Itoa(i)})
	}
	isGood(t, "16 attributes", e)
	s, _ := xml.Text(e)
	isRead(t, strings.Replace(s, "<a ", "<a xmlns:x='' xmlns:y='' ", 1), e)
	isRead(t, strings.Replace(s, "/>", " xmlns:x='' xmlns=\"\"/>", 1), e)
	isNone(t, strings.Replace(s, "/>", " z=''/>", 1), api.ErrXml)
	isNone(t, strings.Replace(s, "<a ", "<a a='' ", 1), api.ErrXml)
	isNone(t, strings.Replace(s, "<a ", "<a n10='' ", 1), api.ErrXml)
	isRefused(t, "17 attributes", with(e, "z", ""), api.ErrArg)
	isRefused(t, "17 attributes inside", el("", "k", "", with(e, "z", "")), api.ErrArg)
	for _, names := range [][]string{{"b", "b"}, {"c", "b"}, {"b", "c", "b"}, {"a", "B"}, {"b", "xmlns"}, {"xmlns", "y"}, {"b", "", "c"}} {
		e := el("", "a", "")
		for _, n := range names {
			e = with(e, n, "")
		}
		isRefused(t, strings.Join(names, " "), e, api.ErrArg)
	}
	want := with(el("", "a", ""), "B", "2", "a", "1", "c", "3")
	for _, s := range []string{"<a a='1' B='2' c='3'/>", "<a c='3' B='2' a='1'></a>", "<a c='3' xmlns='' a='1' xmlns:x='s' B='2'/>", "<a\tc='3'\n\r B='2'  a='1' />"} {
		isRead(t, s, want)
	}
	for _, s := range []string{"<a b='1' b='1'/>", "<a b='1' c='2' b='3'/>", "<a b/>", "<a b=/>", "<a b=1/>", "<a b='1/>", "<a b='1\"/>", "<a b='1'c='2'/>", "<a b ='1'/>", "<a b= '1'/>", "<a ='1'/>", "<a x:b='1'/>", "<a xmlns:x='s' x:b='1'/>", "<x:a xmlns:x='s' x:b='1'/>", "<a b:xmlns='1' xmlns:b='s'/>", "<ab='1'/>", "<a b='1'/ >", "<a b='<'/>", "<a b=''''/>", "<a b=`1`/>", "<a 1='1'/>", "<a :b='1'/>", "<a b:='1'/>"} {
		isNone(t, s, api.ErrXml)
	}
}

// deep is an element of that depth.
func deep(depth int) api.Element {
	e := el("", "a", "")
	for range depth - 1 {
		e = el("", "a", "", e)
	}
	return e
}

// wide is an element with so many in it, itself counted.
func wide(many int) api.Element {
	e := el("", "a", "", el("", "b", "", el("", "c", "t")))
	for range many - 3 {
		e.Kids = append(e.Kids, el("", "d", ""))
	}
	return e
}

// P11.1: how deep elements are, and how many are in one.
func TestDepth(t *testing.T) {
	for depth := 1; depth <= 20; depth++ {
		what := "depth " + strconv.Itoa(depth)
		if depth <= 16 {
			isGood(t, what, deep(depth))
			isGood(t, what, el("", "a", "", deep(depth-1).Kids...))
		} else {
			isRefused(t, what, deep(depth), api.ErrArg)
			isRefused(t, what, el("", "a", "", el("", "b", ""), deep(depth-1)), api.ErrArg)
			isNone(t, plainText(deep(depth), ""), api.ErrXml)
			isNone(t, strings.Repeat("<a>", depth)+strings.Repeat("</a>", depth), api.ErrXml)
		}
	}
	for many := 398; many <= 403; many++ {
		what := strconv.Itoa(many) + " elements"
		if many <= 400 {
			isGood(t, what, wide(many))
		} else {
			isRefused(t, what, wide(many), api.ErrArg)
			isNone(t, plainText(wide(many), ""), api.ErrXml)
		}
	}
	isNone(t, strings.Repeat("<a>", 20000), api.ErrXml)
	isNone(t, "<a>"+strings.Repeat("<a/>", 16000)+"</a>", api.ErrXml)
	isNone(t, "<a"+strings.Repeat(" a=''", 13000)+"/>", api.ErrXml)
}

// P11.1: Text or Kids, not both.
func TestTextAndKids(t *testing.T) {
	isRefused(t, "Text and Kids", el("", "a", "t", el("", "b", "")), api.ErrArg)
	isRefused(t, "Text and Kids", el("", "a", " ", el("", "b", "")), api.ErrArg)
	isRefused(t, "Text and Kids inside", el("", "k", "", el("", "a", "\n", el("", "b", ""))), api.ErrArg)
	for _, s := range []string{"<a>t<b/></a>", "<a><b/>t</a>", "<a><b/>t<b/></a>", "<a>&#32;<b/></a>", "<a><b/>&#10;</a>", "<a>\v<b/></a>", "<a>\x00<b/></a>", "<a>\u00a0<b/></a>", "<a><b/>;</a>"} {
		isNone(t, s, api.ErrXml)
	}
}

// P11.1: texts of as many bytes as may be, and of one more; which error is first.
func TestLong(t *testing.T) {
	for _, mark := range []string{"t", ">", "\r", "&", "\n"} {
		told := plainIn.Replace(mark)
		n := (65536 - len("<a></a>")) / len(told)
		text := strings.Repeat(mark, n) + strings.Repeat("t", 65536-7-n*len(told))
		e := el("", "a", text)
		isGood(t, "MaxText bytes", e)
		isRefused(t, "one more", el("", "a", text+"t"), api.ErrLong)
		isRefused(t, "one more", el("", "a", "t"+text), api.ErrLong)
		isRefused(t, "one more, of a Name", el("", "aa", text), api.ErrLong)
	}
	value := strings.Repeat("v", 65536-len(`<a b=""/>`))
	isGood(t, "MaxText bytes with a Value", with(el("", "a", ""), "b", value))
	isRefused(t, "one more", with(el("", "a", ""), "b", value+"v"), api.ErrLong)
	isRefused(t, "a Value of marks", with(el("", "a", ""), "b", strings.Repeat(`"`, 11000)), api.ErrLong)
	isRefused(t, "a space more", with(el("s", "a", ""), "b", value), api.ErrLong)
	kids := el("", "a", "", el("", "b", strings.Repeat("t", 30000)), el("", "b", strings.Repeat("t", 30000)))
	isGood(t, "two Kids", kids)
	kids.Kids[1].Text += strings.Repeat("t", 65536-len(plainText(kids, "")))
	isGood(t, "two Kids, MaxText bytes", kids)
	kids.Kids[0].Text += "t"
	isRefused(t, "two Kids, one more", kids, api.ErrLong)

	long := strings.Repeat("t", 70000)
	isRefused(t, "ErrArg is first", with(el("", "a", long), "b", "\x00"), api.ErrArg)
	isRefused(t, "ErrArg is first", el("", "a", "", el("", "b", long), el("", "", "")), api.ErrArg)
	isRefused(t, "ErrArg is first", el("", "a", long+"\x01"), api.ErrArg)
	s := "<a>" + strings.Repeat("t", 65536-7) + "</a>"
	isRead(t, s, el("", "a", s[3:65532]))
	isNone(t, s+" ", api.ErrLong)
	isNone(t, strings.Repeat("x", 65536), api.ErrXml)
	isNone(t, strings.Repeat("x", 65537), api.ErrLong)
	// A text may tell an element whose own text is longer.
	more := el("", "a", strings.Repeat(">", 60000))
	isRead(t, "<a>"+more.Text+"</a>", more)
	isRefused(t, "its text is too long", more, api.ErrLong)
}

// P11.1: prefixes, and the spaces that they have.
func TestPrefixes(t *testing.T) {
	isRead(t, "<x:a xmlns:x='1' xmlns='2'><b/><x:b/></x:a>", el("1", "a", "", el("2", "b", ""), el("1", "b", "")))
	isRead(t, "<a xmlns='1' xmlns:x='2'><x:b xmlns:x='3'><x:c/></x:b><x:c/></a>", el("1", "a", "", el("3", "b", "", el("3", "c", "")), el("2", "c", "")))
	isRead(t, "<a xmlns='1'><b xmlns='2'><c/></b><c/><d xmlns=''><e/></d></a>", el("1", "a", "", el("2", "b", "", el("2", "c", "")), el("1", "c", ""), el("", "d", "", el("", "e", ""))))
	isRead(t, "<a xmlns:x='1'><b xmlns:y='2'><x:c/><y:d/></b></a>", el("", "a", "", el("", "b", "", el("1", "c", ""), el("2", "d", ""))))
	isRead(t, "<x:a xmlns:x=''/>", el("", "a", ""))
	isRead(t, "<x:a xmlns='1' xmlns:x='' ><b/></x:a >", el("", "a", "", el("1", "b", "")))
	isRead(t, "<xmlns:a xmlns:xmlns='s'/>", el("s", "a", ""))
	isRead(t, "<xmlns xmlns='s'/>", el("s", "xmlns", ""))
	isRead(t, "<x:x xmlns:x='s' x='t'/>", with(el("s", "x", ""), "x", "t"))
	isRead(t, "<x:a b='1' xmlns:x='s' a='2' xmlns:X='t'/>", with(el("s", "a", ""), "a", "2", "b", "1"))
	for _, s := range []string{
		"<x:a/>", "<x:a xmlns='s'/>", "<x:a xmlns:y='s'/>", "<x:a xmlns:X='s'/>", "<a><b xmlns:x='s'/><x:c/></a>", "<a><x:b/><c xmlns:x='s'/></a>", "<xmlns:a/>", "<xml:a/>",
		"<a xmlns='1' xmlns='1'/>", "<a xmlns:x='1' xmlns:x='2'/>", "<a xmlns:x='1' b='' xmlns:x='1'/>", "<a xmlns:='1'/>", "<a xmlns:1='1'/>", "<a xmlns:x:y='1'/>", "<a xmlns/>", "<a xmlns:x/>",
		"<x:a xmlns:x='s'></a>", "<a></x:a>", "<x:a xmlns:x='s' xmlns:y='s'></y:a>", "<x:a xmlns:x='s'></x:b>", "<x:y:a xmlns:x='s' xmlns:y='s'/>", "<:a/>", "<a:/>", "<x: a xmlns:x='s'/>", "<x :a xmlns:x='s'/>", "<a xmlns:x='1'></a xmlns:x='1'>",
	} {
		isNone(t, s, api.ErrXml)
	}
}

// P11.1: blank bytes, and what may be ahead of an element.
func TestBlanks(t *testing.T) {
	e := el("", "a", "", with(el("", "b", ""), "c", "1"))
	for _, b := range []string{" ", "\t", "\n", "\r", "\r\n\t  "} {
		isRead(t, "<a>"+b+"<b"+b+"c='1'/></a>", e)
		isRead(t, "<a><b c='1'"+b+"/>"+b+"</a"+b+">"+b, e)
		isRead(t, "<a"+b+">"+b+"<b c='1'"+b+">"+"</b"+b+">"+b+"</a>", e)
		isRead(t, "<?xml version='1.0'?>"+b+"<a><b c='1'/></a>"+b, e)
		isRead(t, b+"<??>"+b+"<a><b c='1'/></a>", e)
		isRead(t, b+"<a><b c='1'/></a>"+b, e)
		for _, s := range []string{"<" + b + "a><b c='1'/></a>", "<a><b c='1'/><" + b + "/a>", "<a><b c='1'/></" + b + "a>", "<a><b c" + b + "='1'/></a>", "<a><b c=" + b + "'1'/></a>", "<a><b c='1'/" + b + "></a>", "<" + b + "?x?><a/>", "<?x?" + b + "><a/>"} {
			isNone(t, s, api.ErrXml)
		}
	}
	isRead(t, "<a>  <b c='1'/>\n\t\r<b/> <b> </b>\r</a>", el("", "a", "", with(el("", "b", ""), "c", "1"), el("", "b", ""), el("", "b", " ")))
	isRead(t, "<a> t \n</a>", el("", "a", " t \n"))
	isRead(t, "<a>\t\n </a>", el("", "a", "\t\n "))
	isRead(t, "<a></a>", el("", "a", ""))
	isRead(t, "<a/>", el("", "a", ""))
	isRead(t, "<? <a> \x00\xff ? > <? ?><a/>", el("", "a", ""))
	isRead(t, "<?><b/>?><a/>", el("", "a", ""))
	for _, s := range []string{"", " ", "<", "a", "<a", "<a>", "<a/", "</a>", "<a></a", "<a><b></a>", "<a></a></a>", "<a/><a/>", "<a/>t", "t<a/>", "<a/>\x00", "\v<a/>", "\ufeff<a/>", "<a/><?x?>", "<?x?><?x?><a/>", "<?x?>", "<?x>", "<?><a/>", "<?x<a/>", "<a><?x?></a>", "<!-- --><a/>", "<a><!-- --></a>", "<a><![CDATA[t]]></a>", "<!DOCTYPE a><a/>", "<a>\r</a>", "<a>t\r</a>", "<a b='\r'/>", "<A></a>", "<a></A>", "<a></aa>", "<aa></a>", "<a//>", "<a>/>", "<a></ a>", "<a><b/></b></a>", "<></>", "</>", "<a/ >"} {
		isNone(t, s, api.ErrXml)
	}
}

// P11.2: Kid, Kids and Value.
func TestKids(t *testing.T) {
	e := with(el("", "a", "", with(el("s", "b", "1"), "x", "y"), el("", "b", "2"), el("s", "c", "", el("s", "d", "")), el("s", "b", "3")), "a", "1", "b", "")
	for _, c := range []struct {
		space, name string
		want        []int
	}{{"s", "b", []int{0, 3}}, {"", "b", []int{1}}, {"s", "c", []int{2}}, {"s", "d", nil}, {"s", "B", nil}, {"S", "b", nil}, {"", "", nil}, {"s", "", nil}, {"", "a", nil}, {"", "c", nil}} {
		what := c.space + " " + c.name
		kid, there := xml.Kid(e, c.space, c.name)
		is(t, what+": Kid", there, len(c.want) > 0)
		if there {
			isElement(t, what+": Kid", kid, e.Kids[c.want[0]])
		} else {
			isElement(t, what+": Kid tells nothing", kid, api.Element{})
		}
		all := xml.Kids(e, c.space, c.name)
		for range 2 {
			for stop := range len(c.want) + 1 {
				i := 0
				for kid := range all {
					if i >= len(c.want) {
						t.Fatalf("%s: Kids tells too many", what)
					}
					isElement(t, what+": Kids", kid, e.Kids[c.want[i]])
					i++
					if i == stop {
						break
					}
				}
				if stop == 0 {
					is(t, what+": how many", i, len(c.want))
				}
			}
		}
	}
	for name, want := range map[string]struct {
		value string
		there bool
	}{"a": {"1", true}, "b": {"", true}, "": {"", false}, "c": {"", false}, "A": {"", false}, "xmlns": {"", false}} {
		value, there := xml.Value(e, name)
		is(t, "Value of "+name, value, want.value)
		is(t, "Value of "+name, there, want.there)
	}
}

// P11.2: Kid, Kids and Value of elements that may not be.
func TestKidsOfAny(t *testing.T) {
	bad := with(el("<", "", "t", el("\x00", "1", "", el("", "", "")), el("\x00", "1", "2")), "xmlns", "s", "b", "1", "b", "2")
	kid, there := xml.Kid(bad, "\x00", "1")
	is(t, "Kid", there, true)
	isElement(t, "Kid", kid, bad.Kids[0])
	many := 0
	for kid := range xml.Kids(bad, "\x00", "1") {
		isElement(t, "Kids", kid, bad.Kids[many])
		many++
	}
	is(t, "Kids", many, 2)
	value, there := xml.Value(bad, "xmlns")
	is(t, "Value", value, "s")
	is(t, "Value", there, true)
	value, _ = xml.Value(bad, "b")
	is(t, "Value", value, "1")
	_, there = xml.Kid(api.Element{}, "", "")
	is(t, "Kid of none", there, false)
	_, there = xml.Value(api.Element{}, "")
	is(t, "Value of none", there, false)
	for range xml.Kids(api.Element{}, "", "") {
		t.Error("Kids of none")
	}
}

// P11.2: Same, of whatever elements.
func TestSame(t *testing.T) {
	e := func() api.Element {
		return with(el("s", "a", "t", el("s", "b", "", el("", "c", "1")), el("", "d", "")), "a", "1", "b", "2")
	}
	is(t, "Same", xml.Same(e(), e()), true)
	is(t, "Same of none", xml.Same(api.Element{}, api.Element{Attributes: []api.Attribute{}, Kids: []api.Element{}}), true)
	for i, change := range []func(*api.Element){
		func(e *api.Element) { e.Space = "S" },
		func(e *api.Element) { e.Space = "" },
		func(e *api.Element) { e.Name = "A" },
		func(e *api.Element) { e.Text = "" },
		func(e *api.Element) { e.Attributes[1].Value = "3" },
		func(e *api.Element) { e.Attributes[1].Name = "c" },
		func(e *api.Element) { e.Attributes = e.Attributes[:1] },
		func(e *api.Element) { e.Attributes = nil },
		func(e *api.Element) { e.Attributes[0], e.Attributes[1] = e.Attributes[1], e.Attributes[0] },
		func(e *api.Element) { e.Kids = e.Kids[:1] },
		func(e *api.Element) { e.Kids = nil },
		func(e *api.Element) { e.Kids = append(e.Kids, api.Element{}) },
		func(e *api.Element) { e.Kids[0], e.Kids[1] = e.Kids[1], e.Kids[0] },
		func(e *api.Element) { e.Kids[0].Space = "" },
		func(e *api.Element) { e.Kids[1].Name = "e" },
		func(e *api.Element) { e.Kids[1].Text = " " },
		func(e *api.Element) { e.Kids[0].Kids[0].Text = "2" },
		func(e *api.Element) { e.Kids[0].Kids[0].Kids = []api.Element{{}} },
		func(e *api.Element) { e.Kids[0].Kids = nil },
		func(e *api.Element) { *e = with(*e, "c", "") },
	} {
		other := e()
		change(&other)
		is(t, "Same of change "+strconv.Itoa(i), xml.Same(e(), other), false)
		is(t, "Same of change "+strconv.Itoa(i), xml.Same(other, e()), false)
		is(t, "Same of change "+strconv.Itoa(i), xml.Same(other, other), true)
	}
}

// randomBytes tells a text of bytes that may stand in Text and Values.
func randomBytes(r *rand.Rand, most int) string {
	const likely = "&<>\"'\t\n\r ;#at\x7f\xe9"
	b := make([]byte, r.Intn(most+1))
	for i := range b {
		b[i] = likely[r.Intn(len(likely))]
		if r.Intn(4) == 0 {
			b[i] = byte(32 + r.Intn(224))
		}
	}
	return string(b)
}

// pick tells one of some.
func pick[T any](r *rand.Rand, l ...T) T { return l[r.Intn(len(l))] }

// randomElement tells an element that may be.
func randomElement(r *rand.Rand, depth int) api.Element {
	e := el(pick(r, "", "s", "DAV:", "it's"), pick(r, "a", "b", "Long-name_1.x", "xmlns"), "")
	for _, n := range []string{"A", "a", "b", "c.d", "xmlnsx"} {
		if r.Intn(4) == 0 {
			e = with(e, n, randomBytes(r, 6))
		}
	}
	if r.Intn(3) == 0 {
		e.Text = randomBytes(r, 8)
	} else if depth < 4 {
		for range r.Intn(4) {
			e.Kids = append(e.Kids, randomElement(r, depth+1))
		}
	}
	return e
}

// blanks tells some blank bytes, at least so many.
func blanks(r *rand.Rand, least int) string {
	s := ""
	for len(s) < least || r.Intn(3) == 0 {
		s += pick(r, " ", "\t", "\n", "\r")
	}
	return s
}

// loose tells a Text or a Value in one of the forms that it may have; around is what is around it, if it is a Value.
func loose(r *rand.Rand, s, around string) string {
	out := ""
	for i := range len(s) {
		c := s[i : i+1]
		forms := []string{"&#" + strconv.Itoa(int(s[i])) + ";"}
		if c != "&" && c != "<" && c != "\r" && c != around {
			forms = append(forms, c, c)
		}
		if named, there := map[string]string{"&": "&amp;", "<": "&lt;", ">": "&gt;", "\"": "&quot;", "'": "&apos;"}[c]; there {
			forms = append(forms, named)
		}
		out += pick(r, forms...)
	}
	return out
}

// looseText tells an element in one of the forms that its text may have, among those spaces.
func looseText(r *rand.Rand, e api.Element, spaces map[string]string) string {
	own := map[string]string{}
	for k, v := range spaces {
		own[k] = v
	}
	var parts []string
	say := func(prefix, space string) {
		own[prefix] = space
		name := "xmlns"
		if prefix != "" {
			name += ":" + prefix
		}
		q := pick(r, "\"", "'")
		parts = append(parts, name+"="+q+loose(r, space, q)+q)
	}
	prefix := pick(r, "", "p", "q", "xmlns")
	if space, there := own[prefix]; !there || space != e.Space || r.Intn(3) == 0 {
		say(prefix, e.Space)
	}
	if other := pick(r, "", "p", "q", "r"); other != prefix && r.Intn(4) == 0 {
		say(other, pick(r, "", "t", "s"))
	}
	for _, a := range e.Attributes {
		q := pick(r, "\"", "'")
		parts = append(parts, a.Name+"="+q+loose(r, a.Value, q)+q)
	}
	r.Shuffle(len(parts), func(i, j int) { parts[i], parts[j] = parts[j], parts[i] })
	name := e.Name
	if prefix != "" {
		name = prefix + ":" + name
	}
	s := "<" + name
	for _, p := range parts {
		s += blanks(r, 1) + p
	}
	s += blanks(r, 0)
	if e.Text == "" && len(e.Kids) == 0 && r.Intn(2) == 0 {
		return s + "/>"
	}
	s += ">" + loose(r, e.Text, "")
	for _, kid := range e.Kids {
		s += blanks(r, 0) + looseText(r, kid, own)
	}
	if len(e.Kids) > 0 {
		s += blanks(r, 0)
	}
	return s + "</" + name + blanks(r, 0) + ">"
}

// P11.1 and P11.3: many elements as they fall, in their own text and in the other forms that it may have.
func TestMany(t *testing.T) {
	r := rand.New(rand.NewSource(11))
	for range 3000 {
		e := randomElement(r, 1)
		isGood(t, "an element", e)
		s := looseText(r, e, map[string]string{"": ""})
		if r.Intn(2) == 0 {
			s = blanks(r, 0) + "<?" + pick(r, "xml version='1.0'", "", "<a>", "?") + "?>" + blanks(r, 0) + s
		}
		isRead(t, s+blanks(r, 0), e)
		if t.Failed() {
			return
		}
	}
}

// P11.1: many texts as they fall, with changes here and there, held against the chapter's words.
func TestManyTexts(t *testing.T) {
	r := rand.New(rand.NewSource(12))
	pieces := []string{"<", ">", "/", "/>", "</", " ", "\n", "\r", "\"", "'", "&", ";", "&#", "#", "=", ":", "a", "b", "1", "xmlns", "xmlns:p", " xmlns:p='s'", " xmlns='t'", "p:", "<?", "?>", "&lt;", "<a>", "</a>", "<b/>", "\x00", "\xff", "-", ""}
	good := 0
	for range 60000 {
		e := randomElement(r, 3)
		s := looseText(r, e, map[string]string{"": ""})
		for range 1 + r.Intn(2) {
			at := r.Intn(len(s) + 1)
			to := min(len(s), at+r.Intn(3))
			s = s[:at] + pick(r, pieces...) + s[to:]
		}
		isAsTold(t, s)
		if _, no := xml.Parse(s); no == api.OK {
			good++
		}
		if t.Failed() {
			return
		}
	}
	if good < 3000 || good > 57000 {
		t.Errorf("%d of the texts are elements'", good)
	}
}

// P11.1: all texts of few pieces, held against the chapter's words.
func TestAllTexts(t *testing.T) {
	pieces := []string{"<a", "<p:b", "</a", "</p:b", ">", "/>", " ", "t", " xmlns:p='s'", " c='1'", "<??>"}
	texts := []string{""}
	for range 5 {
		var longer []string
		for _, s := range texts {
			for _, p := range pieces {
				isAsTold(t, s+p)
				longer = append(longer, s+p)
			}
			if t.Failed() {
				return
			}
		}
		texts = longer
	}
}

// copyOf is an element that shares nothing with the other one, made by no call.
func copyOf(e api.Element) api.Element {
	e.Attributes = append([]api.Attribute(nil), e.Attributes...)
	kids := e.Kids
	e.Kids = nil
	for _, kid := range kids {
		e.Kids = append(e.Kids, copyOf(kid))
	}
	return e
}

// spoil changes all that can be changed in an element.
func spoil(e api.Element) {
	for i := range e.Attributes {
		e.Attributes[i] = api.Attribute{Name: "spoiled", Value: "spoiled"}
	}
	_ = append(e.Attributes, api.Attribute{Name: "spoiled"})
	_ = append(e.Kids, el("", "spoiled", ""))
	for i := range e.Kids {
		spoil(e.Kids[i])
		e.Kids[i] = el("", "spoiled", "")
	}
}

// family is an element with Kids that have Kids and attributes.
func family() api.Element {
	kid := with(el("s", "b", "", with(el("s", "c", "t"), "x", "1"), el("", "d", "")), "y", "2", "z", "3")
	return with(el("s", "a", "", copyOf(kid), el("s", "e", ""), copyOf(kid)), "a", "1")
}

// P11.1 and P11.2: what is handed in is neither changed nor kept, and what is answered is new memory.
func TestMemory(t *testing.T) {
	e := family()
	want := family()
	e.Kids = append(e.Kids, api.Element{Name: "room"})[:3]
	e.Attributes = append(e.Attributes, api.Attribute{Name: "room"})[:1]
	all := xml.Kids(e, "s", "b")
	kid, _ := xml.Kid(e, "s", "b")
	s, _ := xml.Text(e)
	xml.Check(e)
	xml.Same(e, e)
	for k := range all {
		spoil(k)
	}
	spoil(kid)
	isElement(t, "what was handed in", e, want)
	is(t, "spare room", e.Kids[:4][3].Name, "room")
	is(t, "spare room", e.Attributes[:2][1].Name, "room")
	kid, _ = xml.Kid(e, "s", "b")
	spoil(e)
	isElement(t, "Kid keeps nothing", kid, want.Kids[0])
	many := 0
	for k := range all {
		isElement(t, "Kids keeps nothing", k, want.Kids[0])
		many++
	}
	is(t, "Kids keeps nothing", many, 2)
	a, _ := xml.Parse(s)
	b, _ := xml.Parse(s)
	isElement(t, "Parse", a, want)
	kid = a.Kids[0]
	_ = append(kid.Kids, el("", "spoiled", ""))
	isElement(t, "lists of one answer", a, want)
	spoil(a)
	isElement(t, "Parse tells new memory", b, want)
}

// shared is an element each of whose Kids are the same two.
func shared(depth int) api.Element {
	e := el("", "a", "")
	for range depth {
		e = el("", "a", "", e, e)
	}
	return e
}

// All calls end, of very deep and very large elements.
func TestHuge(t *testing.T) {
	far := deep(1000000)
	isRefused(t, "a very deep one", far, api.ErrArg)
	is(t, "Same of deep ones", xml.Same(far, deep(1000000)), true)
	is(t, "Same of deep ones", xml.Same(far, deep(1000001)), false)
	kid, there := xml.Kid(far, "", "a")
	is(t, "Kid of a deep one", there, true)
	is(t, "Kid of a deep one", xml.Same(kid, far.Kids[0]), true)
	for kid := range xml.Kids(far, "", "a") {
		is(t, "Kids of a deep one", xml.Same(kid, far.Kids[0]), true)
	}
	isRefused(t, "very many", shared(60), api.ErrArg)
	isRefused(t, "very many Kids", wide(1000000), api.ErrArg)
	round := el("", "a", "", api.Element{})
	round.Kids[0] = round
	isRefused(t, "one that holds itself", round, api.ErrArg)
	long := strings.Repeat("&", 1<<26)
	isRefused(t, "a very long Text", el("", "a", long), api.ErrLong)
	isRefused(t, "a very long Value", with(el("", "a", ""), "b", long), api.ErrLong)
	isRefused(t, "a very long Name", el("", long, ""), api.ErrArg)
	isRefused(t, "a very long space", el(long, "a", ""), api.ErrArg)
	isNone(t, long, api.ErrLong)
	many := el("", "a", "")
	for i := range 100000 {
		many = with(many, "n"+strconv.Itoa(1000000+i), "")
	}
	isRefused(t, "very many attributes", many, api.ErrArg)
	value, there := xml.Value(many, "n1099999")
	is(t, "Value of very many", value, "")
	is(t, "Value of very many", there, true)
}
