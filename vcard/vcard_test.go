package vcard_test

import (
	"fmt"
	"math/rand"
	"regexp"
	"slices"
	"strings"
	"testing"

	"cardcase/api"
	"cardcase/vcard"
)

// is fails where an answer is another than the one that is asked for.
func is[T comparable](t *testing.T, what string, got, want T) {
	t.Helper()
	if got != want {
		t.Errorf("%s: %s, want %s", what, short(fmt.Sprint(got)), short(fmt.Sprint(want)))
	}
}

// areTexts fails where texts are others than those that are asked for. Nil and empty are the same.
func areTexts(t *testing.T, what string, got, want []string) {
	t.Helper()
	if !slices.Equal(got, want) {
		t.Errorf("%s: %d: %s, want %d: %s", what, len(got), short(strings.Join(got, "|")), len(want), short(strings.Join(want, "|")))
	}
}

// short tells a text in quotes, or how it begins.
func short(s string) string {
	if len(s) > 600 {
		return fmt.Sprintf("%q .. (%d bytes)", s[:600], len(s))
	}
	return fmt.Sprintf("%q", s)
}

// of makes a card of Version 4.0.
func of(lines ...api.Line) api.Vcard { return api.Vcard{Version: "4.0", Lines: lines} }

// line makes a line without Group.
func line(name, value string, params ...api.Param) api.Line {
	return api.Line{Name: name, Params: params, Value: value}
}

// param makes a parameter.
func param(name, value string) api.Param { return api.Param{Name: name, Value: value} }

// all tells all that is in a card, nil and empty being the same.
func all(c api.Vcard) string {
	var s strings.Builder
	s.WriteString(fmt.Sprintf("%q", c.Version))
	for _, l := range c.Lines {
		s.WriteString(fmt.Sprintf(" [%q %q", l.Group, l.Name))
		for _, p := range l.Params {
			s.WriteString(fmt.Sprintf(" (%q %q)", p.Name, p.Value))
		}
		s.WriteString(fmt.Sprintf(" %q]", l.Value))
	}
	return s.String()
}

// isCard fails where a card is another than the one that is asked for, names told in just these letters.
func isCard(t *testing.T, what string, got, want api.Vcard) {
	t.Helper()
	is(t, what, all(got), all(want))
}

// small tells a text whose letters A to Z are a to z, and great one whose letters a to z are A to Z.
func small(s string) string { return shifted(s, 'A', 'Z', 32) }

func great(s string) string { return shifted(s, 'a', 'z', -32) }

// shifted tells a text whose bytes between two are others.
func shifted(s string, from, to byte, by int) string {
	b := []byte(s)
	for i, c := range b {
		if c >= from && c <= to {
			b[i] = byte(int(c) + by)
		}
	}
	return string(b)
}

// withSmallNames tells the card whose names are in small letters.
func withSmallNames(c api.Vcard) api.Vcard {
	lines := slices.Clone(c.Lines)
	for i, l := range lines {
		var params []api.Param
		for _, p := range l.Params {
			params = append(params, param(small(p.Name), p.Value))
		}
		lines[i] = api.Line{Group: small(l.Group), Name: small(l.Name), Params: params, Value: l.Value}
	}
	return api.Vcard{Version: c.Version, Lines: lines}
}

// plainFold tells a text folded, as the chapter's 'Words' say: by the numbers of the bytes ahead of which a fold stands.
func plainFold(s string) string {
	var told []byte
	for i := range len(s) {
		if i == 75 || i > 75 && (i-75)%74 == 0 {
			told = append(told, 13, 10, 32)
		}
		told = append(told, s[i])
	}
	return string(told)
}

// plainLine tells a line's text, as the chapter's 'Words' say it.
func plainLine(l api.Line) string {
	s := ""
	if l.Group != "" {
		s = great(l.Group) + "."
	}
	s += great(l.Name)
	for _, p := range l.Params {
		if strings.ContainsAny(p.Value, ":;,") {
			s += ";" + great(p.Name) + "=\"" + p.Value + "\""
		} else {
			s += ";" + great(p.Name) + "=" + p.Value
		}
	}
	return s + ":" + l.Value
}

// plainText tells a card's text, as the chapter's 'Words' say it.
func plainText(c api.Vcard) string {
	var s strings.Builder
	s.WriteString("BEGIN:VCARD\r\nVERSION:" + c.Version + "\r\n")
	for _, l := range c.Lines {
		s.WriteString(plainFold(plainLine(l)) + "\r\n")
	}
	return s.String() + "END:VCARD\r\n"
}

// What texts are made of, as the chapter's 'Words' say it.
const (
	nameText  = `[A-Za-z][A-Za-z0-9-]{0,63}`
	valueText = `"[^"]*"|[^":;,]*`
)

var (
	foldForm  = regexp.MustCompile("\r?\n[ \t]")
	endForm   = regexp.MustCompile("\r?\n")
	lineForm  = regexp.MustCompile(`(?s)\A(?:(` + nameText + `)\.)?(` + nameText + `)((?:;` + nameText + `=(?:` + valueText + `))*):(.*)\z`)
	paramForm = regexp.MustCompile(`(?s);(` + nameText + `)=(` + valueText + `)`)
	nameForm  = regexp.MustCompile(`\A` + nameText + `\z`)
	pairForm  = regexp.MustCompile(`(?s)\\.`)
)

// plainUnfold tells the lines of a text, and what stands behind the last end, by these forms.
func plainUnfold(s string) (lines []string, rest string) {
	pieces := endForm.Split(foldForm.ReplaceAllString(s, ""), -1)
	last := len(pieces) - 1
	return pieces[:last], pieces[last]
}

// isFrom tells whether all bytes of a text are from 32 on, or one of the others.
func isFrom(s, others string) bool {
	for i := range len(s) {
		if s[i] < 32 && !strings.Contains(others, s[i:i+1]) {
			return false
		}
	}
	return true
}

// plainLineOf tells the line of a text by these forms, and whether it is one's.
func plainLineOf(s string) (api.Line, bool) {
	found := lineForm.FindStringSubmatch(s)
	if found == nil {
		return api.Line{}, false
	}
	l := api.Line{Group: small(found[1]), Name: small(found[2]), Value: found[4]}
	for _, p := range paramForm.FindAllStringSubmatch(found[3], -1) {
		l.Params = append(l.Params, param(small(p[1]), strings.Trim(p[2], `"`)))
	}
	return l, mayLine(l)
}

// mayLine tells whether a line may be one of a card, as the chapter's 'Words' say.
func mayLine(l api.Line) bool {
	may := len(l.Params) <= 8 && len(l.Value) <= 4000 && isFrom(l.Value, "\t")
	may = may && nameForm.MatchString(l.Name) && (l.Group == "" || nameForm.MatchString(l.Group))
	for _, p := range l.Params {
		may = may && nameForm.MatchString(p.Name) && len(p.Value) <= 100 && isFrom(p.Value, "") && !strings.Contains(p.Value, `"`)
	}
	return may && !slices.Contains([]string{"begin", "end", "version"}, small(l.Name))
}

// plainParse tells the card of a text by these forms, and whether it is one's.
func plainParse(s string) (api.Vcard, bool) {
	lines, rest := plainUnfold(s)
	n := len(lines)
	if rest != "" || n < 3 || small(lines[0]) != "begin:vcard" || small(lines[n-1]) != "end:vcard" {
		return api.Vcard{}, false
	}
	var c api.Vcard
	versions := 0
	for _, s := range lines[1 : n-1] {
		if v := small(s); v == "version:3.0" || v == "version:4.0" {
			c.Version = v[8:]
			versions++
			continue
		}
		l, may := plainLineOf(s)
		if !may {
			return api.Vcard{}, false
		}
		c.Lines = append(c.Lines, l)
	}
	return c, versions == 1 && len(c.Lines) <= 100
}

// isTold fails where Parse does not answer of a text as the forms do.
func isTold(t *testing.T, s string) {
	t.Helper()
	want, may := plainParse(s)
	switch {
	case len(s) > 16000:
		isRefused(t, s, api.ErrLong)
	case may:
		isText(t, s, want)
	default:
		isRefused(t, s, api.ErrVcard)
	}
}

// isText fails where a text is not that card's.
func isText(t *testing.T, s string, want api.Vcard) {
	t.Helper()
	c, no := vcard.Parse(s)
	if no != api.OK || all(c) != all(want) {
		t.Errorf("Parse of %s: %v %s, want %s", short(s), no, short(all(c)), short(all(want)))
	}
}

// isRefused fails where a text is not refused with that error.
func isRefused(t *testing.T, s string, want api.Errno) {
	t.Helper()
	c, no := vcard.Parse(s)
	if no != want || all(c) != all(api.Vcard{}) {
		t.Errorf("Parse of %s: %v %s, want %v", short(s), no, short(all(c)), want)
	}
}

// isGood fails where a card that may be is not taken as such, or is not told as the Words say.
func isGood(t *testing.T, c api.Vcard) {
	t.Helper()
	want := plainText(c)
	is(t, "Check of "+short(want), vcard.Check(c), api.OK)
	s, no := vcard.Text(c)
	is(t, "Text of "+short(want), no, api.OK)
	is(t, "Text", s, want)
	isText(t, want, withSmallNames(c))
	is(t, "Same of "+short(want)+" and itself", vcard.Same(c, withSmallNames(c)), true)
}

// isBad fails where a card is not refused with that error.
func isBad(t *testing.T, c api.Vcard, want api.Errno) {
	t.Helper()
	what := short(all(c))
	is(t, "Check of "+what, vcard.Check(c), want)
	s, no := vcard.Text(c)
	is(t, "Text of "+what, no, want)
	is(t, "Text of "+what, s, "")
}

// isAsked fails where a line is not taken, or not refused, as the Words say: in a card, and in its text.
func isAsked(t *testing.T, l api.Line) {
	t.Helper()
	for _, lines := range [][]api.Line{{l}, {line("fn", "Ann"), l}, {l, line("fn", "Ann")}} {
		if mayLine(l) {
			isGood(t, of(lines...))
		} else {
			isBad(t, of(lines...), api.ErrArg)
		}
	}
	isTold(t, framed(plainLine(l)))
}

// framed tells a text that is a card's, if that is a line's.
func framed(line string) string { return "BEGIN:VCARD\r\nVERSION:4.0\r\n" + line + "\r\nEND:VCARD\r\n" }

func TestExamples(t *testing.T) { // P15.1, P15.2
	c, no := vcard.Parse("begin:vcard\nVersion:3.0\nitem1.TEL;type=\"home\":1\n 2\nend:vcard\n")
	is(t, "Parse", no, api.OK)
	isCard(t, "Parse", c, api.Vcard{Version: "3.0", Lines: []api.Line{{
		Group: "item1", Name: "tel", Params: []api.Param{{Name: "type", Value: "home"}}, Value: "12",
	}}})
	is(t, "Escape", vcard.Escape(`a,b;c\`), `a\,b\;c\\`)
	is(t, "Unescape", vcard.Unescape(`a\nb\`), "a\nb\\")
	areTexts(t, "Parts", vcard.Parts(`a\;b;c`, false), []string{`a\;b`, "c"})
	isRefused(t, "BEGIN:VCARD\r\nEND:VCARD\r\n", api.ErrVcard)
}

func TestKnownTexts(t *testing.T) { // P15.1
	for want, c := range map[string]api.Vcard{
		"BEGIN:VCARD\r\nVERSION:4.0\r\nEND:VCARD\r\n":                                                                                                         of(),
		"BEGIN:VCARD\r\nVERSION:3.0\r\nEND:VCARD\r\n":                                                                                                         {Version: "3.0"},
		"BEGIN:VCARD\r\nVERSION:4.0\r\nFN:Ann\\, B\r\nEND:VCARD\r\n":                                                                                          of(line("fn", `Ann\, B`)),
		"BEGIN:VCARD\r\nVERSION:4.0\r\nN:\r\nN::;\",=\t\xff\r\nEND:VCARD\r\n":                                                                                 of(line("n", ""), line("N", ":;\",=\t\xff")),
		"BEGIN:VCARD\r\nVERSION:4.0\r\nITEM1.TEL;TYPE=home:1\r\nEND:VCARD\r\n":                                                                                of(api.Line{Group: "Item1", Name: "Tel", Params: []api.Param{{Name: "Type", Value: "home"}}, Value: "1"}),
		"BEGIN:VCARD\r\nVERSION:4.0\r\nA;B=;B=\"a,b\";C=a=b':d\r\nEND:VCARD\r\n":                                                                              of(line("a", "d", param("b", ""), param("b", "a,b"), param("c", "a=b'"))),
		"BEGIN:VCARD\r\nVERSION:4.0\r\nNOTE:" + strings.Repeat("x", 70) + "\r\nEND:VCARD\r\n":                                                                 of(line("note", strings.Repeat("x", 70))),
		"BEGIN:VCARD\r\nVERSION:4.0\r\nNOTE:" + strings.Repeat("x", 70) + "\r\n y\r\nEND:VCARD\r\n":                                                           of(line("note", strings.Repeat("x", 70)+"y")),
		"BEGIN:VCARD\r\nVERSION:4.0\r\nNOTE:" + strings.Repeat("x", 70) + "\r\n " + strings.Repeat("y", 74) + "\r\nEND:VCARD\r\n":                             of(line("note", strings.Repeat("x", 70)+strings.Repeat("y", 74))),
		"BEGIN:VCARD\r\nVERSION:4.0\r\nNOTE:" + strings.Repeat("x", 70) + "\r\n " + strings.Repeat("y", 74) + "\r\n  \r\nEND:VCARD\r\n":                       of(line("note", strings.Repeat("x", 70)+strings.Repeat("y", 74)+" ")),
		"BEGIN:VCARD\r\nVERSION:4.0\r\nNOTE:" + strings.Repeat("x", 70) + "\r\n  \t\r\nEND:VCARD\r\n":                                                         of(line("note", strings.Repeat("x", 70)+" \t")),
		"BEGIN:VCARD\r\nVERSION:4.0\r\nNOTE;X=" + strings.Repeat("x", 68) + "\r\n :1\r\nEND:VCARD\r\n":                                                        of(line("note", "1", param("x", strings.Repeat("x", 68)))),
		"BEGIN:VCARD\r\nVERSION:4.0\r\n" + strings.Repeat("G", 64) + "." + strings.Repeat("N", 10) + "\r\n " + strings.Repeat("N", 54) + ":\r\nEND:VCARD\r\n": of(api.Line{Group: strings.Repeat("g", 64), Name: strings.Repeat("n", 64)}),
	} {
		s, no := vcard.Text(c)
		is(t, "Text", no, api.OK)
		is(t, "Text", s, want)
		isGood(t, c)
	}
}

func TestVersions(t *testing.T) { // P15.1
	for _, v := range []string{"3.0", "4.0"} {
		isGood(t, api.Vcard{Version: v})
		isGood(t, api.Vcard{Version: v, Lines: []api.Line{line("fn", "Ann")}})
	}
	for _, v := range []string{"", "3", "4", "3.", ".0", "2.1", "2.0", "5.0", "1.0", "3.1", "4.1", "3.00", "03.0", "3,0", " 3.0", "3.0 ", "3.0\n", "34.0", "30", "40", "3\x000", "3.0\r\nFN:a", strings.Repeat("3.0", 100000)} {
		isBad(t, api.Vcard{Version: v}, api.ErrArg)
		isBad(t, api.Vcard{Version: v, Lines: []api.Line{line("fn", "Ann")}}, api.ErrArg)
		isTold(t, "BEGIN:VCARD\r\nVERSION:"+v+"\r\nEND:VCARD\r\n")
		isTold(t, "BEGIN:VCARD\r\nVERSION:"+v+"\r\nVERSION:3.0\r\nEND:VCARD\r\n")
		isTold(t, "BEGIN:VCARD\r\nVERSION:4.0\r\nVERSION:"+v+"\r\nEND:VCARD\r\n")
	}
}

// namesToAsk tells texts of which many are no names.
func namesToAsk() []string {
	names := []string{
		"", "a", "Z", "tel", "TEL", "tEl", "x-a", "X-A", "a-", "a--1", "1", "-", "-a", "9cn", "a.b", ".", "a.", ".a", "a_b", "a b", " a", "a ", "a:", "a;", "a=", "a\"", "\"a\"", "a,b",
		"a\r\n b", "a\nb", "\n", "ä", "aä", "\u212a", "a\u017f", "\xc3", "a\xff", "a\x00", strings.Repeat("a", 64), strings.Repeat("A", 64), strings.Repeat("a", 65), "z" + strings.Repeat("-", 63), "z" + strings.Repeat("9", 64), strings.Repeat("a", 20000),
	}
	for n := range 256 {
		b := string([]byte{byte(n)})
		names = append(names, b, b+"x", "x"+b, "x"+b+"y")
	}
	return names
}

func TestNames(t *testing.T) { // P15.1
	for _, name := range namesToAsk() {
		isAsked(t, line(name, "v"))
		isAsked(t, api.Line{Group: name, Name: "tel", Value: "v"})
		isAsked(t, api.Line{Group: "g", Name: name, Value: "v"})
		isAsked(t, line("tel", "v", param(name, "home")))
		isAsked(t, line("tel", "v", param("a", "b"), param(name, "")))
	}
}

func TestNamesThatAreNoLines(t *testing.T) { // P15.1
	for _, name := range []string{"begin", "end", "version", "BEGIN", "END", "VERSION", "Begin", "eNd", "versioN"} {
		isBad(t, of(line(name, "VCARD")), api.ErrArg)
		isBad(t, of(line(name, "4.0")), api.ErrArg)
		isBad(t, of(line("fn", "Ann"), api.Line{Group: "g", Name: name}), api.ErrArg)
		isBad(t, of(line(name, "", param("a", "b")), line("fn", "Ann")), api.ErrArg)
		for _, value := range []string{"", "VCARD", "4.0", "3.0", "x"} {
			isRefused(t, framed(name+":"+value), api.ErrVcard)
			isRefused(t, framed("g."+name+":"+value), api.ErrVcard)
			isRefused(t, framed(name+";a=b:"+value), api.ErrVcard)
			isRefused(t, framed("FN:Ann\r\n"+name+":"+value), api.ErrVcard)
		}
		// As other names they may stand, and so may names that only begin or end so.
		isGood(t, of(api.Line{Group: name, Name: "fn", Params: []api.Param{param(name, name)}, Value: name}))
		isGood(t, of(line(name+"s", "x"), line("x"+name, "x"), line(name[:len(name)-1], "x"), line(name+"-", "x"), line(name[1:], "x")))
	}
}

func TestParams(t *testing.T) { // P15.1
	for n := range 12 {
		isAsked(t, line("tel", "1", slices.Repeat([]api.Param{param("type", "a,b")}, n)...))
		var params []api.Param
		for i := range n {
			params = append(params, param(fmt.Sprintf("p%d", i), fmt.Sprintf("v%d", 9-i)))
		}
		isAsked(t, api.Line{Group: "g", Name: "tel", Params: params, Value: "1"})
	}
	isBad(t, of(line("tel", "1", make([]api.Param, 100000)...)), api.ErrArg)
	for _, size := range []int{0, 1, 2, 67, 68, 69, 99, 100, 101, 102, 200, 20000} {
		for _, c := range []string{"x", ",", ":", " ", "\xff", "=", "\\"} {
			isAsked(t, line("tel", "1", param("type", strings.Repeat(c, size))))
			isAsked(t, line("tel", "1", param("type", strings.Repeat("x", max(size-1, 0))+c), param("b", "c")))
		}
	}
	for n := range 256 {
		b := string([]byte{byte(n)})
		for _, value := range []string{b, b + "x", "x" + b, "x" + b + "y", b + b, ":" + b, b + ";", "," + b + ",", b + "\""} {
			isAsked(t, line("tel", "1", param("type", value)))
			isAsked(t, line("tel", "1", param("type", value), param("type", value)))
			isTold(t, framed("TEL;TYPE="+value+":1"))
			isTold(t, framed("TEL;TYPE=\""+value+"\":1"))
			isTold(t, framed("TEL;TYPE=\""+value+"\""))
			isTold(t, framed("TEL;TYPE=\""+value+":1"))
			isTold(t, framed("TEL;TYPE=a"+value+"\"b\":1"))
			isTold(t, framed("TEL;TYPE=\"a\""+value+":1"))
		}
	}
}

func TestValues(t *testing.T) { // P15.1
	for _, size := range []int{0, 1, 2, 70, 71, 72, 144, 145, 146, 147, 1000, 3999, 4000, 4001, 4002, 8000, 15000, 100000} {
		for _, c := range []string{"x", " ", "\t", "\x80", "\\", "\""} {
			isAsked(t, line("note", strings.Repeat(c, size)))
		}
	}
	for n := range 256 {
		b := string([]byte{byte(n)})
		for _, value := range []string{b, b + "x", "x" + b, "x" + b + "y", b + b, strings.Repeat(b, 200), strings.Repeat("x", 68) + b + "y", strings.Repeat("x", 69) + b + "y", strings.Repeat("x", 70) + b + "y"} {
			isAsked(t, line("note", value))
			isAsked(t, line("note", value, param("a", "b")))
		}
	}
}

func TestManyLines(t *testing.T) { // P15.1
	for _, n := range []int{0, 1, 2, 50, 99, 100, 101, 102, 1000} {
		var lines []api.Line
		var text strings.Builder
		text.WriteString("BEGIN:VCARD\nVERSION:4.0\n")
		for i := range n {
			lines = append(lines, line("x", fmt.Sprint(i)))
			text.WriteString(fmt.Sprintf("x:%d\n", i))
		}
		text.WriteString("END:VCARD\n")
		isTold(t, text.String())
		if n <= 100 {
			isGood(t, of(lines...))
			isText(t, text.String(), of(lines...))
		} else {
			isBad(t, of(lines...), api.ErrArg)
			isRefused(t, text.String(), api.ErrVcard)
		}
	}
	isBad(t, of(make([]api.Line, 1000000)...), api.ErrArg)
	// The one that may not be is at any place.
	for i := range 100 {
		lines := slices.Repeat([]api.Line{line("x", "")}, 100)
		isGood(t, of(lines...))
		lines[i].Name = "1"
		isBad(t, of(lines...), api.ErrArg)
	}
	for i := range 8 {
		params := slices.Repeat([]api.Param{param("x", "")}, 8)
		params[i].Value = "\n"
		isBad(t, of(line("fn", "", params...)), api.ErrArg)
		params[i].Value = ""
		params[i].Name = ""
		isBad(t, of(line("fn", "", params...)), api.ErrArg)
	}
}

// ofSize makes a card whose text has so many bytes.
func ofSize(t *testing.T, size int) api.Vcard {
	t.Helper()
	c := of(line("note", strings.Repeat("a", 4000)), line("note", strings.Repeat("b", 4000)), line("note", strings.Repeat("c", 4000)))
	// What is left goes into a line of about so many bytes, and short ones behind it, as folds make some sizes be left out.
	about := (size - len(plainText(c))) * 74 / 77
	for n := about - 20; n < about+10; n++ {
		for many := range 4 {
			lines := append(slices.Clone(c.Lines), line("x", strings.Repeat("d", n)))
			full := of(append(lines, slices.Repeat([]api.Line{line("x", "")}, many)...)...)
			if len(plainText(full)) == size {
				return full
			}
		}
	}
	t.Fatalf("no card of a text of %d bytes", size)
	return c
}

func TestLongTexts(t *testing.T) { // P15.1
	for size := 15990; size <= 16000; size++ {
		isGood(t, ofSize(t, size))
	}
	for size := 16001; size <= 16020; size++ {
		c := ofSize(t, size)
		isBad(t, c, api.ErrLong)
		isRefused(t, plainText(c), api.ErrLong)
	}
	isBad(t, of(slices.Repeat([]api.Line{line("note", strings.Repeat("a", 4000))}, 100)...), api.ErrLong)
	// What may not be is told ahead of what is too long.
	full := ofSize(t, 16001)
	full.Version = "2.1"
	isBad(t, full, api.ErrArg)
	full = ofSize(t, 16001)
	full.Lines = append(full.Lines, line("", ""))
	isBad(t, full, api.ErrArg)
	for _, s := range []string{"", "x", "BEGIN:VCARD\r\n", "\n", "END:VCARD\r\n", "\r\n ", "\x00", plainText(of())} {
		isRefused(t, s+strings.Repeat("\n", 16000-len(s)), api.ErrVcard)
		isRefused(t, s+strings.Repeat("\n", 16001-len(s)), api.ErrLong)
	}
}

func TestTextsInOtherFormsMayBeShorter(t *testing.T) { // P15.1
	// The text is a card's, and is not too long, while the text that the card is told as would be.
	s := "BEGIN:VCARD\nVERSION:4.0\n" + strings.Repeat("NOTE:"+strings.Repeat("n", 3900)+"\n", 4) + "END:VCARD\n"
	is(t, "a text of at most 16000 bytes", len(s) <= 16000, true)
	c, no := vcard.Parse(s)
	is(t, "Parse", no, api.OK)
	isCard(t, "Parse", c, of(slices.Repeat([]api.Line{line("note", strings.Repeat("n", 3900))}, 4)...))
	isBad(t, c, api.ErrLong)
	// The other way round, too: what is folded more often is longer than may be.
	c = of(line("note", strings.Repeat("n", 4000)))
	isGood(t, c)
	isRefused(t, framed("NOTE:"+strings.Repeat("n\r\n ", 4000)), api.ErrLong)
	isText(t, framed("NOTE:"+strings.Repeat("n\n ", 4000)), c)
}

func TestEmptyAndNilAreTheSame(t *testing.T) { // P15.1, P15.2
	isBad(t, api.Vcard{}, api.ErrArg)
	isGood(t, api.Vcard{Version: "4.0", Lines: []api.Line{}})
	isGood(t, of(api.Line{Name: "fn", Params: []api.Param{}}))
	is(t, "Same", vcard.Same(of(), api.Vcard{Version: "4.0", Lines: []api.Line{}}), true)
	is(t, "Same", vcard.Same(of(line("fn", "")), of(api.Line{Name: "fn", Params: []api.Param{}})), true)
	is(t, "Same of none", vcard.Same(api.Vcard{}, api.Vcard{}), true)
}

func TestOtherFormsOfATextThatIsACards(t *testing.T) { // P15.1
	want := api.Vcard{Version: "3.0", Lines: []api.Line{line("fn", "Ann B"), {Group: "i", Name: "tel", Params: []api.Param{param("type", "home")}, Value: "12"}}}
	for _, s := range []string{
		"BEGIN:VCARD\r\nVERSION:3.0\r\nFN:Ann B\r\nI.TEL;TYPE=home:12\r\nEND:VCARD\r\n",
		"begin:vcard\r\nversion:3.0\r\nfn:Ann B\r\ni.tel;type=home:12\r\nend:vcard\r\n",
		"bEGIN:vcARD\r\nVerSioN:3.0\r\nfN:Ann B\r\nI.tEl;TYpe=home:12\r\nEnd:vCaRd\r\n",
		"BEGIN:VCARD\nVERSION:3.0\nFN:Ann B\nI.TEL;TYPE=home:12\nEND:VCARD\n",
		"BEGIN:VCARD\r\nVERSION:3.0\nFN:Ann B\r\nI.TEL;TYPE=home:12\nEND:VCARD\n",
		"BEGIN:VCARD\nFN:Ann B\nVERSION:3.0\nI.TEL;TYPE=home:12\nEND:VCARD\n",
		"BEGIN:VCARD\nFN:Ann B\nI.TEL;TYPE=home:12\nVERSION:3.0\nEND:VCARD\n",
		"BEGIN:VCARD\nVERSION:3.0\nFN:Ann B\nI.TEL;TYPE=\"home\":12\nEND:VCARD\n",
		"BEGIN:VCARD\nVERSION:3.0\nFN:Ann \n B\nI.TEL;TYPE=home:1\n\t2\nEND:VCARD\n",
		"BEGIN:VCARD\nVERSION:3.0\nFN:Ann\r\n  B\nI.TEL;TYPE=home:1\r\n\t2\nEND:VCARD\n",
		"BEGIN:VCARD\nVERSION:3.0\nFN:Ann B\n \nI\n .\n T\n EL;TY\n PE\n =h\n ome\n :\n 12\n \r\n \nEND:VCARD\n",
		"BE\n GIN:\n VCARD\nVERSION\n :3\n .0\nFN:Ann B\nI.TEL;TYPE=\n \"home\n \":12\nEN\n D:VCARD\n \n",
		"\n BEGIN:VCARD\nVERSION:3.0\n\t\nF\n N\n :Ann B\nI.TEL;TYPE=home:12\n\r\n END:VCARD\r\n\t\n",
	} {
		isText(t, s, want)
		isTold(t, s)
	}
}

func TestTextsThatAreNoCards(t *testing.T) { // P15.1
	for _, s := range []string{
		"", "\n", "BEGIN:VCARD", "BEGIN:VCARD\n", "END:VCARD\n", "VERSION:3.0\n", "FN:Ann\n",
		"BEGIN:VCARD\nEND:VCARD\n", "BEGIN:VCARD\nFN:Ann\nEND:VCARD\n", "END:VCARD\nVERSION:3.0\nBEGIN:VCARD\n",
		"BEGIN:VCARD\nVERSION:3.0\nEND:VCARD", "BEGIN:VCARD\nVERSION:3.0\nEND:VCARD\r", "BEGIN:VCARD\nVERSION:3.0\nEND:VCARD\n ", "BEGIN:VCARD\nVERSION:3.0\nEND:VCARD\r\n\t",
		"BEGIN:VCARD\nVERSION:3.0\n", "VERSION:3.0\nEND:VCARD\n", "BEGIN:VCARD\nVERSION:3.0\nFN:Ann\n", "VERSION:3.0\nFN:Ann\nEND:VCARD\n",
		"VERSION:3.0\nBEGIN:VCARD\nEND:VCARD\n", "BEGIN:VCARD\nEND:VCARD\nVERSION:3.0\n",
		"\nBEGIN:VCARD\nVERSION:3.0\nEND:VCARD\n", "BEGIN:VCARD\nVERSION:3.0\nEND:VCARD\n\n", "BEGIN:VCARD\n\nVERSION:3.0\nEND:VCARD\n", "BEGIN:VCARD\nVERSION:3.0\n\nEND:VCARD\n",
		"BEGIN:VCARD\nVERSION:3.0\nEND:VCARD\nx", "BEGIN:VCARD\nVERSION:3.0\nEND:VCARD\nFN:Ann\n", "BEGIN:VCARD\nVERSION:3.0\nEND:VCARD\nBEGIN:VCARD\nVERSION:3.0\nEND:VCARD\n",
		"BEGIN:VCARD\nVERSION:3.0\nEND:VCARD\nEND:VCARD\n", "BEGIN:VCARD\nBEGIN:VCARD\nVERSION:3.0\nEND:VCARD\n",
		"BEGIN:VCARD\nVERSION:3.0\nVERSION:3.0\nEND:VCARD\n", "BEGIN:VCARD\nVERSION:3.0\nVERSION:4.0\nEND:VCARD\n", "BEGIN:VCARD\nVERSION:\nVERSION:4.0\nEND:VCARD\n", "BEGIN:VCARD\nVERSION:4.0\nVERSION:\nEND:VCARD\n",
		"BEGIN:VCARD\nVERSION: 3.0\nEND:VCARD\n", "BEGIN:VCARD\nVERSION:3.0 \nEND:VCARD\n", "BEGIN:VCARD\nVERSION;A=B:3.0\nEND:VCARD\n", "BEGIN:VCARD\nG.VERSION:3.0\nEND:VCARD\n", "BEGIN:VCARD\nVERSION=3.0\nEND:VCARD\n", "BEGIN:VCARD\nVERSION\nEND:VCARD\n",
		"BEGIN:VCARD \nVERSION:3.0\nEND:VCARD\n", "BEGIN: VCARD\nVERSION:3.0\nEND:VCARD\n", "BEGIN;A=B:VCARD\nVERSION:3.0\nEND:VCARD\n", "G.BEGIN:VCARD\nVERSION:3.0\nEND:VCARD\n", "BEGIN:VCALENDAR\nVERSION:3.0\nEND:VCARD\n", "BEGIN:\nVERSION:3.0\nEND:VCARD\n",
		"BEGIN:VCARD\nVERSION:3.0\nEND:VCARD \n", "BEGIN:VCARD\nVERSION:3.0\nEND:\n", "BEGIN:VCARD\nVERSION:3.0\nG.END:VCARD\n", "BEGIN:VCARD\nVERSION:3.0\nEND;A=B:VCARD\n", "BEGIN:VCARD\nVERSION:3.0\nEND:VCARDS\n",
		"BEGIN:VCARD\rVERSION:3.0\rEND:VCARD\r", "BEGIN:VCARD\r\r\nVERSION:3.0\nEND:VCARD\n", "BEGIN:VCARD\n\rVERSION:3.0\nEND:VCARD\n", "BEGIN:VCARD\nVERSION:3.0\r\r\nEND:VCARD\n",
		" BEGIN:VCARD\nVERSION:3.0\nEND:VCARD\n", "BEGIN:VCARD\nVER\u017fION:3.0\nEND:VCARD\n", "\ufeffBEGIN:VCARD\nVERSION:3.0\nEND:VCARD\n",
	} {
		isRefused(t, s, api.ErrVcard)
		isTold(t, s)
	}
	for _, s := range []string{
		"", ":", ".:", ";:", "FN", "FN.", "FN;", "FN;A", "FN;A:1", "FN;=:1", "FN;A=", "FN;A=b", "FN;A=b;", "FN;A=b;:1", "FN;;A=b:1", "FN;A==b", ":1", ".FN:1", "G..FN:1", "G.H.FN:1", "G.:1", "FN :1", " FN:1", "FN; A=b:1", "FN;A =b:1", "FN;A=b,c:1",
		"FN;A=\":1", "FN;A=\"b:1", "FN;A=b\":1", "FN;A=\"b\"c:1", "FN;A=b\"c\":1", "FN;A=\"\"\":1", "FN;A=\"b\",\"c\":1", "FN;A=\"b\"", "FN;A=\t:1", "FN;A=\"\t\":1", "FN:\r", "FN:\x00", "FN:\x1f", "F\xc4N:1", "F_N:1", "1FN:1", "-FN:1",
	} {
		isRefused(t, framed(s), api.ErrVcard)
		isTold(t, framed(s))
	}
}

// textsOf goes over all texts of so many pieces out of some.
func textsOf(pieces []string, size int, see func(string)) {
	if size == 0 {
		see("")
		return
	}
	for _, piece := range pieces {
		textsOf(pieces, size-1, func(s string) { see(piece + s) })
	}
}

// bytesOf tells each byte of a text as a text.
func bytesOf(s string) []string {
	var l []string
	for i := range len(s) {
		l = append(l, s[i:i+1])
	}
	return l
}

func TestAllTextsOfFewPieces(t *testing.T) { // P15.1
	for size := range 7 {
		textsOf([]string{"BEGIN:VCARD\n", "VERSION:3.0\n", "END:VCARD\r\n", "a:b\n", " ", "\n"}, size, func(s string) { isTold(t, s) })
	}
	for size := range 5 {
		textsOf([]string{"begin", "Version", "END", ":", "Vcard", "4.0", "\n", "\r", "\t"}, size, func(s string) {
			isTold(t, s)
			isTold(t, "BEGIN:VCARD\n"+s+"\nEND:VCARD\n")
			isTold(t, "BEGIN:VCARD\nVERSION:3.0\n"+s+"\n")
			isTold(t, s+"\nVERSION:3.0\nEND:VCARD\n")
		})
		textsOf(bytesOf("aA1-.;=:\", \t\r\n"), size, func(s string) { isTold(t, framed(s)) })
	}
	for size := range 6 {
		textsOf(bytesOf("a;=:\".,"), size, func(s string) {
			isTold(t, framed(s+":b"))
			isTold(t, framed("a;a="+s+":"))
		})
		textsOf(bytesOf("a\r\n \t"), size, func(s string) {
			isTold(t, framed("a:"+s))
			isTold(t, framed("a"+s+":"))
			isTold(t, s+framed("a:"))
			isTold(t, framed("a:")+s)
			isTold(t, "BEGIN:VCARD\nVERSION:3.0\nEND:VCARD"+s)
		})
	}
}

// falls tells one of some, as it falls.
func falls[T any](r *rand.Rand, some ...T) T { return some[r.Intn(len(some))] }

// randomBytes tells so many out of some.
func randomBytes(r *rand.Rand, some string, size int) string {
	b := make([]byte, size)
	for i := range b {
		b[i] = some[r.Intn(len(some))]
	}
	return string(b)
}

// bytesFrom tells all bytes from 32 on but some.
func bytesFrom(but string) string {
	var b []byte
	for n := 32; n < 256; n++ {
		if strings.IndexByte(but, byte(n)) < 0 {
			b = append(b, byte(n))
		}
	}
	return string(b)
}

// randomName tells a name that may be, in whatever letters.
func randomName(r *rand.Rand) string {
	return randomBytes(r, "abzABZ", 1) + randomBytes(r, "abzABZ09-", falls(r, 0, 1, 3, 10, 63))
}

// randomCard tells a card that may be.
func randomCard(r *rand.Rand) api.Vcard {
	c := api.Vcard{Version: falls(r, "3.0", "4.0")}
	for range falls(r, 0, 1, 2, 5) {
		l := api.Line{Name: randomName(r), Value: randomBytes(r, bytesFrom("")+"\t", falls(r, 0, 1, 10, 60, 75, 300))}
		if r.Intn(2) == 0 {
			l.Value = randomBytes(r, "a \t:;,\\n\"", falls(r, 0, 1, 10, 74, 150))
		}
		if r.Intn(3) == 0 {
			l.Group = randomName(r)
		}
		for range falls(r, 0, 0, 1, 2, 8) {
			l.Params = append(l.Params, param(randomName(r), randomBytes(r, falls(r, "ab:;,= ", "ab= ", bytesFrom(`"`)), falls(r, 0, 1, 5, 20, 100))))
		}
		c.Lines = append(c.Lines, l)
	}
	return c
}

// otherLetters tells a text in whatever letters.
func otherLetters(r *rand.Rand, s string) string {
	var l []string
	for _, c := range bytesOf(s) {
		l = append(l, falls(r, small(c), great(c)))
	}
	return strings.Join(l, "")
}

// otherFolds tells a line's text with folds and an end as they fall.
func otherFolds(r *rand.Rand, s string) string {
	var told strings.Builder
	often := falls(r, 2, 10, 1000)
	for _, c := range append(bytesOf(s), "") {
		for r.Intn(often) == 0 {
			told.WriteString(falls(r, "\r\n ", "\n ", "\n\t", "\r\n\t"))
		}
		told.WriteString(c)
	}
	return told.String() + falls(r, "\r\n", "\n")
}

// otherLine tells a line's text in another form as it falls.
func otherLine(r *rand.Rand, l api.Line) string {
	s := ""
	if l.Group != "" {
		s = otherLetters(r, l.Group) + "."
	}
	s += otherLetters(r, l.Name)
	for _, p := range l.Params {
		around := falls(r, "", `"`)
		if strings.ContainsAny(p.Value, ":;,") {
			around = `"`
		}
		s += ";" + otherLetters(r, p.Name) + "=" + around + p.Value + around
	}
	return s + ":" + l.Value
}

// otherForm tells a text of the same card in another form as it falls.
func otherForm(r *rand.Rand, c api.Vcard) string {
	var lines []string
	for _, l := range c.Lines {
		lines = append(lines, otherLine(r, l))
	}
	lines = slices.Insert(lines, r.Intn(len(lines)+1), otherLetters(r, "version:")+c.Version)
	lines = append([]string{otherLetters(r, "begin:vcard")}, append(lines, otherLetters(r, "end:vcard"))...)
	var s strings.Builder
	for _, l := range lines {
		s.WriteString(otherFolds(r, l))
	}
	return s.String()
}

// changed tells a text with something more, less or other.
func changed(r *rand.Rand, s string) string {
	at := r.Intn(len(s) + 1)
	next := falls(r, "", "", "a", ":", ";", ".", "=", `"`, ",", "\r", "\n", " ", "\t", "\x00", "\xff", "END:VCARD\n", "VERSION:3.0\n", "a:b\n", "\n ", "\r\n")
	return s[:at] + next + s[min(len(s), at+r.Intn(3)):]
}

func TestThereAndBack(t *testing.T) { // P15.1, P15.3
	r := rand.New(rand.NewSource(15))
	for range 4000 {
		c := randomCard(r)
		isGood(t, c)
		s, _ := vcard.Text(c)
		back, no := vcard.Parse(s)
		is(t, "Parse of Text", no, api.OK)
		is(t, "Parse of Text is the card", vcard.Same(back, c), true)
		s = otherForm(r, c)
		if len(s) <= 16000 {
			isText(t, s, withSmallNames(c))
		}
		isTold(t, s)
		for range 4 {
			s = changed(r, s)
			isTold(t, s)
		}
	}
}

func TestUnlikeCardsHaveUnlikeTexts(t *testing.T) { // P15.3
	seen := map[string]api.Vcard{}
	for _, c := range cards() {
		s, no := vcard.Text(c)
		is(t, "Text", no, api.OK)
		if other, there := seen[s]; there {
			is(t, "Same of two with the same text", vcard.Same(c, other), true)
		}
		seen[s] = c
	}
}

// cards tells cards of which many are nearly the same.
func cards() []api.Vcard {
	all := []api.Vcard{of(), {Version: "3.0"}}
	var lines []api.Line
	for _, value := range []string{"", "a", "A", "a ", ":a", "b\ta"} {
		for _, name := range []string{"fn", "FN", "fm", "g"} {
			for _, group := range []string{"", "g", "G", "h", "fn"} {
				for _, params := range [][]api.Param{nil, {param("a", "")}, {param("a", "b")}, {param("A", "b")}, {param("a", "B")}, {param("a", "b"), param("a", "b")}, {param("a", "b;a=b")}, {param("b", "a"), param("a", "b")}, {param("a", "b"), param("b", "a")}} {
					lines = append(lines, api.Line{Group: group, Name: name, Params: params, Value: value})
				}
			}
		}
	}
	for _, l := range lines {
		all = append(all, of(l))
	}
	for i := range 40 {
		l, m := lines[i*17%len(lines)], lines[i*29%len(lines)]
		all = append(all, of(l, m), of(m, l), api.Vcard{Version: "3.0", Lines: []api.Line{l}}, of(l, l), of(l, m, l))
	}
	return all
}

func TestSame(t *testing.T) { // P15.2
	l := cards()
	var told []string
	for _, c := range l {
		told = append(told, all(withSmallNames(c)))
	}
	for i, a := range l {
		for j, b := range l {
			want := told[i] == told[j]
			if got := vcard.Same(a, b); got != want {
				t.Errorf("Same of %s and %s, %d and %d: %v, want %v", all(a), all(b), i, j, got, want)
			}
		}
	}
}

func TestSameOfCardsThatMayNotBe(t *testing.T) { // P15.2
	bad := []api.Vcard{
		{}, {Version: "x"}, {Version: "X"}, of(line("", "")), of(line("1", "")), of(line("begin", "")), of(line("BEGIN", "")), of(line("Ä", "")), of(line("ä", "")), of(line("\xc1", "")), of(line("\xe1", "")),
		of(line("k", "")), of(line("\u212a", "")), of(line("@", "")), of(line("`", "")), of(line("[", "")), of(line("{", "")), of(line("fn", "\n")), of(line("fn", "\r\n")), of(line("fn", "", param("", ""))), of(line("fn", "", param("@", ""))), of(line("fn", "", param("`", ""))),
		of(line("fn", "", param("a", "\""))), of(make([]api.Line, 101)...), of(make([]api.Line, 102)...), of(line("a", strings.Repeat("x", 5000))), of(line("a", strings.Repeat("x", 5001))),
	}
	for _, a := range bad {
		for _, b := range bad {
			same := all(withSmallNames(a)) == all(withSmallNames(b))
			is(t, fmt.Sprintf("Same of %s and %s", short(all(a)), short(all(b))), vcard.Same(a, b), same)
		}
	}
}

func TestFold(t *testing.T) { // P15.2
	a, b := strings.Repeat("a", 75), strings.Repeat("b", 74)
	for s, want := range map[string]string{
		"":                "",
		"x":               "x",
		a:                 a,
		a + "x":           a + "\r\n x",
		a + b:             a + "\r\n " + b,
		a + b + "x":       a + "\r\n " + b + "\r\n x",
		a + b + b:         a + "\r\n " + b + "\r\n " + b,
		a + b + b + "x":   a + "\r\n " + b + "\r\n " + b + "\r\n x",
		a + " x":          a + "\r\n  x",
		a + "\r\n x":      a + "\r\n \r\n x",
		a[1:] + "\r\n":    a[1:] + "\r\r\n \n",
		a + "\n":          a + "\r\n \n",
		a[1:] + "\u00e4x": a[1:] + "\xc3\r\n \xa4x",
	} {
		is(t, "Fold", vcard.Fold(s), want)
		is(t, "Fold", vcard.Fold(s), plainFold(s))
	}
	r := rand.New(rand.NewSource(1))
	for size := range 1000 {
		for _, s := range []string{strings.Repeat("x", size), randomBytes(r, bytesFrom("")+"\r\n\t\x00", size), randomBytes(r, "\r\n a", size)} {
			is(t, "Fold of "+short(s), vcard.Fold(s), plainFold(s))
		}
	}
}

// isUnfolded fails where Unfold does not answer of a text as the forms do.
func isUnfolded(t *testing.T, s string) {
	t.Helper()
	lines, rest := plainUnfold(s)
	if rest != "" {
		lines = append(slices.Clone(lines), rest)
	}
	areTexts(t, "Unfold of "+short(s), vcard.Unfold(s), lines)
}

func TestUnfold(t *testing.T) { // P15.2
	for s, want := range map[string][]string{
		"":                        nil,
		"a":                       {"a"},
		"a\n":                     {"a"},
		"a\r\n":                   {"a"},
		"a\nb":                    {"a", "b"},
		"a\r\nb\n":                {"a", "b"},
		"\n":                      {""},
		"\r\n":                    {""},
		"\n\n":                    {"", ""},
		"a\n\nb":                  {"a", "", "b"},
		"\r":                      {"\r"},
		"a\rb\r":                  {"a\rb\r"},
		"a\r\r\nb":                {"a\r", "b"},
		"a\n\rb":                  {"a", "\rb"},
		"a\n b":                   {"ab"},
		"a\r\n b":                 {"ab"},
		"a\n\tb":                  {"ab"},
		"a\r\n\tb\r\n":            {"ab"},
		"a\n  b":                  {"a b"},
		"a\n \tb":                 {"a\tb"},
		"a \nb":                   {"a ", "b"},
		"a\n \n b\nc":             {"ab", "c"},
		"a\n\n b":                 {"a", "b"},
		"a\n\n  b":                {"a", " b"},
		"a\n ":                    {"a"},
		"\n ":                     nil,
		"\r\n\t":                  nil,
		"\n a":                    {"a"},
		" a":                      {" a"},
		"\ta\n":                   {"\ta"},
		"  a\n b":                 {"  ab"},
		"a\r \nb":                 {"a\r ", "b"},
		"a\r\n \nb":               {"a", "b"},
		"a\r\r\n \nb":             {"a", "b"}, // folds are let go ahead of all else
		"a\r\n \r\n b":            {"ab"},
		"a\n\x0bb":                {"a", "\x0bb"},
		"a\n\u00a0b":              {"a", "\u00a0b"},
		"\xff\n \x00\n\xc3\n\xa4": {"\xff\x00", "\xc3", "\xa4"},
	} {
		areTexts(t, "Unfold of "+short(s), vcard.Unfold(s), want)
		isUnfolded(t, s)
	}
	for size := range 8 {
		textsOf(bytesOf("a\r\n \t"), size, func(s string) { isUnfolded(t, s) })
	}
	r := rand.New(rand.NewSource(2))
	for range 5000 {
		isUnfolded(t, randomBytes(r, "abc\r\n\n \t:\xff", r.Intn(60)))
	}
}

func TestUnfoldOfFold(t *testing.T) { // P15.3
	r := rand.New(rand.NewSource(3))
	for size := 1; size < 800; size++ {
		for _, bytes := range []string{"x", " x", "\t x", bytesFrom(""), bytesFrom("") + "\t\x00\x01\x0b\x0c", " \t"} {
			s := randomBytes(r, "x:\xff\x00", 1) + randomBytes(r, bytes, size-1)
			areTexts(t, "Unfold of Fold of "+short(s), vcard.Unfold(vcard.Fold(s)), []string{s})
			areTexts(t, "Unfold of Fold of two", vcard.Unfold(vcard.Fold(s)+"\r\n"+vcard.Fold(s)+"\n"), []string{s, s})
		}
	}
}

// plainEscape tells a text escaped, as the chapter's 'Words' say.
func plainEscape(s string) string {
	return strings.NewReplacer(`\`, `\\`, `,`, `\,`, `;`, `\;`, "\n", `\n`).Replace(s)
}

// plainUnescape tells a text unescaped, by a form.
func plainUnescape(s string) string {
	return pairForm.ReplaceAllStringFunc(s, func(pair string) string {
		if pair == `\n` || pair == `\N` {
			return "\n"
		}
		return pair[1:]
	})
}

// plainParts tells the parts of a Value: what stands between those that have an even number of backslashes just ahead.
func plainParts(s string, between byte) []string {
	var parts []string
	from, slashes := 0, 0
	for i := range len(s) {
		if s[i] == between && slashes%2 == 0 {
			parts = append(parts, s[from:i])
			from = i + 1
		}
		slashes++
		if s[i] != '\\' {
			slashes = 0
		}
	}
	return append(parts, s[from:])
}

// isSplit fails where Escape, Unescape and Parts do not answer of a text as they are told plainly.
func isSplit(t *testing.T, s string) {
	t.Helper()
	is(t, "Escape of "+short(s), vcard.Escape(s), plainEscape(s))
	is(t, "Unescape of "+short(s), vcard.Unescape(s), plainUnescape(s))
	is(t, "Unescape of Escape of "+short(s), vcard.Unescape(vcard.Escape(s)), s)
	areTexts(t, "Parts between semicolons of "+short(s), vcard.Parts(s, false), plainParts(s, ';'))
	areTexts(t, "Parts between commas of "+short(s), vcard.Parts(s, true), plainParts(s, ','))
}

func TestEscapeAndUnescape(t *testing.T) { // P15.2
	for s, want := range map[string]string{
		"": "", "a": "a", "a,b": `a\,b`, ",;": `\,\;`, `\`: `\\`, `\n`: `\\n`, "\n": `\n`, "\r\n\t": "\r" + `\n` + "\t", ":\"'=": ":\"'=", "\xff,\x00": "\xff\\,\x00", "ä;": `ä\;`,
	} {
		is(t, "Escape", vcard.Escape(s), want)
	}
	for s, want := range map[string]string{
		"": "", "a": "a", `\n`: "\n", `\N`: "\n", `\\n`: `\n`, `\\\n`: "\\\n", `\`: `\`, `\\`: `\`, `\\\`: `\\`, `a\`: `a\`, `\a\,\;\:`: "a,;:", `n\r\t`: "nrt", "\\\n": "\n", "\\\xff\\\x00": "\xff\x00", `\ä`: "ä", ",;": ",;",
	} {
		is(t, "Unescape", vcard.Unescape(s), want)
	}
	for n := range 256 {
		b := string([]byte{byte(n)})
		for _, s := range []string{b, b + b, "\\" + b, "\\\\" + b, b + "\\", "a" + b + "b", "a\\" + b + "\\" + b, "," + b + ";"} {
			isSplit(t, s)
		}
	}
}

func TestParts(t *testing.T) { // P15.2
	for _, c := range []struct {
		s     string
		comma bool
		want  []string
	}{
		{"", false, []string{""}}, {"", true, []string{""}}, {"a", false, []string{"a"}}, {";", false, []string{"", ""}}, {",", true, []string{"", ""}}, {";", true, []string{";"}}, {",", false, []string{","}},
		{"B;Ann;;;", false, []string{"B", "Ann", "", "", ""}}, {"a,b;c", true, []string{"a", "b;c"}}, {"a,b;c", false, []string{"a,b", "c"}},
		{`a\,b,c`, true, []string{`a\,b`, "c"}}, {`a\\;b`, false, []string{`a\\`, "b"}}, {`a\\\;b`, false, []string{`a\\\;b`}}, {`a\`, false, []string{`a\`}}, {`a;\`, false, []string{"a", `\`}}, {`\;`, false, []string{`\;`}}, {`\;;`, false, []string{`\;`, ""}}, {`\n;\N`, false, []string{`\n`, `\N`}}, {"\\\n;\xff", false, []string{"\\\n", "\xff"}},
	} {
		areTexts(t, "Parts of "+short(c.s), vcard.Parts(c.s, c.comma), c.want)
	}
}

func TestAllShortTextsAreSplit(t *testing.T) { // P15.2, P15.3
	for size := range 8 {
		textsOf(bytesOf("\\;,nN"), size, func(s string) { isSplit(t, s) })
	}
	for size := range 6 {
		textsOf(bytesOf("a\\;,n\n\x00\xff"), size, func(s string) { isSplit(t, s) })
	}
	r := rand.New(rand.NewSource(4))
	for range 2000 {
		isSplit(t, randomBytes(r, bytesFrom("")+"\r\n\t\x00\\\\\\\\;;;;,,,,nnNN", r.Intn(300)))
	}
}

func TestPartsOfEscapedTexts(t *testing.T) { // P15.3
	var texts []string
	for size := range 4 {
		textsOf(bytesOf("a\\;,n\n"), size, func(s string) { texts = append(texts, s) })
	}
	for _, a := range texts {
		for _, b := range texts {
			x, y := vcard.Escape(a), vcard.Escape(b)
			for comma, between := range map[bool]string{false: ";", true: ","} {
				parts := vcard.Parts(x+between+y, comma)
				areTexts(t, "Parts of two escaped texts", parts, []string{x, y})
				if len(parts) == 2 && (vcard.Unescape(parts[0]) != a || vcard.Unescape(parts[1]) != b) {
					t.Errorf("the parts of %q and %q, escaped, are %q", a, b, parts)
				}
			}
		}
	}
}

// withRoom tells a card with room behind its lists that is not nought.
func withRoom(c api.Vcard) api.Vcard {
	room := line("room", "behind", param("room", "behind"))
	lines := append(slices.Clone(c.Lines), room, room)[:len(c.Lines)]
	for i, l := range lines {
		lines[i].Params = append(slices.Clone(l.Params), param("room", "behind"), param("room", "behind"))[:len(l.Params)]
	}
	return api.Vcard{Version: c.Version, Lines: lines}
}

// withAllRoom tells all that is in a card and in the room behind its lists.
func withAllRoom(c api.Vcard) string {
	lines := slices.Clone(c.Lines[:cap(c.Lines)])
	for i, l := range lines {
		lines[i].Params = l.Params[:cap(l.Params)]
	}
	return all(api.Vcard{Version: c.Version, Lines: lines})
}

func TestNothingHandedInIsChanged(t *testing.T) { // P15.1, P15.2
	r := rand.New(rand.NewSource(5))
	for i := range 300 {
		c, other := withRoom(randomCard(r)), withRoom(randomCard(r))
		if i%3 == 0 && len(c.Lines) > 0 {
			c.Lines[0].Name = "1"
		}
		was, otherWas := withAllRoom(c), withAllRoom(other)
		vcard.Check(c)
		vcard.Text(c)
		vcard.Same(c, other)
		vcard.Same(c, c)
		is(t, "what was handed in", withAllRoom(c), was)
		is(t, "what was handed in", withAllRoom(other), otherWas)
	}
}

func TestAnswersAreNewMemory(t *testing.T) { // P15.1, P15.2
	c := of(line("a", "1", param("x", "y"), param("z", "")), line("b", "2", param("x", "y")), line("c", "3"))
	s := plainText(c)
	first, _ := vcard.Parse(s)
	second, _ := vcard.Parse(s)
	for i := range first.Lines {
		// Nor do two lists of one answer share any.
		params := first.Lines[i].Params
		for j := range params[:cap(params)] {
			params[:cap(params)][j] = param("scribbled", "over")
		}
		for j := i + 1; j < len(first.Lines); j++ {
			is(t, "another line of the answer", all(of(first.Lines[j])), all(of(c.Lines[j])))
		}
	}
	for i := range first.Lines[:cap(first.Lines)] {
		first.Lines[:cap(first.Lines)][i] = line("scribbled", "over")
	}
	isCard(t, "another answer", second, c)
	isText(t, s, c)
	for what, call := range map[string]func() []string{
		"Parts":  func() []string { return vcard.Parts("a;b;c", false) },
		"Unfold": func() []string { return vcard.Unfold("a\nb\nc") },
	} {
		one, other := call(), call()
		for i := range one[:cap(one)] {
			one[:cap(one)][i] = "scribbled over"
		}
		areTexts(t, what+": another answer", other, []string{"a", "b", "c"})
		areTexts(t, what+": once more", call(), []string{"a", "b", "c"})
	}
}

func TestVeryLongArguments(t *testing.T) { // P15.1, P15.2
	for _, c := range []string{"a", ";", ",", "\\", "\n", "\r", "\r\n", "\n ", "\r\n\t", "a:b\n", "\x00", "\xff", "BEGIN:VCARD\r\n", "\"", "a.", ";a=", "\\n"} {
		long := strings.Repeat(c, 1<<18)
		isRefused(t, long, api.ErrLong)
		isRefused(t, "BEGIN:VCARD\nVERSION:3.0\n"+long, api.ErrLong)
		isBad(t, of(line("a", long)), api.ErrArg)
		isBad(t, of(line(long, "a")), api.ErrArg)
		isBad(t, of(api.Line{Group: long, Name: "a"}), api.ErrArg)
		isBad(t, of(line("a", "b", param(long, ""))), api.ErrArg)
		isBad(t, of(line("a", "b", param("a", long))), api.ErrArg)
		isBad(t, api.Vcard{Version: long}, api.ErrArg)
		isSplit(t, long)
		isUnfolded(t, long)
		is(t, "Fold", vcard.Fold(long), plainFold(long))
		is(t, "Same", vcard.Same(of(line("a", long)), of(line("a", long+"x"))), false)
		// Just as long as may be.
		near := strings.Repeat(c, 16000/len(c))
		isTold(t, near)
		isTold(t, framed(near)[:16000])
		isTold(t, framed("A:"+near[:15000]))
		isTold(t, framed("A:"+near[:4000]))
		isTold(t, framed("A"+near[:15000]))
	}
}
