package dn_test

import (
	"encoding/hex"
	"fmt"
	"math/rand"
	"regexp"
	"slices"
	"strings"
	"testing"

	"cardcase/api"
	"cardcase/dn"
)

// is fails where an answer is another than the one that is asked for.
func is[T comparable](t *testing.T, what string, got, want T) {
	t.Helper()
	if got != want {
		t.Errorf("%s: %#v, want %#v", what, got, want)
	}
}

// isName fails where a name is another than the one that is asked for. Nil and empty are the same.
func isName(t *testing.T, what string, got, want api.Dn) {
	t.Helper()
	if !slices.Equal(got, want) {
		t.Errorf("%s: %q, want %q", what, got, want)
	}
}

// name makes a name of Types and Values, one behind the other.
func name(parts ...string) api.Dn {
	var d api.Dn
	for i := 0; i < len(parts); i += 2 {
		d = append(d, api.Rdn{Type: parts[i], Value: parts[i+1]})
	}
	return d
}

// longName makes a name of so many parts.
func longName(n int) api.Dn { return slices.Repeat(name("ou", "x"), n) }

// plainValue tells a Value as it stands in a text, as the chapter's 'Words' say it.
func plainValue(value string) string {
	var text strings.Builder
	for i := range len(value) {
		c := value[i : i+1]
		isEnd := c == " " && i == len(value)-1
		isBegin := (c == " " || c == "#") && i == 0
		switch {
		case c[0] < 32 || c[0] > 126:
			fmt.Fprintf(&text, "\\%02x", c[0])
		case strings.Contains(",+\"\\<>;=", c) || isBegin || isEnd:
			text.WriteString("\\" + c)
		default:
			text.WriteString(c)
		}
	}
	return text.String()
}

// plainText tells a name's text, as the chapter's 'Words' say it.
func plainText(d api.Dn) string {
	var parts []string
	for _, r := range d {
		parts = append(parts, r.Type+"="+plainValue(r.Value))
	}
	return strings.Join(parts, ",")
}

// What a text is made of, as the chapter's 'Words' say it.
const (
	told     = `\\[0-9a-fA-F]{2}|\\[,+"\\<>;=# ]`
	inside   = `(?:` + told + `|[ !#$%&'()*\-./0-9:?@A-Z\[\]^_` + "`" + `a-z{|}~])`
	atBegin  = `(?:` + told + `|[!$%&'()*\-./0-9:?@A-Z\[\]^_` + "`" + `a-z{|}~])`
	atEnd    = `(?:` + told + `|[!#$%&'()*\-./0-9:?@A-Z\[\]^_` + "`" + `a-z{|}~])`
	partText = `([A-Za-z][A-Za-z0-9-]{0,63})=(` + atBegin + `(?:` + inside + `*` + atEnd + `)?)`
)

var (
	wholeForm = regexp.MustCompile(`\A(?:` + partText + `(?:,` + partText + `)*)?\z`)
	partForm  = regexp.MustCompile(partText)
	toldForm  = regexp.MustCompile(told)
)

// plainParse tells the name of a text by these forms, and whether it is one's.
func plainParse(s string) (api.Dn, bool) {
	if !wholeForm.MatchString(s) {
		return nil, false
	}
	var d api.Dn
	for _, part := range partForm.FindAllStringSubmatch(s, -1) {
		value := toldForm.ReplaceAllStringFunc(part[2], func(c string) string {
			b, err := hex.DecodeString(c[1:])
			if err != nil {
				return c[1:]
			}
			return string(b)
		})
		d = append(d, api.Rdn{Type: strings.ToLower(part[1]), Value: value})
	}
	for _, r := range d {
		if len(r.Value) > 200 {
			return nil, false
		}
	}
	return d, len(d) <= 16
}

// isTold fails where Parse does not answer of a text as the forms do.
func isTold(t *testing.T, s string) {
	t.Helper()
	want, may := plainParse(s)
	if may {
		isText(t, s, want)
		return
	}
	isNoText(t, s)
}

// isText fails where a text is not that name's.
func isText(t *testing.T, s string, want api.Dn) {
	t.Helper()
	d, no := dn.Parse(s)
	is(t, "Parse of "+short(s), no, api.OK)
	isName(t, "Parse of "+short(s), d, want)
}

// isNoText fails where a text is taken for a name's.
func isNoText(t *testing.T, s string) {
	t.Helper()
	d, no := dn.Parse(s)
	is(t, "Parse of "+short(s), no, api.ErrDn)
	isName(t, "Parse of "+short(s), d, nil)
}

// short tells a text in quotes, or how it begins.
func short(s string) string {
	if len(s) > 100 {
		return fmt.Sprintf("%q .. (%d bytes)", s[:100], len(s))
	}
	return fmt.Sprintf("%q", s)
}

// isGood fails where a name that may be is not taken as such, or is not told as the Words say.
func isGood(t *testing.T, d api.Dn) {
	t.Helper()
	what := short(plainText(d))
	is(t, "Check of "+what, dn.Check(d), api.OK)
	s, no := dn.Text(d)
	is(t, "Text of "+what, no, api.OK)
	is(t, "Text of "+what, s, plainText(d))
	isText(t, s, d)
}

// isBad fails where a name that may not be is taken for one, by whichever call.
func isBad(t *testing.T, d api.Dn) {
	t.Helper()
	what := short(plainText(d))
	is(t, "Check of "+what, dn.Check(d), api.ErrArg)
	s, no := dn.Text(d)
	is(t, "Text of "+what, no, api.ErrArg)
	is(t, "Text of "+what, s, "")
	s, no = dn.Key(d)
	is(t, "Key of "+what, no, api.ErrArg)
	is(t, "Key of "+what, s, "")
	up, there := dn.Up(d)
	is(t, "Up of "+what, there, false)
	isName(t, "Up of "+what, up, nil)
	is(t, "Alike of "+what+" and itself", dn.Alike(d, d), false)
	isUnlike(t, d, nil)
	isUnlike(t, d, name("ou", "x"))
	under, no := dn.Under(api.Rdn{Type: "cn", Value: "a"}, d)
	is(t, "Under of "+what, no, api.ErrArg)
	isName(t, "Under of "+what, under, nil)
}

// isUnlike fails where two names are alike, or one is below the other.
func isUnlike(t *testing.T, a, b api.Dn) {
	t.Helper()
	what := short(plainText(a)) + " and " + short(plainText(b))
	is(t, "Alike of "+what, dn.Alike(a, b), false)
	is(t, "Alike of "+what+", turned", dn.Alike(b, a), false)
	is(t, "Below of "+what, dn.Below(a, b), false)
	is(t, "Below of "+what+", turned", dn.Below(b, a), false)
}

// badNames tells one of each kind of names that may not be.
func badNames() []api.Dn {
	bad := []api.Dn{longName(17), longName(18), longName(100000)}
	for _, r := range badParts() {
		bad = append(bad, api.Dn{r}, api.Dn{r, {Type: "ou", Value: "x"}}, api.Dn{{Type: "ou", Value: "x"}, r},
			append(longName(15), r), api.Dn{r, r})
	}
	return bad
}

// badParts tells one of each kind of parts that may not be.
func badParts() []api.Rdn {
	bad := []api.Rdn{
		{},
		{Type: "cn"},
		{Type: "cn", Value: strings.Repeat("v", 201)},
		{Type: "cn", Value: strings.Repeat("\xff", 100000)},
		{Value: "a"},
	}
	for _, kind := range append(badTypes(), "Cn", "cN", "CN", "cN1-", "abcdefghijklmnopqrstuvwxyZ", "x-A") {
		bad = append(bad, api.Rdn{Type: kind, Value: "a"})
	}
	return bad
}

// badTypes tells texts that are no names, in whatever letters.
func badTypes() []string {
	bad := []string{
		"1", "1a", "9cn", "-", "-a", "--", ".", "2.5.4.3", "a.b", "a_b", "a b", " a", "a ", "a:", "a/b", "a@", "a[", "a`", "a{", "@", "[", "`", "{",
		"\x00", "a\x00", "\xff", "a\xff", "ä", "aä", "\xc3", "\u212a", "a\u017f", "a\n", "\ta", "a\x7f", "*", "a*", "#a", "a\\", "\\a", "\\61",
	}
	return append(bad, strings.Repeat("a", 65), strings.Repeat("a", 100000))
}

func TestNamesThatMayBe(t *testing.T) { // P6.1
	isGood(t, nil)
	isGood(t, api.Dn{})
	isGood(t, name("cn", "Ann, B", "ou", "people"))
	isGood(t, name("a", "b"))
	isGood(t, name("z9-", "Z", "a--1", "\x00\xff"))
	isGood(t, name("cn", "a", "cn", "a", "cn", "a"))
	isGood(t, name(strings.Repeat("a", 64), strings.Repeat(",", 200)))
	isGood(t, name("q"+strings.Repeat("-", 63), strings.Repeat("\x80", 200)))
	isGood(t, name("cn", strings.Repeat("v", 199), "cn", strings.Repeat(" ", 200)))
	for n := range 17 {
		isGood(t, longName(n))
	}
	isGood(t, slices.Repeat(name(strings.Repeat("a", 64), strings.Repeat("\xff", 200)), 16))
}

func TestNamesThatMayNotBe(t *testing.T) { // P6.1, P6.2
	for _, d := range badNames() {
		isBad(t, d)
	}
}

func TestEveryByteOfAType(t *testing.T) { // P6.1
	for n := range 256 {
		c := string([]byte{byte(n)})
		isLetter := n >= 'a' && n <= 'z'
		mayFollow := isLetter || n >= '0' && n <= '9' || n == '-'
		for kind, may := range map[string]bool{c: isLetter, c + "x": isLetter, "x" + c: mayFollow, "x" + c + "y": mayFollow} {
			if may {
				isGood(t, name(kind, "v"))
			} else {
				isBad(t, name(kind, "v"))
			}
			isTold(t, kind+"=v")
			isTold(t, "ou=x,"+kind+"=v")
		}
	}
}

func TestEveryByteOfAValue(t *testing.T) { // P6.1
	for n := range 256 {
		c := string([]byte{byte(n)})
		for _, value := range []string{c, c + c, c + c + c, "a" + c, c + "a", "a" + c + "b", " " + c, c + " ", "#" + c, c + "#", "\\" + c, "," + c} {
			isGood(t, name("cn", value))
			isGood(t, name("cn", value, "ou", value))
			isTold(t, "cn="+value)
			isTold(t, "cn="+value+",ou=x")
			isTold(t, "ou=x,cn="+value)
		}
		for _, told := range []string{"\\" + c, fmt.Sprintf("\\%02x", n), fmt.Sprintf("\\%02X", n), "\\0" + c, "\\" + c + "0", "\\a" + c, "\\" + c + "F", "\\ " + c, "\\" + c + "="} {
			isTold(t, "cn="+told)
			isTold(t, "cn=a"+told)
			isTold(t, "cn="+told+"b")
			isTold(t, "cn=a"+told+"b,ou=x")
		}
	}
}

func TestTexts(t *testing.T) { // P6.1
	for text, d := range map[string]api.Dn{
		"":                     nil,
		"cn=a":                 name("cn", "a"),
		`cn=Ann\, B,ou=people`: name("cn", "Ann, B", "ou", "people"),
		`cn=\#1 \=`:            name("cn", "#1 ="),
		`cn=\0a`:               name("cn", "\n"),
		`cn=\ `:                name("cn", " "),
		`cn=\ \ `:              name("cn", "  "),
		`cn=\  \ `:             name("cn", "   "),
		`cn=\ a b\ ,ou=\#`:     name("cn", " a b ", "ou", "#"),
		`cn=\##,ou=a#`:         name("cn", "##", "ou", "a#"),
		`cn=a#b`:               name("cn", "a#b"),
		`cn=\ #\ `:             name("cn", " # "),
		`cn=\,\+\"\\\<\>\;\=`:  name("cn", `,+"\<>;=`),
		`cn=\1f ~\7f\80\ff\00`: name("cn", "\x1f ~\x7f\x80\xff\x00"),
		`cn=Z\c3\bcrich`:       name("cn", "Zürich"),
		`a-9=/*():.'!,b=x`:     name("a-9", "/*():.'!", "b", "x"),
	} {
		s, no := dn.Text(d)
		is(t, "Text", no, api.OK)
		is(t, "Text", s, text)
		isText(t, text, d)
	}
}

func TestTextsInOtherForms(t *testing.T) { // P6.1
	for text, d := range map[string]api.Dn{
		`CN=Ann\, B,ou=people`:             name("cn", "Ann, B", "ou", "people"),
		`cN=a,Ou=B,DC-1x=C`:                name("cn", "a", "ou", "B", "dc-1x", "C"),
		`cn=\61`:                           name("cn", "a"),
		`cn=\41\2c\2C\3d\3D\5c\5C`:         name("cn", `A,,==\\`),
		`cn=\20`:                           name("cn", " "),
		`cn=\20a\20`:                       name("cn", " a "),
		`cn=\23`:                           name("cn", "#"),
		`cn=a\23\#\ \20b`:                  name("cn", "a##  b"),
		`cn=a\ b`:                          name("cn", "a b"),
		`cn=a \ ,ou=b`:                     name("cn", "a  ", "ou", "b"),
		`cn=\  a`:                          name("cn", "  a"),
		`cn=\Ff\fF\FF\ff`:                  name("cn", "\xff\xff\xff\xff"),
		`cn=\0A\0a\00`:                     name("cn", "\n\n\x00"),
		`cn=\\41`:                          name("cn", `\41`),
		`cn=\\\41`:                         name("cn", `\A`),
		`cn=\\\\,cn=\\`:                    name("cn", `\\`, "cn", `\`),
		`cn=\\\,,cn=\,\\`:                  name("cn", `\,`, "cn", `,\`),
		`cn=\610`:                          name("cn", "a0"),
		`cn=\2cou\3db`:                     name("cn", ",ou=b"),
		strings.Repeat("A", 64) + "=\\61":  name(strings.Repeat("a", 64), "a"),
		"cn=" + strings.Repeat(`\ab`, 200): name("cn", strings.Repeat("\xab", 200)),
		"cn=" + strings.Repeat(`\,`, 200):  name("cn", strings.Repeat(",", 200)),
	} {
		isText(t, text, d)
		isTold(t, text)
	}
}

func TestTextsOfNoName(t *testing.T) { // P6.1
	for _, s := range []string{
		"cn=", "cn=a,", "cn=a+b", "cn", "=", "=a", ",", ",cn=a", "cn=a,,ou=b", "cn=a,ou", "cn=a,ou=", "cn=,ou=b", "cn=a,=b", "cn=a,ou=b,", " ", "\\", "#",
		"cn= ", "cn= a", "cn=a ", "cn=  ", "cn=a ,ou=b", "cn=a, ou=b", "cn =a", " cn=a", "cn=#", "cn=#a", "cn=a,ou=#b", "cn=a,ou= b", `cn=\a0 `, `cn=\\ `, `cn=\  `,
		"cn=a=b", "cn==", "cn=a\"", "cn=\"a\"", "cn=<", "cn=>", "cn=;", "cn=a;ou=b", "cn=a+ou=b", "cn=a\n", "cn=\x00", "cn=a\x1f", "cn=a\x7f", "cn=Zürich", "cn=a\xff",
		`cn=\`, `cn=a\`, `cn=\4`, `cn=\4,ou=b`, `cn=\4g`, `cn=\g4`, `cn=\x41`, `cn=\-`, `cn=\a`, `cn=\/`, `cn=\n`, `cn=\.1`, `cn=\+1\-1`, `cn=\ff\f`, `cn=a\,ou=b`, `cn=\\\`, `cn=\,\`,
		`cn=\4 `, `cn=\4\1`, `cn=\_1`, `cn=\1_`, `cn=\1.`, "cn=\\\n", "cn=\\\xff", "cn=\\1\xff",
		`c\6e=a`, `\63n=a`, `cn\=a`, `cn\=a=b`, `c\,n=a`, `\ cn=a`, "2.5.4.3=a", "cn=a\x00", "\x00", "\xff", "cn=a,\xff=b", "CN", "Cn=a,1=b",
		"cn=" + strings.Repeat("a", 201), "cn=" + strings.Repeat(`\61`, 201), "cn=" + strings.Repeat(`\,`, 201), "ou=b,cn=" + strings.Repeat("a", 201) + ",ou=b",
		"cn=" + strings.Repeat("a", 200) + " ", strings.Repeat("a", 65) + "=a", strings.Repeat("A", 65) + "=a",
		strings.Repeat("ou=x,", 16) + "ou=x", strings.Repeat("ou=x,", 16), strings.Repeat("ou=x,", 15) + "ou=", strings.Repeat("ou=x,", 100) + "ou=x",
	} {
		isNoText(t, s)
		isTold(t, s)
	}
	for _, kind := range badTypes() {
		isNoText(t, kind+"=a")
		isNoText(t, "ou=x,"+kind+"=a")
		isNoText(t, great(kind)+"=a")
	}
}

func TestManyParts(t *testing.T) { // P6.1
	for n := range 20 {
		isTold(t, strings.TrimSuffix(strings.Repeat("OU=x,", n), ","))
		isTold(t, strings.Repeat("ou=x,", n))
	}
}

// textsOf goes over all texts of so many letters out of some.
func textsOf(letters string, size int, see func(string)) {
	var grow func(s string)
	grow = func(s string) {
		if len(s) == size {
			see(s)
			return
		}
		for i := range len(letters) {
			grow(s + letters[i:i+1])
		}
	}
	grow("")
}

func TestAllShortTexts(t *testing.T) { // P6.1
	for size := range 7 {
		textsOf("aA=,\\ 2", size, func(s string) { isTold(t, s) })
	}
	for size := range 4 {
		textsOf("aFg09-=,\\# +;\"<>\x00\x1f\x7f\x80\xff", size, func(s string) {
			isTold(t, s)
			isTold(t, "o="+s)
			isTold(t, "o=\\"+s)
		})
	}
	for size := range 6 {
		textsOf("aG2\\# ,", size, func(s string) { isTold(t, "o="+s) })
	}
}

// randomName tells a name that may be.
func randomName(r *rand.Rand) api.Dn {
	var d api.Dn
	for range r.Intn(4) {
		d = append(d, api.Rdn{Type: randomLetters(r, "abz", 1) + randomLetters(r, "acnz09-", r.Intn(4)), Value: randomValue(r)})
	}
	return d
}

// randomValue tells one byte at least.
func randomValue(r *rand.Rand) string {
	size := 1 + r.Intn(6)
	if r.Intn(10) == 0 {
		size = 200
	}
	if r.Intn(2) == 0 {
		b := make([]byte, size)
		r.Read(b)
		return string(b)
	}
	return randomLetters(r, "aZz ,#=\\+0d", size)
}

// randomLetters tells so many out of some.
func randomLetters(r *rand.Rand, letters string, size int) string {
	b := make([]byte, size)
	for i := range b {
		b[i] = letters[r.Intn(len(letters))]
	}
	return string(b)
}

// otherForm tells a text of the same name, in another form as it falls.
func otherForm(r *rand.Rand, d api.Dn) string {
	var parts []string
	for _, part := range d {
		s := ""
		for _, c := range []byte(part.Type) {
			letter := string([]byte{c})
			s += []string{letter, great(letter)}[r.Intn(2)]
		}
		s += "="
		for i, c := range []byte(part.Value) {
			plain := plainValue("a" + string([]byte{c}) + "b")
			plain = plain[1 : len(plain)-1]
			forms := []string{fmt.Sprintf("\\%02x", c), fmt.Sprintf("\\%02X", c)}
			if (c != ' ' && c != '#') || (i > 0 && i < len(part.Value)-1) {
				forms = append(forms, plain)
			}
			if strings.IndexByte(",+\"\\<>;=# ", c) >= 0 {
				forms = append(forms, "\\"+string([]byte{c}))
			}
			s += forms[r.Intn(len(forms))]
		}
		parts = append(parts, s)
	}
	return strings.Join(parts, ",")
}

// changed tells a text with a byte more, less or other.
func changed(r *rand.Rand, s string) string {
	at := r.Intn(len(s) + 1)
	next := randomLetters(r, "aA0,=\\ #+;\x00\xff-", r.Intn(2))
	return s[:at] + next + s[min(len(s), at+r.Intn(2)):]
}

func TestThereAndBack(t *testing.T) { // P6.3
	r := rand.New(rand.NewSource(1))
	for range 5000 {
		d := randomName(r)
		isGood(t, d)
		s := otherForm(r, d)
		isText(t, s, d)
		isTold(t, s)
		for range 3 {
			s = changed(r, s)
			isTold(t, s)
		}
	}
}

func TestUnlikeNamesHaveUnlikeTexts(t *testing.T) { // P6.3
	seen := map[string]api.Dn{}
	see := func(d api.Dn) {
		s, no := dn.Text(d)
		is(t, "Text", no, api.OK)
		if other, there := seen[s]; there && !slices.Equal(other, d) {
			t.Errorf("%q is the text of %q and of %q", s, d, other)
		}
		seen[s] = d
	}
	for size := 1; size < 5; size++ {
		textsOf("a, =\\#0", size, func(s string) { see(name("o", s)) })
	}
	r := rand.New(rand.NewSource(2))
	for range 3000 {
		d := randomName(r)
		see(d)
		s, _ := dn.Text(d)
		if s != "" && len(s) <= 200 { // a Value that is told as a whole name is not that name
			see(name("o", s))
		}
	}
}

func TestSmall(t *testing.T) { // P6.2
	for n := range 256 {
		want := byte(n)
		if n >= 65 && n <= 90 {
			want += 32
		}
		is(t, "Small", dn.Small(string([]byte{byte(n)})), string([]byte{want}))
		is(t, "Small", dn.Small("A"+string([]byte{byte(n)})+"z"), "a"+string([]byte{want})+"z")
	}
	for s, want := range map[string]string{
		"": "", "a": "a", "ABCXYZ": "abcxyz", "abcxyz": "abcxyz", "Ann B. 09-@[`{": "ann b. 09-@[`{", "\xffA\xc3\x00Z": "\xffa\xc3\x00z",
		"ÄÖ\u212a\u0130": "ÄÖ\u212a\u0130", "A\ufffdB": "a\ufffdb",
		strings.Repeat("Q", 100000): strings.Repeat("q", 100000),
	} {
		is(t, "Small of "+short(s), dn.Small(s), want)
	}
}

func TestAlike(t *testing.T) { // P6.2
	for _, c := range []struct{ a, b api.Dn }{
		{nil, nil},
		{nil, api.Dn{}},
		{name("cn", "a"), name("cn", "A")},
		{name("cn", "Ann, B", "ou", "PEOPLE"), name("cn", "aNN, b", "ou", "people")},
		{name("cn", "\xffZ\x00"), name("cn", "\xffz\x00")},
		{name("cn", "AZ"), name("cn", "az")},
		{longName(16), longName(16)},
	} {
		is(t, "Alike", dn.Alike(c.a, c.b), true)
		is(t, "Alike, turned", dn.Alike(c.b, c.a), true)
		is(t, "Below of alike ones", dn.Below(c.a, c.b), false)
		is(t, "Below of alike ones, turned", dn.Below(c.b, c.a), false)
	}
	for _, c := range []struct{ a, b api.Dn }{
		{name("cn", "a"), name("cn", "b")},
		{name("cn", "a"), name("ou", "a")},
		{name("cn", "a"), name("cn", "a ")},
		{name("cn", "a"), name("cn", "ab")},
		{name("cn", "Ä"), name("cn", "ä")},
		{name("cn", "k"), name("cn", "\u212a")},
		{name("cn", "@"), name("cn", "`")},
		{name("cn", "["), name("cn", "{")},
		{name("cn", "\xc1"), name("cn", "\xe1")},
		{name("cn", "\xff"), name("cn", "\xfe")},
		{name("cn", "\xff"), name("cn", "\ufffd")},
		{name("cn", "a", "ou", "b"), name("ou", "b", "cn", "a")},
		{name("cn", "a", "ou", "b"), name("cn", "a", "ou", "c")},
		{name("cn", "a", "ou", "b"), name("cn", "c", "ou", "b")},
		{name("cn", "a,ou=b"), name("cn", "a")},
		{name("cn", "a-b"), name("cn-a", "b")},
	} {
		isUnlike(t, c.a, c.b)
	}
	is(t, "Alike of one with more parts", dn.Alike(name("cn", "a", "ou", "b"), name("cn", "a")), false)
	is(t, "Alike of one with more parts", dn.Alike(name("cn", "a"), nil), false)
}

func TestBelow(t *testing.T) { // P6.2
	abc := name("cn", "A", "ou", "b", "dc", "C")
	for _, of := range []api.Dn{nil, {}, name("dc", "c"), name("ou", "B", "dc", "c")} {
		is(t, "Below", dn.Below(abc, of), true)
		is(t, "Below, turned", dn.Below(of, abc), false)
		is(t, "Alike", dn.Alike(abc, of), false)
	}
	for _, of := range []api.Dn{abc, name("cn", "a"), name("cn", "a", "ou", "b"), name("ou", "b"), name("ou", "c"), name("dc", "d"), name("ou", "c", "dc", "c"), name("ou", "b", "dc", "cc"), name("dc", "c", "ou", "b")} {
		is(t, "Below of "+plainText(of), dn.Below(abc, of), false)
		is(t, "Below of "+plainText(of)+", turned", dn.Below(of, abc), false)
	}
	is(t, "Below of none", dn.Below(nil, nil), false)
	for n := range 17 {
		for m := range 17 {
			is(t, fmt.Sprintf("Below of %d and %d parts", n, m), dn.Below(longName(n), longName(m)), n > m)
		}
	}
	// Its own parts may be, but it has too many; or what is above it may not be.
	is(t, "Below of one with 17 parts", dn.Below(longName(17), longName(16)), false)
	is(t, "Below one with 17 parts", dn.Below(longName(18), longName(17)), false)
	for _, r := range badParts() {
		is(t, "Below of one that may not be", dn.Below(append(api.Dn{r}, abc...), abc), false)
		is(t, "Below one that may not be", dn.Below(append(slices.Clone(abc), r), api.Dn{r}), false)
		is(t, "Below one that may not be", dn.Below(abc, api.Dn{r}), false)
	}
}

func TestUp(t *testing.T) { // P6.2
	abc := name("cn", "A", "ou", "b", "dc", "C")
	up, there := dn.Up(abc)
	is(t, "Up", there, true)
	isName(t, "Up", up, name("ou", "b", "dc", "C"))
	up, there = dn.Up(name("cn", "a"))
	is(t, "Up of one part", there, true)
	isName(t, "Up of one part", up, nil)
	up, there = dn.Up(longName(16))
	is(t, "Up of 16 parts", there, true)
	isName(t, "Up of 16 parts", up, longName(15))
	for _, d := range []api.Dn{nil, {}, longName(17)} {
		up, there = dn.Up(d)
		is(t, "Up of none", there, false)
		isName(t, "Up of none", up, nil)
	}
	for _, r := range badParts() { // also where the one above may be
		up, there = dn.Up(append(api.Dn{r}, abc...))
		is(t, "Up of one that may not be", there, false)
		isName(t, "Up of one that may not be", up, nil)
	}
}

func TestUnder(t *testing.T) { // P6.2
	r := api.Rdn{Type: "cn", Value: "A"}
	for n := range 16 {
		d, no := dn.Under(r, longName(n))
		is(t, "Under", no, api.OK)
		isName(t, "Under", d, append(api.Dn{r}, longName(n)...))
	}
	for _, of := range append(badNames(), longName(16)) {
		d, no := dn.Under(r, of)
		is(t, "Under", no, api.ErrArg)
		isName(t, "Under", d, nil)
	}
	for _, r := range badParts() {
		for _, of := range []api.Dn{nil, name("ou", "b"), longName(15), longName(16), {r}} {
			d, no := dn.Under(r, of)
			is(t, "Under of a part that may not be", no, api.ErrArg)
			isName(t, "Under of a part that may not be", d, nil)
		}
	}
}

func TestKey(t *testing.T) { // P6.2
	for want, d := range map[string]api.Dn{
		"":                     nil,
		"cn=ann":               name("cn", "ANN"),
		`cn=ann\, b,ou=people`: name("cn", "Ann, B", "ou", "PeoPle"),
		`cn=\ #z\0a\fa[@`:      name("cn", " #Z\n\xfa[@"),
		`cn=\c3\84\ `:          name("cn", "Ä "),
		`x-1=\\a`:              name("x-1", `\A`),
		strings.Repeat("a", 64) + "=" + strings.Repeat("z", 200): name(strings.Repeat("a", 64), strings.Repeat("Z", 200)),
	} {
		s, no := dn.Key(d)
		is(t, "Key", no, api.OK)
		is(t, "Key", s, want)
	}
}

// great tells a text whose letters a to z are A to Z.
func great(s string) string {
	for c := 'a'; c <= 'z'; c++ {
		s = strings.ReplaceAll(s, string(c), strings.ToUpper(string(c)))
	}
	return s
}

// alikePlainly tells whether two names are alike, as the chapter's 'Words' say it.
func alikePlainly(a, b api.Dn) bool {
	if len(a) != len(b) {
		return false
	}
	for i := range a {
		if a[i].Type != b[i].Type || smallPlainly(a[i].Value) != smallPlainly(b[i].Value) {
			return false
		}
	}
	return true
}

// smallPlainly tells a text whose letters A to Z are a to z.
func smallPlainly(s string) string {
	for c := 'A'; c <= 'Z'; c++ {
		s = strings.ReplaceAll(s, string(c), strings.ToLower(string(c)))
	}
	return s
}

// smallNames tells names of which many are alike.
func smallNames() []api.Dn {
	var names []api.Dn
	values := []string{"a", "A", "b", "a,b", "A,B", "a=", "#", " ", "  ", "\\", "\\2c", "\n", "\\0A", "ä", "Ä"}
	for _, v := range values {
		names = append(names, name("o", v), name("c", v))
		for _, w := range values {
			names = append(names, name("o", v, "o", w))
		}
	}
	return append(names, nil, name("o", "a,o=b"), name("o", "a", "o", "b"), name("o", "a", "o", "b", "o", "b"), name("o", "b", "o", "a", "o", "B"), longName(16), longName(15))
}

func TestKeysAndAlike(t *testing.T) { // P6.2, P6.3
	names := smallNames()
	for _, a := range names {
		key, no := dn.Key(a)
		is(t, "Key", no, api.OK)
		for _, b := range names {
			other, _ := dn.Key(b)
			want := alikePlainly(a, b)
			is(t, fmt.Sprintf("Alike of %q and %q", a, b), dn.Alike(a, b), want)
			is(t, fmt.Sprintf("the same Key of %q and %q", a, b), key == other, want)
			more := len(a) - len(b)
			is(t, fmt.Sprintf("Below of %q and %q", a, b), dn.Below(a, b), more > 0 && alikePlainly(a[max(more, 0):], b))
		}
	}
}

func TestKeyIsATextOfOneAlike(t *testing.T) { // P6.2, P6.3
	r := rand.New(rand.NewSource(3))
	for range 2000 {
		d := randomName(r)
		key, no := dn.Key(d)
		is(t, "Key", no, api.OK)
		small := slices.Clone(d)
		for i := range small {
			small[i].Value = smallPlainly(small[i].Value)
		}
		is(t, "Key", key, plainText(small))
		isText(t, key, small)
		is(t, "Alike", dn.Alike(d, small), true)
	}
}

func TestUpAndBelow(t *testing.T) { // P6.3
	r := rand.New(rand.NewSource(4))
	for range 2000 {
		d := randomName(r)
		is(t, "Below of itself", dn.Below(d, d), false)
		up, there := dn.Up(d)
		is(t, "Up", there, len(d) > 0)
		if !there {
			continue
		}
		is(t, "Below of its Up", dn.Below(d, up), true)
		is(t, "Below of its Up, turned", dn.Below(up, d), false)
		again, no := dn.Under(d[0], up)
		is(t, "Under", no, api.OK)
		isName(t, "Under of its Up", again, d)
	}
}

// withRoom tells a name with room behind it that is not nought.
func withRoom(d api.Dn) api.Dn {
	return append(slices.Clone(d), name("room", "behind", "room", "behind")...)[:len(d)]
}

func TestNothingHandedInIsChanged(t *testing.T) { // P6.1, P6.2
	was := name("cn", "A", "ou", "B", "dc", "C")
	for n := range len(was) + 1 {
		d, of := withRoom(was[:n]), withRoom(was[1:])
		dn.Check(d)
		dn.Text(d)
		dn.Alike(d, of)
		dn.Below(d, of)
		dn.Up(d)
		dn.Under(api.Rdn{Type: "cn", Value: "a"}, d)
		dn.Under(api.Rdn{Type: "cn", Value: ""}, d)
		dn.Key(d)
		room := name("room", "behind", "room", "behind")
		isName(t, "what was handed in", d, was[:n])
		isName(t, "the room behind", d[n:n+2], room)
		isName(t, "what was handed in", of, was[1:])
		isName(t, "the room behind", of[2:4], room)
	}
}

// scribble writes over a name, and over the room behind it.
func scribble(d api.Dn) {
	for i := range d[:cap(d)] {
		d[:cap(d)][i] = api.Rdn{Type: "scribbled", Value: "over"}
	}
}

func TestAnswersAreNewMemory(t *testing.T) { // P6.1, P6.2
	was := name("cn", "A", "ou", "B", "dc", "C")
	for n := 1; n <= len(was); n++ {
		d := withRoom(was[:n])
		text, _ := dn.Text(d)
		for what, call := range map[string]func() api.Dn{
			"Up":    func() api.Dn { up, _ := dn.Up(d); return up },
			"Under": func() api.Dn { under, _ := dn.Under(api.Rdn{Type: "x", Value: "y"}, d); return under },
			"Parse": func() api.Dn { parsed, _ := dn.Parse(text); return parsed },
		} {
			answer, other := call(), call()
			want := slices.Clone(answer)
			scribble(answer)
			isName(t, what+": what was handed in", d, was[:n])
			isName(t, what+": the room behind", d[n:n+2], name("room", "behind", "room", "behind"))
			isName(t, what+": another answer", other, want)
			isName(t, what+": once more", call(), want)
		}
		up, _ := dn.Up(d)
		under, _ := dn.Under(api.Rdn{Type: "x", Value: "y"}, d)
		scribble(d)
		isName(t, "Up keeps nothing", up, was[1:n])
		isName(t, "Under keeps nothing", under[1:], was[:n])
	}
}

func TestVeryLongTexts(t *testing.T) { // P6.1
	for _, c := range []string{"a", ",", "=", "\\", " ", "\\,", "\\41", "cn=a,", "cn=", "\x00", "cn=a"} {
		long := strings.Repeat(c, 1<<18)
		for _, ahead := range []string{"", "cn=", "cn=a,"} {
			isNoText(t, ahead+long)
			isNoText(t, ahead+long+"=")
			isNoText(t, ahead+long+"=a")
		}
		isBad(t, name("cn", long))
		isBad(t, name(long, "a"))
	}
}

func TestExamples(t *testing.T) { // P6.1
	isText(t, `CN=Ann\, B,ou=people`, name("cn", "Ann, B", "ou", "people"))
	for value, want := range map[string]string{"#1 =": `cn=\#1 \=`, "\n": `cn=\0a`} {
		s, no := dn.Text(name("cn", value))
		is(t, "Text", no, api.OK)
		is(t, "Text", s, want)
	}
	for _, s := range []string{"cn=", "cn=a,", "cn=a+b"} {
		isNoText(t, s)
	}
}
