package filter_test

import (
	"encoding/hex"
	"fmt"
	"math"
	"math/rand"
	"regexp"
	"slices"
	"strconv"
	"strings"
	"testing"

	"cardcase/api"
	"cardcase/ber"
	"cardcase/filter"
)

// is fails where an answer is another than the one that is asked for.
func is[T comparable](t *testing.T, what string, got, want T) {
	t.Helper()
	if got != want {
		t.Errorf("%s: %s, want %s", what, short(got), short(want))
	}
}

// short tells something, or how it begins.
func short(x any) string {
	s := fmt.Sprintf("%v", x)
	if text, is := x.(string); is {
		s = fmt.Sprintf("%q", text)
	}
	if len(s) > 300 {
		return fmt.Sprintf("%s .. (%d bytes)", s[:300], len(s))
	}
	return s
}

// plain tells all that is in a filter, nil and empty being the same.
func plain(f api.Filter) string {
	var s strings.Builder
	s.WriteString(fmt.Sprintf("%d %q %q [", f.Kind, f.Name, f.Value))
	for _, one := range f.Of {
		s.WriteString(plain(one) + ";")
	}
	return s.String() + "]"
}

// plainBer tells all that is in a value, nil and empty being the same.
func plainBer(v api.Ber) string {
	s := fmt.Sprintf("%d %d %v %q [", v.Class, v.Num, v.Cons, v.Bytes)
	for _, item := range v.Items {
		s += plainBer(item) + ";"
	}
	return s + "]"
}

// and makes a filter, and so do those that follow.
func and(of ...api.Filter) api.Filter { return api.Filter{Kind: 1, Of: of} }

func or(of ...api.Filter) api.Filter { return api.Filter{Kind: 2, Of: of} }

func not(of ...api.Filter) api.Filter { return api.Filter{Kind: 3, Of: of} }

func eq(name, value string) api.Filter { return api.Filter{Kind: 4, Name: name, Value: value} }

func begin(name, value string) api.Filter { return api.Filter{Kind: 5, Name: name, Value: value} }

func has(name string) api.Filter { return api.Filter{Kind: 6, Name: name} }

// attr makes an attribute.
func attr(name string, values ...string) api.Attr { return api.Attr{Name: name, Values: values} }

// deep tells a filter in so many others that it is of that depth.
func deep(f api.Filter, depth int, around ...func(...api.Filter) api.Filter) api.Filter {
	for i := range depth - 1 {
		f = around[i%len(around)](f)
	}
	return f
}

// numbered makes so many texts that rise, and begin so.
func numbered(begin string, n int) []string {
	var l []string
	for i := range n {
		l = append(l, fmt.Sprintf("%s%06d", begin, i))
	}
	return l
}

// wide makes attributes, whose Names begin so, of a Value each.
func wide(begin string, n int) []api.Attr {
	var l []api.Attr
	for _, name := range numbered(begin, n) {
		l = append(l, attr(name, "v"))
	}
	return l
}

// allBytes is a text of each byte, rising.
func allBytes() string {
	b := make([]byte, 256)
	for c := range b {
		b[c] = byte(c)
	}
	return string(b)
}

// small tells a text whose letters A to Z are a to z.
func small(s string) string {
	for c := 'A'; c <= 'Z'; c++ {
		s = strings.ReplaceAll(s, string(c), strings.ToLower(string(c)))
	}
	return s
}

// great tells a text whose letters a to z are A to Z.
func great(s string) string {
	for c := 'a'; c <= 'z'; c++ {
		s = strings.ReplaceAll(s, string(c), strings.ToUpper(string(c)))
	}
	return s
}

// withNames tells the same filter with other Names, in new memory.
func withNames(f api.Filter, other func(string) string) api.Filter {
	f.Name = other(f.Name)
	f.Of = slices.Clone(f.Of)
	for i := range f.Of {
		f.Of[i] = withNames(f.Of[i], other)
	}
	return f
}

// goodFilters are filters that may be.
func goodFilters() []api.Filter {
	leaf := eq("a", "x")
	l := []api.Filter{
		and(), or(), {Kind: 1, Of: []api.Filter{}}, {Kind: 2, Of: []api.Filter{}},
		eq("cn", "x"), begin("cn", "x"), has("cn"),
		eq("CN", "X"), begin("cN", "x Y"), has("Cn-1"),
		eq("a", " "), eq("a", "="), eq("a", "(a=b)"), eq("a", "*"), begin("a", "*"), eq("a", "\\"), eq("a", "\\2a"), eq("a", "&"), begin("a", "|!"), eq("a", "\x00"), begin("a", "\xff\x7f\x1f"),
		eq("a", allBytes()), begin("z", allBytes()), eq("a", "Zürich"),
		{Kind: 4, Name: "a", Value: "x", Of: []api.Filter{}}, {Kind: 6, Name: "a", Of: []api.Filter{}},
		eq(strings.Repeat("q", 64), strings.Repeat("y", 2048)), begin(strings.Repeat("Q", 64), strings.Repeat("\xff", 2048)), has("z" + strings.Repeat("-", 63)),
		and(leaf), or(leaf), not(leaf), and(leaf, leaf), or(has("b"), has("a"), has("b")), not(and()), not(or()), not(not(not(has("a")))),
		and(begin("cn", "A"), not(has("mail"))), or(and(eq("A", "1"), or()), not(begin("b", "2")), has("C"), and()),
		deep(leaf, 16, and), deep(leaf, 16, or), deep(leaf, 16, not), deep(begin("a", "x"), 16, not, and, or), deep(has("a"), 16, or, not), deep(and(), 16, and), deep(or(), 15, not),
		deep(and(deep(leaf, 10, and), deep(leaf, 3, not), leaf), 6, or),
		and(slices.Repeat([]api.Filter{leaf}, 199)...), or(slices.Repeat([]api.Filter{not(has("b"))}, 99)...), deep(and(slices.Repeat([]api.Filter{has("b")}, 185)...), 15, not),
		and(slices.Repeat([]api.Filter{and(slices.Repeat([]api.Filter{leaf}, 98)...)}, 2)...), or(slices.Repeat([]api.Filter{eq("a", strings.Repeat("*", 2048))}, 199)...),
	}
	for c := 'a'; c <= 'z'; c++ {
		l = append(l, eq(string(c), "v"), has(great(string(c))))
	}
	for c := range 256 {
		one := string([]byte{byte(c)})
		l = append(l, eq("a", one), begin("a", one), eq("b", "x"+one+"y"))
	}
	return l
}

// badNames are Names that may not be, in whatever letters.
func badNames() []string {
	l := []string{"", " ", "a ", " a", "-", "-a", "1", "1a", "a.b", "a_b", "a=b", "a\n", "ä", "aä", "a\xff", "\u212a", "a\u017f", "&", "(a", "a)", strings.Repeat("a", 65), strings.Repeat("A", 65), strings.Repeat("a", 100000)}
	for c := range 256 {
		one := string([]byte{byte(c)})
		if !regexp.MustCompile(`^[A-Za-z0-9-]$`).MatchString(one) {
			l = append(l, one, "a"+one, "a"+one+"b")
		}
	}
	return l
}

// badOnes are filters that may not be, whatever those in them.
func badOnes() []api.Filter {
	of := []api.Filter{has("a")}
	long := strings.Repeat("x", 2049)
	l := []api.Filter{
		{}, {Name: "cn"}, {Of: of}, not(), {Kind: 3, Of: []api.Filter{}}, not(has("a"), has("a")), not(has("a"), has("b"), has("c")),
		{Kind: 1, Name: "a"}, {Kind: 1, Value: "x"}, {Kind: 1, Of: of, Name: "a"}, {Kind: 1, Of: of, Value: "x"}, {Kind: 1, Name: "a", Value: "x"},
		{Kind: 2, Name: "a"}, {Kind: 2, Value: "x"}, {Kind: 2, Of: of, Name: "a"}, {Kind: 2, Of: of, Value: "x"}, {Kind: 2, Name: "a", Value: "x"},
		{Kind: 3, Of: of, Name: "a"}, {Kind: 3, Of: of, Value: "x"}, {Kind: 3, Name: "a", Value: "x"},
		{Kind: 4, Of: of}, {Kind: 4, Name: "a", Value: "x", Of: of}, {Kind: 5, Name: "a", Value: "x", Of: of}, {Kind: 6, Name: "a", Of: of}, {Kind: 6, Name: "a", Value: "x"}, {Kind: 6, Value: "x"},
		eq("a", ""), begin("a", ""), eq("a", long), begin("a", long), eq("a", strings.Repeat("\x00", 100000)), begin("A", strings.Repeat("\xff", 100000)),
	}
	for _, kind := range []api.FilterKind{0, -1, -2, -3, -4, -5, -6, -7, 7, 8, 255, 256, 257, 260, 1 << 32, 1<<32 + 1, 1<<32 + 6, math.MaxInt, math.MinInt} {
		l = append(l, api.Filter{Kind: kind}, api.Filter{Kind: kind, Name: "a"}, api.Filter{Kind: kind, Name: "a", Value: "x"}, api.Filter{Kind: kind, Of: of})
	}
	for _, name := range badNames() {
		l = append(l, eq(name, "x"), begin(name, "x"), has(name))
	}
	return l
}

// badFilters are filters that may not be.
func badFilters() []api.Filter {
	leaf := has("a")
	l := []api.Filter{
		deep(leaf, 17, and), deep(leaf, 17, or), deep(leaf, 17, not), deep(and(), 17, not, and, or), deep(leaf, 18, not), deep(leaf, 1000, or),
		and(leaf, deep(leaf, 16, not), leaf), or(deep(leaf, 16, and), eq("a", "x")), not(deep(or(), 16, and)),
		and(slices.Repeat([]api.Filter{leaf}, 200)...), or(slices.Repeat([]api.Filter{leaf}, 201)...), not(or(slices.Repeat([]api.Filter{leaf}, 199)...)),
		or(slices.Repeat([]api.Filter{not(leaf)}, 100)...), and(slices.Repeat([]api.Filter{and(slices.Repeat([]api.Filter{leaf}, 99)...)}, 2)...),
		and(append(slices.Repeat([]api.Filter{leaf}, 198), not(leaf))...), deep(and(slices.Repeat([]api.Filter{leaf}, 186)...), 15, not),
		and(slices.Repeat([]api.Filter{leaf}, 100000)...),
	}
	for _, f := range badOnes() {
		l = append(l, f, and(f), or(f), not(f), and(leaf, f), and(f, leaf), or(leaf, f, leaf), deep(f, 16, not, and, or))
	}
	return l
}

// plainValue tells a filter as a value, as the chapter's 'Words' say it.
func plainValue(f api.Filter) api.Ber {
	text := func(s string) api.Ber { return api.Ber{Num: 4, Bytes: []byte(s)} }
	name := small(f.Name)
	switch f.Kind {
	case 4:
		return api.Ber{Class: 2, Num: 3, Cons: true, Items: []api.Ber{text(name), text(f.Value)}}
	case 5:
		begin := api.Ber{Num: 16, Cons: true, Items: []api.Ber{{Class: 2, Bytes: []byte(f.Value)}}}
		return api.Ber{Class: 2, Num: 4, Cons: true, Items: []api.Ber{text(name), begin}}
	case 6:
		return api.Ber{Class: 2, Num: 7, Bytes: []byte(name)}
	}
	v := api.Ber{Class: 2, Num: uint8(f.Kind) - 1, Cons: true}
	for _, one := range f.Of {
		v.Items = append(v.Items, plainValue(one))
	}
	return v
}

// plainText tells a filter's text, as the chapter's 'Words' say it.
func plainText(f api.Filter) string {
	value := ""
	for i := range len(f.Value) {
		c := f.Value[i : i+1]
		if strings.Contains(`*()\`, c) || c < " " || c > "~" {
			c = fmt.Sprintf(`\%02x`, c)
		}
		value += c
	}
	name := small(f.Name)
	switch f.Kind {
	case 4:
		return "(" + name + "=" + value + ")"
	case 5:
		return "(" + name + "=" + value + "*)"
	case 6:
		return "(" + name + "=*)"
	}
	var of strings.Builder
	for _, one := range f.Of {
		of.WriteString(plainText(one))
	}
	return "(" + " &|!"[f.Kind:f.Kind+1] + of.String() + ")"
}

// What a text is made of, those in Of being numbers between bytes 0 and 1.
var (
	leafForm  = regexp.MustCompile(`\(([A-Za-z][A-Za-z0-9-]{0,63})=((?:[ !"#$%&'+,\-./0-9:;<=>?@A-Z\[\]^_` + "`" + `a-z{|}~]|\\[0-9a-fA-F]{2})*)(\*?)\)`)
	groupForm = regexp.MustCompile(`\(([&|!])((?:\x00[0-9]+\x01)*)\)`)
	numForm   = regexp.MustCompile(`\x00([0-9]+)\x01`)
	wholeForm = regexp.MustCompile(`\A\x00([0-9]+)\x01\z`)
	byteForm  = regexp.MustCompile(`\\[0-9a-fA-F]{2}`)
	oddBytes  = regexp.MustCompile(`[^ -~]`)
)

// plainParse tells the filter of a text by these forms, from what is within to what is around, and whether it is one's.
func plainParse(s string) (api.Filter, bool) {
	if oddBytes.MatchString(s) {
		return api.Filter{}, false
	}
	var made []api.Filter
	keep := func(f api.Filter) string {
		made = append(made, f)
		return fmt.Sprintf("\x00%d\x01", len(made)-1)
	}
	s = leafForm.ReplaceAllStringFunc(s, func(one string) string {
		parts := leafForm.FindStringSubmatch(one)
		value := byteForm.ReplaceAllStringFunc(parts[2], func(c string) string {
			b, _ := hex.DecodeString(c[1:])
			return string(b)
		})
		f := eq(small(parts[1]), value)
		if parts[3] != "" {
			f.Kind = 5
		}
		if f.Kind == 5 && value == "" {
			f.Kind = 6
		}
		return keep(f)
	})
	for groupForm.MatchString(s) {
		s = groupForm.ReplaceAllStringFunc(s, func(one string) string {
			parts := groupForm.FindStringSubmatch(one)
			f := api.Filter{Kind: api.FilterKind(1 + strings.Index("&|!", parts[1]))}
			for _, num := range numForm.FindAllStringSubmatch(parts[2], -1) {
				n, _ := strconv.Atoi(num[1])
				f.Of = append(f.Of, made[n])
			}
			return keep(f)
		})
	}
	whole := wholeForm.FindStringSubmatch(s)
	if whole == nil {
		return api.Filter{}, false
	}
	n, _ := strconv.Atoi(whole[1])
	return made[n], withinBounds(made[n])
}

// withinBounds tells whether the bounds hold that no form tells.
func withinBounds(f api.Filter) bool {
	many := 0
	var look func(f api.Filter, depth int) bool
	look = func(f api.Filter, depth int) bool {
		many++
		for _, one := range f.Of {
			if !look(one, depth+1) {
				return false
			}
		}
		isLong := len(f.Value) > 2048 || ((f.Kind == 4 || f.Kind == 5) && f.Value == "")
		return depth <= 16 && many <= 200 && !isLong && (f.Kind != 3 || len(f.Of) == 1)
	}
	return look(f, 1)
}

// isText fails where a text is not that filter's.
func isText(t *testing.T, s string, want api.Filter) {
	t.Helper()
	f, no := filter.Parse(s)
	if no != api.OK || plain(f) != plain(want) {
		t.Errorf("Parse of %s: %v, %s, want %s", short(s), no, short(plain(f)), short(plain(want)))
	}
}

// isNoText fails where a text is taken for a filter's.
func isNoText(t *testing.T, s string) {
	t.Helper()
	f, no := filter.Parse(s)
	if no != api.ErrFilter || plain(f) != plain(api.Filter{}) {
		t.Errorf("Parse of %s: %v, %s, want %v", short(s), no, short(plain(f)), api.ErrFilter)
	}
}

// isParsed fails where Parse does not answer of a text as the forms do.
func isParsed(t *testing.T, s string) {
	t.Helper()
	if want, may := plainParse(s); may {
		isText(t, s, want)
		return
	}
	isNoText(t, s)
}

// isValue fails where a value is not that filter's.
func isValue(t *testing.T, v api.Ber, want api.Filter) {
	t.Helper()
	f, no := filter.Of(v)
	if no != api.OK || plain(f) != plain(want) {
		t.Errorf("Of of %s: %v, %s, want %s", short(plainBer(v)), no, short(plain(f)), short(plain(want)))
	}
}

// isNoValue fails where a value is taken for a filter's.
func isNoValue(t *testing.T, v api.Ber) {
	t.Helper()
	f, no := filter.Of(v)
	if no != api.ErrFilter || plain(f) != plain(api.Filter{}) {
		t.Errorf("Of of %s: %v, %s, want %v", short(plainBer(v)), no, short(plain(f)), api.ErrFilter)
	}
}

// isRefused fails where a filter that may not be is taken for one, by whichever call.
func isRefused(t *testing.T, f api.Filter) {
	t.Helper()
	s, noText := filter.Text(f)
	v, noValue := filter.Value(f)
	if got, want := [...]api.Errno{filter.Check(f), noText, noValue}, [...]api.Errno{api.ErrArg, api.ErrArg, api.ErrArg}; got != want {
		t.Errorf("Check, Text and Value of %s: %v, want %v", short(plain(f)), got, want)
	}
	if s != "" || plainBer(v) != plainBer(api.Ber{}) {
		t.Errorf("Text and Value of %s: %s, %s, want none", short(plain(f)), short(s), short(plainBer(v)))
	}
	isMeant(t, false, api.ErrArg, f, api.Entry{attr("a", "x")})
	isMeant(t, false, api.ErrArg, f, nil, attr("a", "x"))
}

// isMeant fails where Means does not answer as it is asked for.
func isMeant(t *testing.T, want bool, wantNo api.Errno, f api.Filter, e api.Entry, more ...api.Attr) {
	t.Helper()
	got, no := filter.Means(f, e, more...)
	if got != want || no != wantNo {
		t.Errorf("Means of %s, %s and %s: %v, %v, want %v, %v", short(plain(f)), short(fmt.Sprintf("%q", e)), short(fmt.Sprintf("%q", more)), got, no, want, wantNo)
	}
}

func TestFiltersThatMayBe(t *testing.T) { // P8.1, P8.2
	for _, f := range goodFilters() {
		what := short(plain(f))
		is(t, "Check of "+what, filter.Check(f), api.OK)
		s, no := filter.Text(f)
		is(t, "Text of "+what, no, api.OK)
		is(t, "Text of "+what, s, plainText(f))
		v, no := filter.Value(f)
		is(t, "Value of "+what, no, api.OK)
		is(t, "Value of "+what, plainBer(v), plainBer(plainValue(f)))
		_, no = filter.Means(f, api.Entry{attr("a", "x")})
		is(t, "Means of "+what, no, api.OK)
	}
}

func TestFiltersThatMayNotBe(t *testing.T) { // P8.1, P8.2
	for _, f := range badFilters() {
		isRefused(t, f)
	}
}

func TestThereAndBack(t *testing.T) { // P8.3
	for _, f := range goodFilters() {
		want := withNames(f, small)
		s, _ := filter.Text(f)
		isText(t, s, want)
		v, _ := filter.Value(f)
		isValue(t, v, want)
		again, _ := filter.Parse(s)
		is(t, "Same of "+short(s), filter.Same(again, f), true)
	}
}

func TestTexts(t *testing.T) { // P8.2
	for text, f := range map[string]api.Filter{
		"(&(cn=A*)(!(mail=*)))":           and(begin("cn", "A"), not(has("mail"))),
		`(cn=a\2ab)`:                      eq("cn", "a*b"),
		`(cn=\2a\28\29\5c)`:               eq("cn", `*()\`),
		`(cn=\2a*)`:                       begin("cn", "*"),
		"(&)":                             and(),
		"(|)":                             or(),
		"(|(&)(|)(!(&)))":                 or(and(), or(), not(and())),
		"(a-9=,+\"<>;#=/&|!~ [x]{y}'_`^)": eq("a-9", ",+\"<>;#=/&|!~ [x]{y}'_`^"),
		`(cn=\00\1f ~\7f\80\ff)`:          eq("cn", "\x00\x1f ~\x7f\x80\xff"),
		`(cn=Z\c3\bcrich*)`:               begin("cn", "Zürich"),
		"(cn= )":                          eq("cn", " "),
		"(cn==)":                          eq("cn", "="),
		"(cn=A B*)":                       begin("cn", "A B"),
	} {
		s, no := filter.Text(f)
		is(t, "Text", no, api.OK)
		is(t, "Text", s, text)
		isText(t, text, f)
		isParsed(t, text)
	}
	s, no := filter.Text(withNames(and(eq("Cn", "A"), not(begin("mAil", "B")), has("SN")), great))
	is(t, "Text of great letters", no, api.OK)
	is(t, "Text of great letters", s, "(&(cn=A)(!(mail=B*))(sn=*))")
}

func TestTextsInOtherForms(t *testing.T) { // P8.2
	for text, f := range map[string]api.Filter{
		"(CN=A)":             eq("cn", "A"),
		"(cN-x=*)":           has("cn-x"),
		"(&(Cn=a)(MAIL=b*))": and(eq("cn", "a"), begin("mail", "b")),
		`(cn=\61)`:           eq("cn", "a"),
		`(cn=\41\3d\3D\5C)`:  eq("cn", `A==\`),
		`(cn=\2A)`:           eq("cn", "*"),
		`(cn=\2A*)`:          begin("cn", "*"),
		`(cn=\20\0A\Ff\fF)`:  eq("cn", " \n\xff\xff"),
		`(cn=\610*)`:         begin("cn", "a0"),
		`(cn=\5c2a)`:         eq("cn", `\2a`),
		`(cn=\28a=b\29)`:     eq("cn", "(a=b)"),
		"(" + strings.Repeat("A", 64) + "=" + strings.Repeat(`\aB`, 2048) + ")": eq(strings.Repeat("a", 64), strings.Repeat("\xab", 2048)),
	} {
		isText(t, text, f)
		isParsed(t, text)
	}
}

func TestTextsOfNoFilter(t *testing.T) { // P8.2
	for _, s := range []string{
		"", " ", "(", ")", "()", "(()", "())", "cn=a", "(cn=a", "cn=a)", "(cn)", "(=a)", "(=)", "(=*)", "(*)", "(cn=)", "(cn=**)", "(cn=a**)", "(cn=*a)", "(cn=a*b)", "(cn=*a*)", "(cn=a*b*)",
		"(cn=a))", "((cn=a))", "((cn=a)", "(cn=a)(cn=a)", "(cn=a) ", " (cn=a)", "( cn=a)", "(cn =a)", "(cn=a)\n", "(cn=(a)", "(cn=a()", "(cn=a))", "(cn=(a))", "(cn=a(b=c))", "(cn=a\x00)", "(cn=\x1f)", "(cn=\x7f)", "(cn=\xff)", "(cn=Zürich)", "(cn=a\n)",
		"(!)", "(!(a=b)(c=d))", "(!(a=b)(c=d)(e=f))", "(!a=b)", "(&a=b)", "(|a=b)", "(!&)", "(&|)", "&", "(&", "(&(a=b)", "(&(a=b)))", "(& (a=b))", "(&(a=b) )", "(&(a=b) (c=d))", "(&(a=b)c)", "(&(a=b)c=d)", "(&*)", "(&=a)", "(&)(|)", "(&&)", "(&(a=b)&)", "(!(!))", "(!(!()))", "(~(a=b))", "(&\n)",
		`(cn=\)`, `(cn=a\)`, `(cn=\2)`, `(cn=\2`, `(cn=\2g)`, `(cn=\g2)`, `(cn=\*)`, `(cn=\()`, `(cn=\))`, `(cn=\\)`, `(cn=\+1)`, `(cn=\-1)`, `(cn=\ 1)`, `(cn=\1 )`, `(cn=\_1)`, `(cn=\0x41)`, `(cn=\x41)`, `(cn=\4\1)`, `(cn=a\2*)`, `(cn=\61`, `\28cn=a)`, `(cn\3da)`, `(c\6e=a)`, `(cn=a\29`, `(\26)`,
		"(cn=" + strings.Repeat("a", 2049) + ")", "(cn=" + strings.Repeat("a", 2049) + "*)", "(cn=" + strings.Repeat(`\61`, 2049) + ")", "(cn=" + strings.Repeat("a", 100000) + ")",
		"(cn>=a)", "(cn<=a)", "(cn~=a)", "(cn:=a)", "(cn;x=a)", "(2.5.4.3=a)", "(cn:dn:=a)",
	} {
		isNoText(t, s)
		isParsed(t, s)
	}
	for _, name := range badNames() {
		if !strings.ContainsAny(name, "=&|!") {
			isNoText(t, "("+name+"=x)")
			isNoText(t, "(&("+name+"=*))")
		}
		isParsed(t, "("+name+"=x)")
		isParsed(t, "("+great(name)+"=x*)")
		isParsed(t, "(!("+name+"=*))")
	}
	for _, f := range goodFilters() {
		s := plainText(f)
		if len(s) > 10000 {
			continue
		}
		for _, more := range []string{" ", ")", "(", "(&)", "a", "\x00"} {
			isNoText(t, s+more)
			isNoText(t, more+s)
		}
		for _, end := range []string{"", " ", "(", "a)", "*)", "&)", "(&)"} {
			isParsed(t, s[:len(s)-1]+end)
		}
	}
}

func TestBoundsOfTexts(t *testing.T) { // P8.2
	in := func(around, s string, depth int) string {
		return strings.Repeat("("+around, depth-1) + s + strings.Repeat(")", depth-1)
	}
	for _, around := range []string{"&", "|", "!"} {
		for depth := range 20 {
			isParsed(t, in(around, "(a=b)", depth+1))
			isParsed(t, in(around, "(&)", depth+1))
			isParsed(t, "(|(a=b)"+in(around, "(a=*)", depth+1)+")")
		}
		isText(t, in(around, "(a=b)", 16), deep(eq("a", "b"), 16, map[string]func(...api.Filter) api.Filter{"&": and, "|": or, "!": not}[around]))
		isNoText(t, in(around, "(a=b)", 17))
		isNoText(t, in(around, "(a=b)", 100000))
		isNoText(t, strings.Repeat("("+around, 1<<23))
		isNoText(t, strings.Repeat("("+around, 1<<23)+strings.Repeat(")", 1<<23))
	}
	for _, many := range []int{0, 1, 198, 199, 200, 201, 1000} {
		isParsed(t, "(&"+strings.Repeat("(a=b)", many)+")")
		isParsed(t, "(|"+strings.Repeat("(!(a=b))", many/2)+"(&))")
		isParsed(t, "(&"+strings.Repeat("(|)", many)+")")
	}
	isText(t, "(&"+strings.Repeat("(a=b)", 199)+")", and(slices.Repeat([]api.Filter{eq("a", "b")}, 199)...))
	isNoText(t, "(&"+strings.Repeat("(a=b)", 200)+")")
	for _, long := range []string{"(&" + strings.Repeat("(a=b)", 1<<18) + ")", strings.Repeat("(", 1<<20), strings.Repeat("a", 1<<20), strings.Repeat("(a", 1<<19), strings.Repeat("(a=", 1<<18), strings.Repeat("=", 1<<20), "(a=" + strings.Repeat(`\61`, 1<<20) + ")"} {
		isNoText(t, long)
	}
	// No bound but those of its parts holds a text.
	longest := or(slices.Repeat([]api.Filter{begin(strings.Repeat("q", 64), strings.Repeat("\xff", 2048))}, 199)...)
	s, no := filter.Text(longest)
	is(t, "the longest text", no, api.OK)
	is(t, "the longest text", len(s), 3+199*(64+4+3*2048))
	isText(t, s, longest)
}

// textsOf goes over all texts of so many letters out of some.
func textsOf(letters string, size int, see func(string)) {
	var grow func(s string)
	grow = func(s string) {
		if len(s) == size {
			see(s)
			return
		}
		for i := range len(letters) {
			grow(s + letters[i:i+1])
		}
	}
	grow("")
}

func TestAllShortTexts(t *testing.T) { // P8.2
	for size := range 6 {
		textsOf("(&!a=*)", size, func(s string) {
			isParsed(t, s)
			isParsed(t, "("+s+")")
		})
		textsOf("(|B=)", size, func(s string) { isParsed(t, "(&(a=b)"+s+")") })
	}
	for size := range 5 {
		textsOf(`\2aG*(=`, size, func(s string) {
			isParsed(t, "(a="+s+")")
			isParsed(t, "(a="+s)
		})
		textsOf("a1-=Z& ", size, func(s string) { isParsed(t, "("+s+"=b)") })
	}
}

func TestEveryByte(t *testing.T) { // P8.2
	for n := range 256 {
		c := string([]byte{byte(n)})
		for _, s := range []string{c, c + c, "a" + c, c + "a", `\` + c, `\0` + c, `\` + c + "0", `\a` + c, `\` + c + "F", fmt.Sprintf(`\%02x`, n), fmt.Sprintf(`\%02X`, n), `\` + strconv.Itoa(n)} {
			isParsed(t, "(a="+s+")")
			isParsed(t, "(a="+s+"*)")
			isParsed(t, "(a=x"+s+"y)")
			isParsed(t, "(x"+s+"=a)")
			isParsed(t, "("+s+"=a)")
			isParsed(t, "("+s+"(a=b))")
			isParsed(t, "(!(a=b)"+s+")")
		}
	}
}

// randomOf tells one of some.
func randomOf[T any](r *rand.Rand, some ...T) T { return some[r.Intn(len(some))] }

// randomFilter tells a filter that may be, of at most that depth.
func randomFilter(r *rand.Rand, depth int) api.Filter {
	f := api.Filter{Kind: api.FilterKind(1 + r.Intn(6))}
	if depth == 1 {
		f.Kind = api.FilterKind(4 + r.Intn(3))
	}
	switch f.Kind {
	case 1, 2:
		for range r.Intn(4) {
			f.Of = append(f.Of, randomFilter(r, depth-1))
		}
	case 3:
		f.Of = append(f.Of, randomFilter(r, depth-1))
	default:
		f.Name = randomOf(r, "a", "b", "A", "ab", "a-1", "CN")
	}
	if f.Kind == 4 || f.Kind == 5 {
		for range 1 + r.Intn(3) {
			f.Value += randomOf(r, "a", "b", "A", "B", "\xff", "\x00", "*", "(", ")", "\\", "=", " ", "\xc4", "\xe4", "@", "`", "[", "{")
		}
	}
	return f
}

// otherForm tells a text of the same filter, in another form as it falls.
func otherForm(r *rand.Rand, f api.Filter) string {
	if f.Kind < 4 {
		s := "(" + " &|!"[f.Kind:f.Kind+1]
		for _, one := range f.Of {
			s += otherForm(r, one)
		}
		return s + ")"
	}
	s := "(" + randomOf(r, f.Name, small(f.Name), great(f.Name)) + "="
	for _, c := range []byte(f.Value) {
		told := plainText(eq("a", string([]byte{c})))
		s += randomOf(r, told[3:len(told)-1], fmt.Sprintf(`\%02x`, c), fmt.Sprintf(`\%02X`, c))
	}
	if f.Kind > 4 {
		s += "*"
	}
	return s + ")"
}

func TestManyTexts(t *testing.T) { // P8.2, P8.3
	r := rand.New(rand.NewSource(1))
	good := 0
	for range 5000 {
		f := randomFilter(r, 1+r.Intn(4))
		s, no := filter.Text(f)
		is(t, "Text", no, api.OK)
		is(t, "Text", s, plainText(f))
		isText(t, s, withNames(f, small))
		s = otherForm(r, f)
		isText(t, s, withNames(f, small))
		isParsed(t, s)
		for range 3 {
			at := r.Intn(len(s) + 1)
			s = s[:at] + randomOf(r, "", "a", "A", "(", ")", "&", "!", "=", "*", "\\", "2", "g", " ", "\xff", "(a=*)") + s[min(len(s), at+r.Intn(2)):]
			isParsed(t, s)
			if _, may := plainParse(s); may {
				good++
			}
		}
	}
	is(t, "some were a filter's text", good > 100, true)
}

func TestValuesAsBytes(t *testing.T) { // P8.2
	for want, f := range map[string]api.Filter{
		"a000":                     and(),
		"a100":                     or(),
		"a20487026364":             not(has("cd")),
		"a3070402636e040161":       eq("cn", "a"),
		"a4090402636e3003800141":   begin("cn", "A"),
		"87046d61696c":             has("mail"),
		"a00aa3060401610401628700": {}, // it has no Name there
		"a013a4090402636e3003800141a20687046d61696c": and(begin("CN", "A"), not(has("Mail"))),
	} {
		b, _ := hex.DecodeString(want)
		v, no := ber.Decode(b)
		is(t, "Decode", no, api.OK)
		if f.Kind == 0 {
			isNoValue(t, v)
			continue
		}
		isValue(t, v, withNames(f, small))
		v, no = filter.Value(f)
		is(t, "Value", no, api.OK)
		b, no = ber.Encode(v)
		is(t, "Encode", no, api.OK)
		is(t, "Encode of Value", hex.EncodeToString(b), want)
	}
}

func TestValuesWithGreatNames(t *testing.T) { // P8.2
	for _, f := range goodFilters() {
		var turn func(v api.Ber) api.Ber
		turn = func(v api.Ber) api.Ber { // the first text in one is a Name, and so are the bytes of one that has no Items
			if v.Num == 7 {
				v.Bytes = []byte(great(string(v.Bytes)))
			}
			v.Items = slices.Clone(v.Items)
			for i := range v.Items {
				if v.Num == 3 || v.Num == 4 {
					v.Items[0].Bytes = []byte(great(string(v.Items[0].Bytes)))
					break
				}
				v.Items[i] = turn(v.Items[i])
			}
			return v
		}
		isValue(t, turn(plainValue(f)), withNames(f, small))
	}
}

// text, list and choice make values.
func text(s string) api.Ber { return api.Ber{Num: 4, Bytes: []byte(s)} }

func list(l ...api.Ber) api.Ber { return api.Ber{Num: 16, Cons: true, Items: l} }

func choice(num uint8, l ...api.Ber) api.Ber {
	return api.Ber{Class: 2, Num: num, Cons: true, Items: l}
}

func single(class, num uint8, s string) api.Ber {
	return api.Ber{Class: class, Num: num, Bytes: []byte(s)}
}

// badValues are values that are no filter's, whatever those in them.
func badValues() []api.Ber {
	name, begin, leaf := text("cn"), list(single(2, 0, "x")), single(2, 7, "a")
	l := []api.Ber{
		{}, text("cn"), list(), list(leaf), text("(cn=a)"), api.Ber{Class: 2}, api.Ber{Class: 2, Num: 1}, api.Ber{Class: 2, Num: 2},
		choice(2), choice(2, leaf, leaf), choice(2, leaf, leaf, leaf),
		choice(3), choice(3, name), choice(3, name, text("")), choice(3, text(""), text("x")), choice(3, name, text("x"), text("x")), choice(3, name, text("x"), leaf), choice(3, name, text(strings.Repeat("x", 2049))), choice(3, text("1"), text("x")), choice(3, name, begin), choice(3, leaf, text("x")), choice(3, begin, text("x")), choice(3, name, leaf),
		choice(4), choice(4, name), choice(4, name, text("x")), choice(4, name, list()), choice(4, name, list(single(2, 0, ""))), choice(4, name, list(single(2, 0, strings.Repeat("x", 2049)))), choice(4, name, list(single(2, 0, "x"), single(2, 0, "x"))), choice(4, name, list(single(2, 1, "x"))), choice(4, name, list(single(2, 2, "x"))), choice(4, name, list(single(0, 4, "x"))), choice(4, name, list(single(0, 0, "x"))), choice(4, name, list(text("x"))),
		choice(4, name, begin, begin), choice(4, begin, name), choice(4, text(""), begin), choice(4, text("-a"), begin), choice(4, name, api.Ber{Num: 17, Cons: true, Items: begin.Items}), choice(4, name, api.Ber{Class: 1, Num: 16, Cons: true, Items: begin.Items}), choice(4, name, list(list(single(2, 0, "x")))), choice(4, name, single(2, 0, "x")),
		choice(7), choice(7, text("a")), choice(7, leaf), single(2, 7, ""), single(2, 7, "1"), single(2, 7, "a b"), single(2, 7, strings.Repeat("a", 65)),
		{Class: 2, Num: 7, Bytes: []byte("a"), Items: []api.Ber{text("a")}}, {Class: 2, Num: 7, Cons: true, Bytes: []byte("a")},
		{Class: 2, Num: 0, Cons: true, Bytes: []byte("a")}, {Class: 2, Num: 0, Cons: true, Bytes: []byte("a"), Items: []api.Ber{leaf}}, {Class: 2, Num: 0, Items: []api.Ber{leaf}}, {Class: 2, Num: 1, Items: []api.Ber{leaf}}, {Class: 2, Num: 2, Items: []api.Ber{leaf}}, {Class: 2, Num: 2, Cons: true, Bytes: []byte("a"), Items: []api.Ber{leaf}},
		{Class: 2, Num: 3, Items: []api.Ber{name, text("x")}}, {Class: 2, Num: 3, Cons: true, Bytes: []byte("a"), Items: []api.Ber{name, text("x")}}, {Class: 2, Num: 4, Items: []api.Ber{name, begin}}, {Class: 2, Num: 4, Cons: true, Bytes: []byte("a"), Items: []api.Ber{name, begin}},
		choice(0, leaf, text("a")), choice(1, list(leaf)), choice(2, text("a")), choice(0, leaf, api.Ber{}),
	}
	for class := range uint8(255) {
		if class == 2 {
			continue
		}
		l = append(l, single(class, 7, "a"), api.Ber{Class: class, Cons: true, Items: []api.Ber{leaf}}, api.Ber{Class: class, Num: 3, Cons: true, Items: []api.Ber{name, text("x")}}, api.Ber{Class: class, Num: 4, Cons: true, Items: []api.Ber{name, begin}}, api.Ber{Class: class, Num: 2, Cons: true, Items: []api.Ber{leaf}})
	}
	for num := 5; num < 256; num++ {
		if num == 7 {
			continue
		}
		l = append(l, single(2, uint8(num), "a"), choice(uint8(num)), choice(uint8(num), leaf), choice(uint8(num), name, text("x")), choice(uint8(num), name, begin))
	}
	for num := range uint8(5) {
		l = append(l, single(2, num, "a"))
	}
	for _, one := range []api.Ber{single(1, 4, "cn"), single(2, 4, "cn"), single(0, 3, "cn"), single(0, 12, "cn"), {Num: 4, Cons: true}, {Num: 4, Cons: true, Bytes: []byte("cn")}, {Num: 4, Bytes: []byte("cn"), Items: []api.Ber{{}}}, {Num: 4, Cons: true, Items: []api.Ber{text("cn")}}} {
		l = append(l, choice(3, one, text("x")), choice(3, name, one), choice(4, one, begin), choice(4, name, list(one)))
	}
	return l
}

func TestValuesOfNoFilter(t *testing.T) { // P8.2
	leaf := single(2, 7, "a")
	for _, v := range badValues() {
		isNoValue(t, v)
		for num := range uint8(3) {
			isNoValue(t, choice(num, v))
		}
		isNoValue(t, choice(0, leaf, v))
		isNoValue(t, choice(1, v, leaf))
		isNoValue(t, choice(2, choice(0, leaf, v, leaf)))
	}
	for _, name := range badNames() {
		isNoValue(t, plainValue(has(name)))
		isNoValue(t, plainValue(eq(name, "x")))
		isNoValue(t, plainValue(begin(name, "x")))
	}
	for _, f := range badFilters() {
		if saysAll(f) {
			isNoValue(t, plainValue(f))
		}
	}
}

// saysAll tells whether a filter's value says all that it is.
func saysAll(f api.Filter) bool {
	isGroup := f.Kind >= 1 && f.Kind <= 3 && f.Name == "" && f.Value == ""
	isLeaf := f.Kind >= 4 && f.Kind <= 6 && len(f.Of) == 0 && (f.Kind < 6 || f.Value == "")
	return (isGroup || isLeaf) && !slices.ContainsFunc(f.Of, func(one api.Filter) bool { return !saysAll(one) })
}

func TestBoundsOfValues(t *testing.T) { // P8.2
	for num := range uint8(3) {
		for depth := range 20 {
			for _, f := range []api.Filter{eq("a", "x"), begin("a", "x"), has("a"), and()} {
				v := plainValue(f)
				for range depth {
					v = choice(num, v)
				}
				if depth > 15 {
					isNoValue(t, v)
					continue
				}
				isValue(t, v, deep(f, depth+1, []func(...api.Filter) api.Filter{and, or, not}[num]))
			}
		}
		v := single(2, 7, "a")
		for range 1 << 20 {
			v = choice(num, v)
		}
		_, no := filter.Of(v)
		is(t, "Of of a deep one", no, api.ErrFilter)
		for _, around := range []func(api.Ber) api.Ber{
			func(v api.Ber) api.Ber { return choice(3, text("cn"), v) }, func(v api.Ber) api.Ber { return choice(3, v, text("x")) },
			func(v api.Ber) api.Ber { return choice(4, text("cn"), list(v)) }, func(v api.Ber) api.Ber { return choice(4, text("cn"), v) },
			func(v api.Ber) api.Ber { return choice(7, v) }, func(v api.Ber) api.Ber { return choice(3, text("cn"), text("x"), v) },
			func(v api.Ber) api.Ber { return choice(9, v) }, func(v api.Ber) api.Ber { return list(v) },
		} {
			_, no = filter.Of(around(v))
			is(t, "Of of one with a deep one in it", no, api.ErrFilter)
		}
	}
	leaf := single(2, 7, "a")
	isValue(t, choice(0, slices.Repeat([]api.Ber{leaf}, 199)...), and(slices.Repeat([]api.Filter{has("a")}, 199)...))
	for _, many := range []int{200, 201, 1 << 18} {
		_, no := filter.Of(choice(1, slices.Repeat([]api.Ber{leaf}, many)...))
		is(t, "Of of many", no, api.ErrFilter)
	}
	isNoValue(t, choice(2, choice(0, slices.Repeat([]api.Ber{leaf}, 199)...)))
}

// How those values are told that no filters are in.
var (
	leafValue = regexp.MustCompile(`\A2 (3 true "" \[0 4 false "(.*)" \[\];0 4 false "(.*)" \[\];\]|4 true "" \[0 4 false "(.*)" \[\];0 16 true "" \[2 0 false "(.*)" \[\];\];\]|7 false "(.*)" \[\])\z`)
	smallName = regexp.MustCompile(`\A[a-z][a-z0-9-]{0,63}\z`)
)

// plainOf tells the filter of a value, and whether it is one's, by how all that is in it is told.
func plainOf(v api.Ber) (api.Filter, bool) {
	for _, f := range []api.Filter{and(), or(), not()} {
		if v.Num != uint8(f.Kind)-1 || v.Class != 2 || !v.Cons || len(v.Bytes) > 0 {
			continue
		}
		for _, item := range v.Items {
			one, is := plainOf(item)
			if !is {
				return api.Filter{}, false
			}
			f.Of = append(f.Of, one)
		}
		return f, withinBounds(f)
	}
	parts := leafValue.FindStringSubmatch(plainBer(v))
	if parts == nil {
		return api.Filter{}, false
	}
	for i := 2; i < len(parts); i++ {
		parts[i], _ = strconv.Unquote(`"` + parts[i] + `"`)
	}
	f := eq(small(parts[2]), parts[3])
	switch v.Num {
	case 4:
		f = begin(small(parts[4]), parts[5])
	case 7:
		f = has(small(parts[6]))
	}
	return f, smallName.MatchString(f.Name) && withinBounds(f)
}

// changed tells a value with something in it other, as it falls.
func changed(r *rand.Rand, v api.Ber) api.Ber {
	if len(v.Items) > 0 && r.Intn(3) > 0 {
		v.Items = slices.Clone(v.Items)
		i := r.Intn(len(v.Items))
		v.Items[i] = changed(r, v.Items[i])
		return v
	}
	switch r.Intn(8) {
	case 0:
		v.Class = randomOf[uint8](r, 0, 1, 2, 3)
	case 1, 2:
		v.Num = randomOf[uint8](r, 0, 1, 2, 3, 4, 7, 16)
	case 3:
		v.Cons = !v.Cons
	case 4:
		v.Bytes = []byte(randomOf(r, "", "a", "A", "a-b", "1"))
	case 5:
		v.Items = append(slices.Clone(v.Items), plainValue(randomFilter(r, 2)))
	case 6:
		v.Items = append(slices.Clone(v.Items), text("a"))
	case 7:
		v.Items = slices.Clone(v.Items[:len(v.Items)/2])
	}
	return v
}

func TestManyValues(t *testing.T) { // P8.2, P8.3
	r := rand.New(rand.NewSource(2))
	good := 0
	for range 10000 {
		f := randomFilter(r, 1+r.Intn(4))
		v, no := filter.Value(f)
		is(t, "Value", no, api.OK)
		is(t, "Value", plainBer(v), plainBer(plainValue(f)))
		isValue(t, v, withNames(f, small))
		for range 3 {
			v = changed(r, v)
			want, may := plainOf(v)
			if !may {
				isNoValue(t, v)
				continue
			}
			isValue(t, v, want)
			good++
		}
	}
	is(t, "some were a filter's value", good > 1000, true)
}

func TestMeans(t *testing.T) { // P8.1
	e := api.Entry{attr("cn", "Ann B", "annb"), attr("mail", "A@B.c"), attr("x-1", "Ä", "\xff")}
	for _, f := range []api.Filter{
		and(), not(or()), eq("cn", "Ann B"), eq("cn", "annb"), eq("cn", "ANN b"), eq("CN", "ann B"), eq("mail", "a@b.C"), eq("x-1", "Ä"), eq("x-1", "\xff"),
		begin("cn", "A"), begin("cn", "ann"), begin("cn", "ANN "), begin("Cn", "aNNb"), begin("cn", "Ann B"), begin("x-1", "\xc3"), begin("mail", "a@"), begin("x-1", "\xff"),
		has("cn"), has("Mail"), has("X-1"), and(has("cn"), has("mail")), or(has("sn"), has("cn")), or(has("cn"), has("sn")), and(eq("cn", "annb"), begin("cn", "ann ")),
		not(has("sn")), not(eq("cn", "ann")), not(and(has("cn"), has("sn"))), not(not(has("cn"))), and(and(), not(or())), or(or(), and()),
		deep(has("cn"), 15, not), deep(has("sn"), 14, not),
	} {
		isMeant(t, true, api.OK, f, e)
		isMeant(t, false, api.OK, not(f), e)
	}
	for _, f := range []api.Filter{
		or(), not(and()), eq("cn", "ann"), eq("cn", "ann b "), eq("cn", "Ann Bx"), eq("sn", "annb"), eq("mail", "annb"), eq("cn", "*"), eq("cn", "ann*"), eq("x-1", "ä"), eq("x-1", "\xfe"), eq("x-1", "\xdf"),
		begin("cn", "b"), begin("cn", "nn"), begin("cn", "annbx"), begin("cn", "Ann B "), begin("mail", "b"), begin("x-1", "\xe3"), begin("x-1", "ä"), begin("sn", "a"),
		has("sn"), has("c"), has("cnn"), has("x"), has("x-"), and(has("cn"), has("sn")), and(has("sn"), has("cn")), or(has("sn"), has("c")), or(not(has("cn")), or()), and(or()), not(has("cn")), not(eq("cn", "ANNB")),
		deep(has("cn"), 14, not), deep(has("sn"), 15, not),
	} {
		isMeant(t, false, api.OK, f, e)
		isMeant(t, true, api.OK, not(f), e)
	}
	isMeant(t, false, api.OK, deep(has("cn"), 16, not), e)
	isMeant(t, true, api.OK, deep(has("sn"), 16, not), e)
	isMeant(t, false, api.OK, has("cn"), nil)
	isMeant(t, false, api.OK, begin("cn", "a"), api.Entry{})
	isMeant(t, true, api.OK, and(not(has("cn")), not(eq("cn", "a"))), nil)
	isMeant(t, true, api.OK, begin("a", strings.Repeat("X", 2048)), api.Entry{attr("a", strings.Repeat("x", 2048))})
	isMeant(t, false, api.OK, begin("a", strings.Repeat("x", 2048)), api.Entry{attr("a", strings.Repeat("x", 2047))})
	isMeant(t, true, api.OK, eq("a", "V000015"), api.Entry{attr("a", numbered("v", 16)...)})
}

func TestEveryByteIsAlikeItselfOrALetter(t *testing.T) { // P8.1
	for n := range 256 {
		for m := range 256 {
			a, b := string([]byte{byte(n)}), string([]byte{byte(m)})
			want := small(a) == small(b)
			isMeant(t, want, api.OK, eq("cn", a), api.Entry{attr("cn", b)})
			isMeant(t, want, api.OK, begin("cn", "x"+a), api.Entry{attr("cn", "X"+b+"y")})
		}
	}
}

func TestMeansWithMore(t *testing.T) { // P8.1
	e := api.Entry{attr("cn", "a", "b"), attr("sn", "x")}
	csn := attr("csn", "7")
	isMeant(t, true, api.OK, eq("csn", "7"), e, csn)
	isMeant(t, true, api.OK, eq("CSN", "7"), nil, csn)
	isMeant(t, false, api.OK, eq("csn", "8"), e, csn)
	isMeant(t, false, api.OK, eq("csn", "7"), e)
	isMeant(t, true, api.OK, has("csn"), e, csn)
	isMeant(t, true, api.OK, and(eq("cn", "a"), begin("sn", "x"), has("csn")), e, csn)
	// They stand in the place of its own, which count no more.
	isMeant(t, true, api.OK, eq("cn", "c"), e, attr("cn", "c"))
	isMeant(t, false, api.OK, eq("cn", "a"), e, attr("cn", "c"))
	isMeant(t, false, api.OK, begin("cn", "b"), e, attr("cn", "c"))
	isMeant(t, true, api.OK, has("cn"), e, attr("cn", "c"))
	isMeant(t, true, api.OK, eq("sn", "x"), e, attr("cn", "c"))
	// In whatever order, and however many.
	isMeant(t, true, api.OK, and(eq("z", "1"), eq("a", "2"), eq("cn", "3"), eq("sn", "X")), e, attr("z", "1"), attr("cn", "3"), attr("a", "2"))
	isMeant(t, true, api.OK, and(has("a000000"), has("a000023"), has("b000000"), has("b000999")), wide("a", 24), wide("b", 1000)...)
	isMeant(t, true, api.OK, eq("cn", "V000015"), nil, attr("cn", numbered("v", 16)...))
	many := wide("b", 1<<16)
	slices.Reverse(many)
	isMeant(t, true, api.OK, and(has("b000000"), has("b065535"), not(has("b065536")), has("a000003")), wide("a", 24), many...)
	isMeant(t, false, api.ErrArg, and(), nil, append(many, attr("b000007", "w"))...)
}

// badAttrs are attributes that may be in no entry.
func badAttrs() []api.Attr {
	l := []api.Attr{
		{}, attr("cn"), {Name: "cn", Values: []string{}}, attr("CN", "x"), attr("cN", "x"), attr("cn", "b", "a"), attr("cn", "a", "a"), attr("cn", "2", "10"), attr("cn", "a", "B"),
		attr("cn", ""), attr("cn", "", "x"), attr("cn", strings.Repeat("x", 2049)), attr("cn", numbered("v", 17)...),
	}
	for _, name := range badNames() {
		l = append(l, attr(name, "x"))
	}
	return l
}

func TestMeansOfWhatMayNotBe(t *testing.T) { // P8.1
	some, other := attr("a", "x"), attr("zz", "x")
	for _, a := range badAttrs() {
		for _, f := range []api.Filter{and(), or(), has("a"), not(has("b")), eq("cn", "x")} {
			isMeant(t, false, api.ErrArg, f, api.Entry{a})
			isMeant(t, false, api.ErrArg, f, api.Entry{some, a})
			isMeant(t, false, api.ErrArg, f, api.Entry{a, other})
			isMeant(t, false, api.ErrArg, f, nil, a)
			isMeant(t, false, api.ErrArg, f, api.Entry{some}, a)
			isMeant(t, false, api.ErrArg, f, api.Entry{some}, some, a)
			isMeant(t, false, api.ErrArg, f, api.Entry{some}, a, other)
		}
	}
	for _, e := range []api.Entry{{other, some}, {some, some}, wide("a", 25)} {
		isMeant(t, false, api.ErrArg, and(), e)
		isMeant(t, false, api.ErrArg, and(), e, attr("a", "y"), attr("cn", "x"))
	}
	for _, more := range [][]api.Attr{{some, some}, {some, attr("a", "y")}, {some, other, some}, {other, some, other}, {some, attr("b", "x"), attr("c", "x"), attr("b", "y")}} {
		isMeant(t, false, api.ErrArg, and(), nil, more...)
		isMeant(t, false, api.ErrArg, has("a"), api.Entry{some}, more...)
	}
}

// plainMeans tells whether an entry is meant, as the chapter's 'Words' say it, of attributes by their Names.
func plainMeans(f api.Filter, attrs map[string][]string) bool {
	switch f.Kind {
	case 1:
		for _, one := range f.Of {
			if !plainMeans(one, attrs) {
				return false
			}
		}
		return true
	case 2:
		for _, one := range f.Of {
			if plainMeans(one, attrs) {
				return true
			}
		}
		return false
	case 3:
		return !plainMeans(f.Of[0], attrs)
	}
	for _, v := range attrs[small(f.Name)] {
		v, want := small(v), small(f.Value)
		if f.Kind == 6 || (f.Kind == 4 && v == want) || (f.Kind == 5 && len(v) >= len(want) && v[:len(want)] == want) {
			return true
		}
	}
	return false
}

// randomAttrs tells attributes that make an entry.
func randomAttrs(r *rand.Rand) []api.Attr {
	var l []api.Attr
	for _, name := range []string{"a", "a-1", "ab", "b", "cn"} {
		var values []string
		for range r.Intn(4) {
			v := ""
			for range 1 + r.Intn(3) {
				v += randomOf(r, "a", "b", "A", "B", "\xff", "*", "\xc4", "\xe4", "@", "`", "[", "{", " ")
			}
			values = append(values, v)
		}
		slices.Sort(values)
		if len(values) > 0 {
			l = append(l, attr(name, slices.Compact(values)...))
		}
	}
	return l
}

func TestManyMeanings(t *testing.T) { // P8.1, P8.3
	r := rand.New(rand.NewSource(3))
	answers := map[bool]int{}
	for range 50000 {
		e := api.Entry(randomAttrs(r))
		more := randomAttrs(r)
		more = more[:r.Intn(len(more)+1)]
		r.Shuffle(len(more), func(i, j int) { more[i], more[j] = more[j], more[i] })
		attrs := map[string][]string{}
		for _, a := range append(slices.Clone([]api.Attr(e)), more...) {
			attrs[a.Name] = a.Values
		}
		f := randomFilter(r, 1+r.Intn(4))
		want := plainMeans(f, attrs)
		isMeant(t, want, api.OK, f, e, more...)
		isMeant(t, !want, api.OK, not(f), e, more...)
		answers[want]++
	}
	is(t, "some were meant, some not", answers[true] > 1000 && answers[false] > 1000, true)
}

func TestSame(t *testing.T) { // P8.2
	r := rand.New(rand.NewSource(4))
	all := []api.Filter{{}, {Kind: 7}, {Kind: -1}, {Kind: 1 << 32}, {Name: "a"}, {Value: "a"}, {Kind: 6, Name: "a", Value: "x"}, {Kind: 4, Name: "a", Value: "x", Of: []api.Filter{{}}}, not(), not(has("a"), has("b")), eq("", ""), eq("Ä", "x"), eq("ä", "x"), eq("\xc1", "x"), eq("\xe1", "x"), deep(has("a"), 17, not), deep(has("a"), 18, not)}
	for i, f := range goodFilters() {
		if i < 50 {
			all = append(all, f, withNames(f, great))
		}
	}
	for range 50 {
		all = append(all, randomFilter(r, 3))
	}
	for _, a := range all {
		for _, b := range all {
			want := plain(withNames(a, small)) == plain(withNames(b, small))
			if filter.Same(a, b) != want {
				t.Errorf("Same of %s and %s: %v", short(plain(a)), short(plain(b)), !want)
			}
		}
	}
	is(t, "Same of none", filter.Same(and(), api.Filter{Kind: 1, Of: []api.Filter{}}), true)
	for _, f := range []api.Filter{and(has("b"), has("a")), and(has("a")), and(has("a"), has("b"), has("b")), or(has("a"), has("b")), and(has("a"), eq("b", "x")), and(has("a"), has("c")), and(eq("a", "b"), has("b"))} {
		is(t, "Same of "+plain(f), filter.Same(and(has("a"), has("b")), f), false)
		is(t, "Same of "+plain(f)+", turned", filter.Same(f, and(has("a"), has("b"))), false)
	}
	is(t, "Same of Values", filter.Same(eq("a", "x"), eq("a", "X")), false)
	is(t, "Same of Names", filter.Same(eq("aZ-1", "x"), eq("Az-1", "x")), true)
}

func TestHugeArguments(t *testing.T) { // P8.1, P8.2
	f, g := has("a"), has("b")
	for range 1 << 20 {
		f, g = not(f), not(g)
	}
	is(t, "Same of deep ones", filter.Same(f, f), true)
	is(t, "Same of unlike deep ones", filter.Same(f, g), false)
	is(t, "Check of a deep one", filter.Check(f), api.ErrArg)
	_, no := filter.Means(f, nil)
	is(t, "Means of a deep one", no, api.ErrArg)
	_, no = filter.Text(f)
	is(t, "Text of a deep one", no, api.ErrArg)
	_, no = filter.Value(f)
	is(t, "Value of a deep one", no, api.ErrArg)
	many := slices.Repeat([]api.Filter{has("a")}, 1<<20)
	for _, kind := range []api.FilterKind{0, 1, 2, 3, 4, 5, 6, 7} {
		is(t, "Check of a wide one", filter.Check(api.Filter{Kind: kind, Of: many}), api.ErrArg)
	}
	is(t, "Same of wide ones", filter.Same(and(many...), and(slices.Clone(many)...)), true)
	long := strings.Repeat("A", 1<<24)
	for _, f := range []api.Filter{eq(long, "x"), eq("a", long), begin(long, long), has(long), {Kind: 1, Name: long, Value: long}} {
		is(t, "Check of a long one", filter.Check(f), api.ErrArg)
		is(t, "Same of long ones", filter.Same(f, f), true)
	}
	for _, v := range []api.Ber{single(2, 7, long), choice(3, text(long), text("x")), choice(3, text("a"), text(long)), choice(0, slices.Repeat([]api.Ber{choice(0)}, 1<<20)...)} {
		_, no := filter.Of(v)
		is(t, "Of of a long one", no, api.ErrFilter)
	}
}

// withRoom tells the same filter with room behind all that is not nought.
func withRoom(f api.Filter) api.Filter {
	f.Of = append(slices.Clone(f.Of), eq("room", "behind"), eq("room", "behind"))[:len(f.Of)]
	for i := range f.Of {
		f.Of[i] = withRoom(f.Of[i])
	}
	if f.Kind > 3 {
		f.Of = f.Of[:0]
	}
	return f
}

// whole tells a filter and the room behind all.
func whole(f api.Filter) string {
	s := fmt.Sprintf("%d %q %q [", f.Kind, f.Name, f.Value)
	for i, one := range f.Of[:cap(f.Of)] {
		if i < len(f.Of) {
			s += whole(one) + ";"
		} else {
			s += plain(one) + "; "
		}
	}
	return s + "]"
}

// berWithRoom tells the same value with room behind all that is not nought.
func berWithRoom(v api.Ber) api.Ber {
	v.Bytes = append(slices.Clone(v.Bytes), "room"...)[:len(v.Bytes)]
	v.Items = append(slices.Clone(v.Items), text("room"), text("behind"))[:len(v.Items)]
	for i := range v.Items {
		v.Items[i] = berWithRoom(v.Items[i])
	}
	return v
}

// wholeBer tells a value and the room behind all.
func wholeBer(v api.Ber) string {
	s := fmt.Sprintf("%d %d %v %q [", v.Class, v.Num, v.Cons, v.Bytes[:cap(v.Bytes)])
	for i, item := range v.Items[:cap(v.Items)] {
		if i < len(v.Items) {
			s += wholeBer(item) + ";"
		} else {
			s += plainBer(item) + "; "
		}
	}
	return s + "]"
}

// someFilter is a filter of all Kinds, with great letters in Names.
func someFilter() api.Filter {
	return or(and(eq("CN", "Ann"), begin("cn", "A*")), not(and(has("MAIL"), or(), has("sn"))), eq("x", "\xff"))
}

func TestNothingHandedInIsChanged(t *testing.T) { // P8.1, P8.2
	f, g := withRoom(someFilter()), withRoom(not(has("a"), eq("", "")))
	e := append(api.Entry{attr("cn", "Ann", "B"), attr("mail", "m", "n")}, attr("room", "behind"))[:2]
	more := append([]api.Attr{attr("sn", "x", "y"), attr("cn", "z"), attr("a", "b")}, attr("room", "behind"))[:3]
	v := berWithRoom(plainValue(someFilter()))
	bad := berWithRoom(choice(0, single(2, 7, "MAIL"), text("x")))
	tell := func() string {
		return whole(f) + whole(g) + fmt.Sprintf("%q %q", e[:cap(e)], more[:cap(more)]) + wholeBer(v) + wholeBer(bad)
	}
	was := tell()
	for _, f := range []api.Filter{f, g} {
		filter.Check(f)
		filter.Means(f, e, more...)
		filter.Means(f, e, more[0], more[1], more[1])
		filter.Text(f)
		filter.Value(f)
	}
	filter.Of(v)
	filter.Of(bad)
	filter.Same(f, g)
	filter.Same(f, withNames(f, small))
	is(t, "what was handed in", tell(), was)
}

// scribble writes over a filter, and over the room behind all.
func scribble(f api.Filter) {
	for i := range f.Of {
		scribble(f.Of[i])
	}
	for i := range f.Of[:cap(f.Of)] {
		f.Of[:cap(f.Of)][i] = eq("scribbled", "over")
	}
}

// scribbleBer writes over a value, and over the room behind all.
func scribbleBer(v api.Ber) {
	for i := range v.Items {
		scribbleBer(v.Items[i])
	}
	for i := range v.Bytes[:cap(v.Bytes)] {
		v.Bytes[:cap(v.Bytes)][i] = 'S'
	}
	for i := range v.Items[:cap(v.Items)] {
		v.Items[:cap(v.Items)][i] = text("scribbled")
	}
}

func TestAnswersAreNewMemory(t *testing.T) { // P8.2
	f := withRoom(someFilter())
	v := berWithRoom(plainValue(f))
	was, wasBer := whole(f), wholeBer(v)
	s, _ := filter.Text(f)
	for what, call := range map[string]func() api.Filter{
		"Parse": func() api.Filter { x, _ := filter.Parse(s); return x },
		"Of":    func() api.Filter { x, _ := filter.Of(v); return x },
	} {
		answer, other := call(), call()
		want := plain(answer)
		for i := range answer.Of { // within itself, one part after the other
			before := plain(api.Filter{Of: append(slices.Clone(answer.Of[:i]), answer.Of[i+1:]...)})
			scribble(answer.Of[i])
			is(t, what+": other parts", plain(api.Filter{Of: append(slices.Clone(answer.Of[:i]), answer.Of[i+1:]...)}), before)
		}
		scribble(answer)
		is(t, what+": another answer", plain(other), want)
		is(t, what+": once more", plain(call()), want)
		is(t, what+": what was handed in", wholeBer(v), wasBer)
	}
	answer, _ := filter.Value(f)
	other, _ := filter.Value(f)
	want := plainBer(answer)
	for i := range answer.Items {
		before := plainBer(api.Ber{Items: append(slices.Clone(answer.Items[:i]), answer.Items[i+1:]...)})
		scribbleBer(answer.Items[i])
		is(t, "Value: other parts", plainBer(api.Ber{Items: append(slices.Clone(answer.Items[:i]), answer.Items[i+1:]...)}), before)
	}
	scribbleBer(answer)
	is(t, "Value: another answer", plainBer(other), want)
	is(t, "Value: what was handed in", whole(f), was)
}

func TestAnswersKeepNothing(t *testing.T) { // P8.2
	f := withRoom(someFilter())
	v := berWithRoom(plainValue(f))
	read, _ := filter.Of(v)
	made, _ := filter.Value(f)
	was := plain(read) + plainBer(made)
	scribble(f)
	scribbleBer(v)
	is(t, "answers, what was handed in being written over", plain(read)+plainBer(made), was)
}

func TestExamples(t *testing.T) { // P8.1, P8.2, P8.3
	isText(t, "(&(cn=A*)(!(mail=*)))", and(begin("cn", "A"), not(has("mail"))))
	s, no := filter.Text(eq("cn", "a*b"))
	is(t, "Text", no, api.OK)
	is(t, "Text", s, `(cn=a\2ab)`)
	for _, s := range []string{"(cn=a**)", "(!(a=b)(c=d))", "cn=a"} {
		isNoText(t, s)
	}
	f, _ := filter.Parse("(&(cn=A*)(!(mail=*)))")
	isMeant(t, true, api.OK, f, api.Entry{attr("cn", "ann")})
	isMeant(t, false, api.OK, f, api.Entry{attr("cn", "ann"), attr("mail", "m")})
	isMeant(t, false, api.OK, f, api.Entry{attr("cn", "bob")})
}
