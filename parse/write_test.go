package parse_test

import (
	"math"
	"reflect"
	"slices"
	"strconv"
	"strings"
	"testing"

	"hindsight/api"
	"hindsight/parse"
	"hindsight/syntax"
)

func TestP21_2Known(t *testing.T) {
	for _, k := range knownAll() {
		if s := parse.Write(k.x); s != k.text {
			t.Errorf("Write = %q, want %q", s, k.text)
		}
	}
}

// TestP21_2Empty has statements with lists that are empty but not nil.
func TestP21_2Empty(t *testing.T) {
	for _, k := range knownAll() {
		x := k.x
		if x.Kind == 7 {
			x.Items, x.Group, x.Order = append([]parse.Item{}, x.Items...), append(exprs{}, x.Group...), append([]parse.Sort{}, x.Order...)
		}
		if s := parse.Write(x); s != k.text {
			t.Errorf("Write = %q, want %q", s, k.text)
		}
	}
}

// made is a statement by chance, its text, and the words of another text of it.
func (c *chance) made() (statement, string, words) {
	b := &builder{chance: c}
	switch 1 + c.below(14) {
	case 1:
		b.create()
	case 2:
		b.x.Kind = 2
		b.say("drop table")
		b.x.Name = b.name()
	case 3:
		b.x.Kind = 3
		b.say("create index")
		b.x.Index = b.name()
		b.say("on")
		b.x.Name = b.name()
		b.say("(")
		b.x.Column = b.name()
		b.say(")")
	case 4:
		b.insert()
	case 5, 6:
		b.change()
	case 8, 9, 10:
		kind := 8 + c.below(3)
		b.x.Kind = kind
		b.say(words{"begin", "commit", "rollback"}[kind-8])
	case 11, 12, 13:
		kind := 11 + c.below(3)
		b.x.Kind = kind
		b.say(words{"savepoint", "rollback to", "release"}[kind-11])
		b.x.Name = b.name()
	case 14:
		b.x.Kind = 14
		b.say("prune")
		b.x.Name = b.name()
		b.say("to")
		b.x.PTo = b.e(0)
	default:
		b.query()
	}
	if c.is() {
		b.loose = append(b.loose, ";")
	}
	text := strings.Join(b.text, " ")
	for _, r := range [][2]string{{"( ", "("}, {" )", ")"}, {" ,", ","}} {
		text = strings.ReplaceAll(text, r[0], r[1])
	}
	for i, e := range b.exprs {
		text = strings.Replace(text, hole(i), leaf(e), 1)
	}
	return b.x, text, b.loose
}

// builder makes a statement and the words of two texts of it at once; those of Write have holes in place of expressions.
type builder struct {
	*chance
	x           statement
	text, loose words
	exprs       exprs
}

func hole(i int) string { return "<" + strconv.Itoa(i) + ">" }

func (b *builder) say(s string) {
	b.text = append(b.text, strings.Fields(s)...)
	b.loose = append(b.loose, strings.Fields(s)...)
}

func (b *builder) name() string {
	s := b.of(words{"t", "u", "a", "b", "all", "overlaps", "count", "_1"})
	b.say(s)
	return s
}

// e is an expression of that level of the grammar.
func (b *builder) e(level int) expr {
	e := b.expr(1 + b.below(4))
	b.text = append(b.text, hole(len(b.exprs)))
	b.exprs = append(b.exprs, e)
	b.loose = append(b.loose, b.show(e, level)...)
	return e
}

// some calls do once or more, with commas between.
func (b *builder) some(do func()) {
	for i := range 1 + b.below(3) {
		if i > 0 {
			b.say(",")
		}
		do()
	}
}

// maybe says the words, if it comes so.
func (b *builder) maybe(s string) bool {
	said := b.is()
	if said {
		b.say(s)
	}
	return said
}

func (b *builder) create() {
	b.x.Kind = 1
	b.say("create table")
	b.x.Name = b.name()
	b.say("(")
	b.some(func() {
		kind := 1 + b.below(3)
		c := parse.Column{Name: b.name(), Type: uint8(kind)}
		b.say(words{"int", "text", "blob"}[kind-1])
		c.NotNull = b.maybe("not null")
		b.x.Columns = append(b.x.Columns, c)
	})
	b.say(", primary key (")
	b.some(func() { b.x.Key = append(b.x.Key, b.name()) })
	b.say(")")
	if b.maybe(", period") {
		b.x.Period = b.name()
		b.say("(")
		b.x.From = b.name()
		b.say(",")
		b.x.To = b.name()
		b.say(")")
		b.x.Apart = b.maybe(", without overlaps")
	}
	b.say(")")
	b.x.Versioned = b.maybe("versioned")
}

func (b *builder) insert() {
	b.x.Kind = 4
	b.say("insert into")
	b.x.Name = b.name()
	b.say("values")
	b.some(func() {
		var row exprs
		b.say("(")
		b.some(func() { row = append(row, b.e(0)) })
		b.say(")")
		b.x.Rows = append(b.x.Rows, row)
	})
}

// change is an update or a delete.
func (b *builder) change() {
	b.x.Kind = 5 + b.below(2)
	b.say(words{"update", "delete from"}[b.x.Kind-5])
	b.x.Name = b.name()
	if b.maybe("for portion of") {
		b.x.Period = b.name()
		b.say("from")
		b.x.PFrom = b.e(0)
		b.say("to")
		b.x.PTo = b.e(0)
	}
	if b.x.Kind == 5 {
		b.say("set")
		b.some(func() {
			s := parse.Set{Name: b.name()}
			b.say("=")
			s.E = b.e(0)
			b.x.Sets = append(b.x.Sets, s)
		})
	}
	if b.maybe("where") {
		b.x.Where = b.e(0)
	}
}

func (b *builder) query() {
	b.x.Kind = 7
	b.say("select")
	b.x.Distinct = b.maybe("distinct")
	if !b.maybe("*") {
		b.some(func() { b.x.Items = append(b.x.Items, parse.Item{E: b.e(0), As: b.alias()}) })
	}
	b.say("from")
	b.x.Sources = append(b.x.Sources, b.source())
	for b.maybe("join") {
		s := b.source()
		b.say("on")
		s.On = b.e(0)
		b.x.Sources = append(b.x.Sources, s)
	}
	if b.maybe("where") {
		b.x.Where = b.e(0)
	}
	if b.maybe("group by") {
		b.some(func() { b.x.Group = append(b.x.Group, b.e(0)) })
	}
	if b.maybe("order by") {
		b.some(func() {
			s := parse.Sort{E: b.e(0), Desc: b.maybe("desc")}
			if !s.Desc && b.is() {
				b.loose = append(b.loose, "asc")
			}
			b.x.Order = append(b.x.Order, s)
		})
	}
	if b.maybe("limit") {
		b.x.Limit = b.e(0)
	}
}

func (b *builder) alias() string {
	if b.maybe("as") {
		return b.name()
	}
	return ""
}

func (b *builder) source() parse.Source {
	s := parse.Source{Name: b.name()}
	if b.maybe("for system_time") {
		s.View = 1 + b.below(4)
		b.say(words{"as of", "from", "between", "all"}[s.View-1])
		if s.View < 4 {
			s.A = b.e(5)
		}
		if s.View == 2 || s.View == 3 {
			b.say(words{"to", "and"}[s.View-2])
			s.B = b.e(5)
		}
	}
	s.As = b.alias()
	return s
}

// TestP21_2Made has statements by chance: their texts, and other texts, with what those leave open as it comes.
func TestP21_2Made(t *testing.T) {
	next := chance(5)
	kinds := map[int]int{}
	for range 20000 {
		x, text, loose := next.made()
		if s := parse.Write(x); s != text {
			t.Fatalf("Write = %s, want %s", s, text)
		}
		s, _ := next.laid(loose)
		if len(s) > 4096 || len(text) > 4096 {
			continue
		}
		kinds[x.Kind]++
		for _, s := range []string{s, text} {
			if got := read(t, s); !reflect.DeepEqual(got, x) {
				t.Fatalf("Read(%s) = %+v, want %+v", s, got, x)
			}
		}
	}
	for kind := 1; kind <= 14; kind++ {
		if kinds[kind] < 300 {
			t.Errorf("only %d statements of kind %d", kinds[kind], kind)
		}
	}
}

// expressionsOf is all expressions of x.
func expressionsOf(x statement) exprs {
	l := exprs{x.PFrom, x.PTo, x.Where, x.Limit}
	l = slices.Concat(l, x.Group, slices.Concat(x.Rows...))
	for _, s := range x.Sets {
		l = append(l, s.E)
	}
	for _, i := range x.Items {
		l = append(l, i.E)
	}
	for _, s := range x.Sources {
		l = append(l, s.A, s.B, s.On)
	}
	for _, s := range x.Order {
		l = append(l, s.E)
	}
	return slices.DeleteFunc(l, func(e expr) bool { return reflect.DeepEqual(e, expr{}) })
}

// TestP21_3 holds that what was read, written and read again is the same, and that its expressions are valid.
func TestP21_3(t *testing.T) {
	next := chance(8)
	texts := words{
		strings.Replace("select ? from t", "?", strings.Repeat("-", 19)+"a", 1),
		"insert into t values (9223372036854775807, '''', x'00FF', '\u00e4\n', null, X'')",
		"select " + strings.Repeat("count(*), ", 300) + "1 from t",
		"insert into t values (1)" + strings.Repeat(",(1)", 900),
	}
	for range 2000 {
		_, _, loose := next.made()
		s, _ := next.laid(loose)
		if len(s) < 2000 {
			texts = append(texts, s)
		}
	}
	for _, s := range texts {
		x := read(t, s)
		for _, e := range expressionsOf(x) {
			if !syntax.Right(e) {
				t.Errorf("%s: %v is not right", s, e)
			}
		}
		text := parse.Write(x)
		if len(text) > 4096 {
			continue
		}
		if again := read(t, text); !reflect.DeepEqual(again, x) || parse.Write(again) != text {
			t.Errorf("%s became %s", s, parse.Write(again))
		}
	}
}

// TestP21_2Long has statements whose texts are longer than what can be read.
func TestP21_2Long(t *testing.T) {
	s := "select " + strings.Repeat("a+b*c,", 600) + "1 from t"
	if text := parse.Write(read(t, s)); text != "select "+strings.Repeat("(a + (b * c)), ", 600)+"1 from t" {
		t.Errorf("%.100s", text)
	}
	s = "insert into t values (1)" + strings.Repeat(",(1)", 1000)
	if text := parse.Write(read(t, s)); text != "insert into t values (1)"+strings.Repeat(", (1)", 1000) {
		t.Errorf("%.100s", text)
	}
}

// TestP1Write has statements that no text has.
func TestP1Write(t *testing.T) {
	endless := un("not", expr{})
	endless.Args[0] = endless
	wrong := exprs{{}, {Kind: 99}, number(-1), column("Select"), call("f"), un("-", expr{}), endless, {Kind: 4, Op: "+"}}
	for _, kind := range []int{math.MinInt, -1, 0, 15, 256 + 8, math.MaxInt} {
		if s := parse.Write(statement{Kind: kind, Name: "t"}); s != "" {
			t.Errorf("kind %d: %q", kind, s)
		}
	}
	for kind := range 16 {
		parse.Write(statement{Kind: kind})
		for _, e := range wrong {
			x := statement{
				Kind: kind, Name: "T (", Period: "''", Rows: [][]expr{{e}, nil}, PFrom: e, PTo: e, Where: e, Limit: e, Group: exprs{e}, Sets: []parse.Set{{E: e}}, Items: []parse.Item{{E: e}},
				Sources: []parse.Source{{View: kind, A: e, B: e, On: e}, {View: -1}}, Order: []parse.Sort{{E: e}}, Columns: []parse.Column{{Type: uint8(kind)}, {Type: 255}}, Key: words{"", "\xff"}, Apart: true, Versioned: true,
			}
			s := parse.Write(x)
			if strings.ContainsRune("\x04\x05\x06\x07\x0e", rune(kind)) && s != "" {
				t.Errorf("kind %d, %.100v: %q", kind, e, s)
			}
		}
	}
	one := column("a")
	for _, x := range []statement{
		{Kind: 1, Name: "t", Columns: []parse.Column{{Name: "a"}}, Key: words{"a"}},
		{Kind: 1, Name: "t", Columns: []parse.Column{{Name: "a", Type: 4}}, Key: words{"a"}},
		{Kind: 5, Name: "t", Sets: []parse.Set{{Name: "a"}}},
		{Kind: 5, Name: "t", Period: "p", PFrom: one, Sets: []parse.Set{{Name: "a", E: one}}},
		{Kind: 6, Name: "t", Period: "p", PTo: one},
		{Kind: 6, Name: "t", Where: number(-1)},
		{Kind: 7, Sources: []parse.Source{{Name: "t", View: 5}}},
		{Kind: 7, Sources: []parse.Source{{Name: "t", View: -1}}},
		{Kind: 7, Sources: []parse.Source{{Name: "t", View: 1}}},
		{Kind: 7, Sources: []parse.Source{{Name: "t", View: 2, A: one}}},
		{Kind: 7, Sources: []parse.Source{{Name: "t"}, {Name: "u"}}},
		{Kind: 14, Name: "t"},
	} {
		if s := parse.Write(x); s != "" {
			t.Errorf("Write(%+v) = %q", x, s)
		}
	}
}

// TestP1Memory holds that results share no memory with each other, and that arguments are left as they are.
func TestP1Memory(t *testing.T) {
	s := "select a, b as c from t join u on a = 1 where not a group by a, b order by a, b desc limit 1"
	x, y := read(t, s), read(t, s)
	before := parse.Write(y)
	x.Items[0].E.Name = "z"
	x.Items[1].As = "z"
	x.Sources[1].On.Args[0].Name = "z"
	x.Where.Args[0].Name = "z"
	x.Group[0].Name = "z"
	x.Order[1].E.Name = "z"
	if parse.Write(y) != before || parse.Write(read(t, s)) != before || parse.Write(x) == before {
		t.Errorf("%s became %s", before, parse.Write(y))
	}
	insert := read(t, "insert into t values (1, 2), (3, 4)")
	_ = append(insert.Rows[0], number(5))
	if s := parse.Write(insert); s != "insert into t values (1, 2), (3, 4)" {
		t.Errorf("%s", s)
	}
	k := knownSelects()[14]
	x = k.x
	x.Sources = slices.Clip(x.Sources)
	if parse.Write(x) != k.text || !reflect.DeepEqual(x, k.x) {
		t.Errorf("%s changed", k.text)
	}
}

// TestP1Texts has texts of all sorts.
func TestP1Texts(t *testing.T) {
	next := chance(11)
	parts := strings.Fields("select from where ( ) , ; . * + - 'a' x'00' 1 null not is a t count for system_time as of to between and portion set = values insert into update delete create table index primary key period without overlaps \xff \u00e4 # ' || <= group by order limit desc begin rollback")
	for range 20000 {
		var l words
		for range next.below(12) {
			l = append(l, next.of(parts))
		}
		s := strings.Join(l, " ")
		x, f := parse.Read(s)
		if f.Code != api.OK && !reflect.DeepEqual(x, statement{}) || f.Code == api.OK && f.At != 0 || f.At < 0 || f.At > len(s) {
			t.Fatalf("Read(%s) = %v %v", s, x, f)
		}
		e, f := parse.ReadExpr(s)
		if f.Code != api.OK && !reflect.DeepEqual(e, expr{}) || f.Code == api.OK && f.At != 0 || f.At < 0 || f.At > len(s) {
			t.Fatalf("ReadExpr(%s) = %v %v", s, e, f)
		}
	}
}
