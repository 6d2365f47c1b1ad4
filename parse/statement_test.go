package parse_test

import (
	"reflect"
	"slices"
	"strings"
	"testing"

	"hindsight/api"
	"hindsight/parse"
	"hindsight/syntax"
)

// known is a statement, its text, and other texts of it.
type known struct {
	text   string
	x      statement
	others words
}

// knownTables have to do with tables.
func knownTables() []known {
	a, one := parse.Column{Name: "a", Type: 1}, column("a")
	nine := number(9)
	return []known{
		{"create table t (a int, primary key (a))", statement{Kind: 1, Name: "t", Columns: []parse.Column{a}, Key: words{"a"}}, words{"CREATE TABLE T(A INT,PRIMARY KEY(A));", "create\ntable t ( a int , primary key ( a ) ) ;"}},
		{"create table t (a int not null, b text, c blob not null, primary key (a, c)) versioned",
			statement{Kind: 1, Name: "t", Columns: []parse.Column{{Name: "a", Type: 1, NotNull: true}, {Name: "b", Type: 2}, {Name: "c", Type: 3, NotNull: true}}, Key: words{"a", "c"}, Versioned: true},
			words{"Create Table T (a Int Not Null,b Text,c Blob Not Null,Primary Key(a,c))Versioned;"}},
		{"create table t (a int, primary key (b), period p (f, g)) versioned", statement{Kind: 1, Name: "t", Columns: []parse.Column{a}, Key: words{"b"}, Period: "p", From: "f", To: "g", Versioned: true}, nil},
		{"create table t (a int, primary key (a), period p (f, g))", statement{Kind: 1, Name: "t", Columns: []parse.Column{a}, Key: words{"a"}, Period: "p", From: "f", To: "g"}, nil},
		{"create table t (a int, a int, primary key (a, a), period a (a, a), without overlaps)", statement{Kind: 1, Name: "t", Columns: []parse.Column{a, a}, Key: words{"a", "a"}, Period: "a", From: "a", To: "a", Apart: true}, words{"create table t(a int,a int,primary key(a,a),period a(a,a),WITHOUT OVERLAPS)"}},
		{"create table overlaps (all int, primary key (count), period all (overlaps, sys_from), without overlaps) versioned", statement{Kind: 1, Name: "overlaps", Columns: []parse.Column{{Name: "all", Type: 1}}, Key: words{"count"}, Period: "all", From: "overlaps", To: "sys_from", Apart: true, Versioned: true}, nil},
		{"drop table t", statement{Kind: 2, Name: "t"}, words{"DROP TABLE T;", " drop  table\tt ; "}},
		{"create index i on t (a)", statement{Kind: 3, Index: "i", Name: "t", Column: "a"}, words{"CREATE INDEX i ON t(a)", "create index I on T(A);"}},
		{"prune t to 9", statement{Kind: 14, Name: "t", PTo: nine}, words{"PRUNE T TO 9;"}},
		{"prune t to (9 or (not a))", statement{Kind: 14, Name: "t", PTo: bin(nine, "or", un("not", one))}, words{"prune t to 9 or not a"}},
	}
}

// knownTransactions have to do with transactions.
func knownTransactions() []known {
	return []known{
		{"begin", statement{Kind: 8}, words{"BEGIN;", "  Begin "}},
		{"commit", statement{Kind: 9}, words{"COMMIT ;"}},
		{"rollback", statement{Kind: 10}, words{"ROLLBACK;"}},
		{"savepoint s", statement{Kind: 11, Name: "s"}, words{"SavePoint S;"}},
		{"rollback to s", statement{Kind: 12, Name: "s"}, words{"ROLLBACK TO s;"}},
		{"release s", statement{Kind: 13, Name: "s"}, words{"RELEASE S;"}},
	}
}

// knownChanges have to do with rows.
func knownChanges() []known {
	a, b, one, two := column("a"), column("b"), number(1), number(2)
	return []known{
		{"insert into t values (1)", statement{Kind: 4, Name: "t", Rows: []exprs{{one}}}, words{"INSERT INTO t VALUES(1);"}},
		{"insert into t values (1, null, 'x'), ((1 + 2)), (x'00', a)", statement{Kind: 4, Name: "t", Rows: []exprs{{one, null(), text("x")}, {bin(one, "+", two)}, {blob("\x00"), a}}}, words{"insert into t values(1,null,'x'),(1+2),(X'00',a)", "insert into t values (1, null, 'x'), (((1 + 2))), (x'00', (a));"}},
		{"update t set a = 1", statement{Kind: 5, Name: "t", Sets: []parse.Set{{Name: "a", E: one}}}, words{"UPDATE t SET a=1;", "update t set a = (1)"}},
		{"update t set a = (a = 1), b = (2 or a) where (a and b)", statement{Kind: 5, Name: "t", Sets: []parse.Set{{Name: "a", E: bin(a, "=", one)}, {Name: "b", E: bin(two, "or", a)}}, Where: bin(a, "and", b)}, words{"update t set a=a=1,b=2 or a where a and b"}},
		{"update t for portion of p from 1 to 2 set a = 1 where b", statement{Kind: 5, Name: "t", Period: "p", PFrom: one, PTo: two, Sets: []parse.Set{{Name: "a", E: one}}, Where: b}, words{"update t for portion of p from 1 to 2 set a=1 where b;"}},
		{"update t for portion of p from (1 or a) to (b and 2) set a = 1", statement{Kind: 5, Name: "t", Period: "p", PFrom: bin(one, "or", a), PTo: bin(b, "and", two), Sets: []parse.Set{{Name: "a", E: one}}}, words{"update t for portion of p from 1 or a to b and 2 set a=1"}},
		{"delete from t", statement{Kind: 6, Name: "t"}, words{"DELETE FROM t;"}},
		{"delete from t where (a = 1)", statement{Kind: 6, Name: "t", Where: bin(a, "=", one)}, words{"delete from t where a = 1;", "delete from t where a=1"}},
		{"delete from t for portion of p from 1 to 2", statement{Kind: 6, Name: "t", Period: "p", PFrom: one, PTo: two}, nil},
		{"delete from t for portion of p from 1 to 2 where count(*)", statement{Kind: 6, Name: "t", Period: "p", PFrom: one, PTo: two, Where: call("count")}, nil},
	}
}

// knownSelects are selects with each of their parts.
func knownSelects() []known {
	a, b, one, two := column("a"), column("b"), number(1), number(2)
	items := []parse.Item{{E: a}}
	t := parse.Source{Name: "t"}
	from := func(l ...parse.Source) statement { return statement{Kind: 7, Items: items, Sources: l} }
	with := func(change func(x *statement)) statement {
		x := from(t)
		change(&x)
		return x
	}
	return []known{
		{"select * from t", statement{Kind: 7, Sources: []parse.Source{t}}, words{"SELECT*FROM t;"}},
		{"select distinct * from t", statement{Kind: 7, Distinct: true, Sources: []parse.Source{t}}, nil},
		{"select a from t", from(t), words{"select (a) from t"}},
		{"select distinct a as b, (1 + 2), count(*) as all from t", statement{Kind: 7, Distinct: true, Items: []parse.Item{{E: a, As: "b"}, {E: bin(one, "+", two)}, {E: call("count"), As: "all"}}, Sources: []parse.Source{t}}, words{"select distinct a AS b,1+2,COUNT(*)as all from t"}},
		{"select a from t as u", from(parse.Source{Name: "t", As: "u"}), nil},
		{"select a from t for system_time as of 1", from(parse.Source{Name: "t", View: 1, A: one}), words{"select a from t FOR SYSTEM_TIME AS OF 1"}},
		{"select a from t for system_time as of 1 as u", from(parse.Source{Name: "t", View: 1, A: one, As: "u"}), nil},
		{"select a from t for system_time as of (1 - a) where b", statement{Kind: 7, Items: items, Sources: []parse.Source{{Name: "t", View: 1, A: bin(one, "-", a)}}, Where: b}, words{"select a from t for system_time as of 1-a where b"}},
		{"select a from t for system_time from 1 to (2 * a)", from(parse.Source{Name: "t", View: 2, A: one, B: bin(two, "*", a)}), words{"select a from t for system_time from 1 to 2*a"}},
		{"select a from t for system_time from (a = b) to (not b) as u", from(parse.Source{Name: "t", View: 2, A: bin(a, "=", b), B: un("not", b), As: "u"}), nil},
		{"select a from t for system_time between 1 and 2", from(parse.Source{Name: "t", View: 3, A: one, B: two}), nil},
		{"select a from t for system_time between (1 + 2) and (- 2) as u", from(parse.Source{Name: "t", View: 3, A: bin(one, "+", two), B: un("-", two), As: "u"}), words{"select a from t for system_time between 1+2 and -2 as u"}},
		{"select a from t for system_time all", from(parse.Source{Name: "t", View: 4}), words{"select a from t for system_time ALL"}},
		{"select a from all for system_time all as all", from(parse.Source{Name: "all", View: 4, As: "all"}), nil},
		{"select a from t join u on a", from(t, parse.Source{Name: "u", On: a}), nil},
		{"select a from t as v join u for system_time as of 1 as w on (a = b) join t for system_time all on b",
			from(parse.Source{Name: "t", As: "v"}, parse.Source{Name: "u", View: 1, A: one, As: "w", On: bin(a, "=", b)}, parse.Source{Name: "t", View: 4, On: b}),
			words{"select a from t as v join u for system_time as of 1 as w on a = b join t for system_time all on b"}},
		{"select a from t where (a and b)", with(func(x *statement) { x.Where = bin(a, "and", b) }), words{"select a from t where a and b"}},
		{"select a from t group by b", with(func(x *statement) { x.Group = exprs{b} }), nil},
		{"select a from t group by b, (a + 1)", with(func(x *statement) { x.Group = exprs{b, bin(a, "+", one)} }), words{"select a from t group by b,a+1"}},
		{"select a from t order by b", with(func(x *statement) { x.Order = []parse.Sort{{E: b}} }), words{"select a from t order by b asc", "select a from t order by b ASC;"}},
		{"select a from t order by b desc", with(func(x *statement) { x.Order = []parse.Sort{{E: b, Desc: true}} }), nil},
		{"select a from t order by b, a desc, (a or b), 1 desc", with(func(x *statement) {
			x.Order = []parse.Sort{{E: b}, {E: a, Desc: true}, {E: bin(a, "or", b)}, {E: one, Desc: true}}
		}), words{"select a from t order by b asc, a desc, a or b asc, 1 desc"}},
		{"select a from t limit (1 + 2)", with(func(x *statement) { x.Limit = bin(one, "+", two) }), words{"select a from t limit 1+2"}},
		{"select a from t join u on 1 where 2 group by a order by b limit 1", statement{Kind: 7, Items: items, Sources: []parse.Source{t, {Name: "u", On: one}}, Where: two, Group: exprs{a}, Order: []parse.Sort{{E: b}}, Limit: one}, nil},
		{"select a from t group by b limit 2", with(func(x *statement) { x.Group, x.Limit = exprs{b}, two }), nil},
		{"select a from t where b order by (a is null) limit 2", with(func(x *statement) { x.Where, x.Order, x.Limit = b, []parse.Sort{{E: isNull(a, "is null")}}, two }), nil},
	}
}

func knownAll() []known {
	return slices.Concat(knownTables(), knownTransactions(), knownChanges(), knownSelects())
}

func TestP21_1Statements(t *testing.T) {
	for _, k := range knownAll() {
		for _, s := range append(words{k.text, k.text + ";", k.text + " ; "}, k.others...) {
			if x := read(t, s); !reflect.DeepEqual(x, k.x) {
				t.Errorf("Read(%q) = %+v, want %+v", s, x, k.x)
			}
		}
	}
}

// TestP21_1StatementWords has texts whose words are in upper case, with a blank between any two tokens or as few as there can be.
func TestP21_1StatementWords(t *testing.T) {
	for _, k := range knownAll() {
		upper := strings.ReplaceAll(strings.ToUpper(k.text), "'X'", "'x'")
		spread := upper
		for _, sign := range []string{"(", ")", ",", "*"} {
			spread = strings.ReplaceAll(spread, sign, "\t"+sign+"\n")
			upper = strings.ReplaceAll(upper, " "+sign, sign)
			upper = strings.ReplaceAll(upper, sign+" ", sign)
		}
		for _, s := range []string{upper, spread} {
			if x := read(t, s); !reflect.DeepEqual(x, k.x) {
				t.Errorf("Read(%q) = %+v, want %+v", s, x, k.x)
			}
		}
	}
}

// TestP21_1StatementsWrong has the offset of the first token at which parsing cannot continue, marked by @.
func TestP21_1StatementsWrong(t *testing.T) {
	const create = "create table t (a int, primary key (a)"
	for _, s := range []string{
		"@", " @", "@;", "@a", "@1", "@'begin'", "@(", "@table t", "@versioned", "@x'00'", "@all", "@prim t to 1",

		// The end, and what is behind it.
		"begin @begin", "begin;@;", "begin @,", "begin ;@begin", "commit @t", "rollback @s", "rollback to s @t", "savepoint s @1", "release s @)", "drop table t @,", "drop table t;@drop table u", "prune t to 1 @2", "prune t to 1;@1", "create index i on t (a) @versioned", create + ") versioned @versioned", create + ") @not null", "delete from t @t", "delete from t where a @group by a", "update t set a = 1 @limit 1", "insert into t values (1) @where a", "insert into t values (1) @(2)", "select a from t limit 1 @limit 2", "select a from t limit 1 @where a", "select a from t ;@;",

		// Names.
		"drop @t", "drop table @", "drop table @1", "drop table @'t'", "drop table @table", "drop table t@.a", "drop @index i", "savepoint @", "savepoint @select", "savepoint @1", "rollback to @", "rollback to @to", "release @", "release @savepoint s", "prune @to 1", "prune t @1", "prune t @", "prune t to @", "prune t to @;", "prune @1",

		// Tables.
		"create @", "create @t", "create @a table", "create table @", "create table @(a int)", "create table t @", "create table t @a int", "create table t (@", "create table t (@)", "create table t (@primary key (a))", "create table t (@1", "create table t (a @", "create table t (a @a", "create table t (a @not null", "create table t (a @integer", "create table t (a int @", "create table t (a int@)", "create table t (a int not @", "create table t (a int not @a", "create table t (a int @null", "create table t (a int not null @not null", "create table t (a int @primary key (a))", "create table t (a int @b int)", "create table t (a int, @", "create table t (a int, @)", "create table t (a int,@,", "create table t (a int, @int", "create table t (a int, @key (a))", "create table t (a int, @period p (a, b)", "create table t (@select int)",
		"create table t (a int, primary @", "create table t (a int, primary @(a)", "create table t (a int, primary key @", "create table t (a int, primary key @a", "create table t (a int, primary key (@)", "create table t (a int, primary key (@1)", "create table t (a int, primary key (a @int)", "create table t (a int, primary key (a@", "create table t (a int, primary key (a,@)",
		create + "@", create + " @primary key (a))", create + ",@", create + ",@)", create + ", @b int)", create + ", @primary key (a))", create + ", @without overlaps)", create + ", period @", create + ", period @(a, b))", create + ", period p @a", create + ", period p (@)", create + ", period p (a@)", create + ", period p (a,@)", create + ", period p (a @b)", create + ", period p (a, b@", create + ", period p (a, b@, c)", create + ", period p (a, b)@", create + ", period p (a, b) @without overlaps", create + ", period p (a, b), @", create + ", period p (a, b), @period q (c, d))", create + ", period p (a, b), @)", create + ", period p (a, b), without @", create + ", period p (a, b), without @)", create + ", period p (a, b), without @portion)", create + ", period p (a, b), without overlaps@", create + ", period p (a, b), without overlaps@,", create + ", period p (a, b), @overlaps)",
		"create index @", "create index @on t (a)", "create index i @", "create index i @t (a)", "create index i on @", "create index i on @(a)", "create index i on t @", "create index i on t @a", "create index i on t (@", "create index i on t (@)", "create index i on t (a@", "create index i on t (a@, b)", "create index i on t (@1)", "create index i on t (t@.a)",

		// Rows.
		"insert @", "insert @t", "insert into @", "insert into @values (1)", "insert into t @", "insert into t @(1)", "insert into t @(a) values (1)", "insert into t values @", "insert into t values @1", "insert into t values (@", "insert into t values (@)", "insert into t values (@*)", "insert into t values (1@", "insert into t values (1,@)", "insert into t values (1 @2)", "insert into t values (1),@", "insert into t values (1), @2", "insert into t values (1),@;", "insert into t values (1), (@)", "insert into t values (1 @as a)",
		"update @", "update @set a = 1", "update t @", "update t @a = 1", "update t @where a", "update t @from", "update t set @", "update t set @1 = 1", "update t set a @", "update t set a @1", "update t set a @<> 1", "update t set t@.a = 1", "update t set a = @", "update t set a = @, b = 1", "update t set a = 1,@", "update t set a = 1, @where a", "update t set a = 1 @b = 2", "update t set a = 1 where @", "update t set a = 1 where @where", "update t set @(a) = 1", "update t set a = 1 @for portion of p from 1 to 2", "update t @as u set a = 1",
		"delete @", "delete @t", "delete from @", "delete from @where a", "delete from t @set a = 1", "delete from t where @", "delete from t where a @where b", "delete from t where a @for portion of p from 1 to 2", "delete from t @as u",
		"delete from t for @", "delete from t for @p", "delete from t for @system_time all", "update t for @of p", "delete from t for portion @", "delete from t for portion @p", "delete from t for portion of @", "delete from t for portion of @from", "delete from t for portion of p @", "delete from t for portion of p @between 1 and 2", "delete from t for portion of p from @", "delete from t for portion of p from @to 2", "delete from t for portion of p from 1 @", "delete from t for portion of p from 1 and 2@", "delete from t for portion of p from 1 to @", "delete from t for portion of p from 1 to @where a", "delete from t for portion of p from 1 to 2 @set a = 1", "update t for portion of p from 1 to 2 @", "update t for portion of p from 1 to 2 @where a", "update t for portion of p from 1 to 2 @for portion of p from 1 to 2",
	} {
		s, at := marked(s)
		refuses(t, s, at, api.ErrSyntax)
	}
}

func TestP21_1SelectsWrong(t *testing.T) {
	const from = "select a from t "
	for _, s := range []string{
		"select @", "select @from t", "select @;", "select distinct @", "select distinct @distinct a from t", "select all @", "select * @frm t", "select * @", "select *@, a from t", "select a, @* from t", "select *@.a from t", "select t.@* from t", "select * @as a from t", "select a @", "select a @b from t", "select a,@", "select a, @from t", "select a as @", "select a as @1 from t", "select a as @from t", "select a as b@.c from t", "select a as b @as c from t", "select a @asc from t", "select (a@, b) from t", "select (@*) from t", "select (a @as b) from t",
		"select a from @", "select a from @1", "select a from @(t)", "select a from @where a", "select a from t@, u", "select a from t@.u", "select a from t @u", "select a from t as @", "select a from t as @as", "select a from t as @of 1", "select a from t as u @as v", "select a from t as u @for system_time all",
		from + "for @", from + "for @system time", from + "for @portion of p from 1 to 2", from + "for @all", from + "for system_time @", from + "for system_time @where a", from + "for system_time @1", from + "for system_time @of 1", from + "for system_time all @all", from + "for system_time all as @of 1", from + "for system_time all @for system_time all", from + "for system_time @join u on a",
		// AS OF counts as one token.
		from + "for system_time @as", from + "for system_time @as ;", from + "for system_time @as 1", from + "for system_time @as u", from + "for system_time @as as of 1", from + "for system_time @as all", from + "for system_time @as 'of' 1", from + "for system_time @as ( of 1",
		from + "for system_time as of @", from + "for system_time as of @;", from + "for system_time as of @as u", from + "for system_time as of @not a", from + "for system_time as of @of 1", from + "for system_time as of 1 @to 2", from + "for system_time as of 1 @= 2", from + "for system_time as of 1 @and 2", from + "for system_time as of 1 @or 2", from + "for system_time as of 1 @|| 2", from + "for system_time as of 1 @is null", from + "for system_time as of 1 @like 2", from + "for system_time as of 1+@", from + "for system_time as of 1 as @of 2", from + "for system_time as of 1 as u @as of 2",
		from + "for system_time from @", from + "for system_time from @to 2", from + "for system_time from 1 @", from + "for system_time from 1 @|| 2 to 3", from + "for system_time from 1 @= 1 to 2", from + "for system_time from 1 @and 2", from + "for system_time from 1 to @", from + "for system_time from 1 to 2 @|| 3", from + "for system_time from 1 to 2 @to 3", from + "for system_time from @not 1 to 2", from + "for system_time from 1 to @not 2",
		from + "for system_time between @", from + "for system_time between @and 2", from + "for system_time between 1 @", from + "for system_time between 1 @to 2", from + "for system_time between 1 @or 2", from + "for system_time between 1 @|| 2 and 3", from + "for system_time between 1 and @", from + "for system_time between 1 and 2 @and 3", from + "for system_time between 1 and 2 @|| 3", from + "for system_time between 1 and @not 2",
		from + "join @", from + "join @on a", from + "join u @", from + "join u @where a", from + "join u @join v on a", from + "join u on @", from + "join u on @where", from + "join u on a @on b", from + "join u as v @for system_time all on a", from + "join u for system_time all @where a", from + "@on a", from + "join @(u) on a", from + "@cross join u", from + "where a @join u on b",
		from + "where @", from + "where @;", from + "where @group by a", from + "where a @where b", from + "where a @having b", from + "@having a", from + "where a@, b",
		from + "group @", from + "group @a", from + "group @group", from + "group by @", from + "group by @order by a", from + "group by a,@", from + "group by a @b", from + "group by a @as b", from + "group by a @desc", from + "group by a @asc", from + "group by a @where b", from + "group by a @group by b", from + "group by @*", from + "@by a",
		from + "order @", from + "order @a", from + "order by @", from + "order by @desc", from + "order by a,@", from + "order by a desc @asc", from + "order by a asc @asc", from + "order by a asc @desc", from + "order by a desc @desc", from + "order by a desc,@", from + "order by a @b", from + "order by a @group by b", from + "order by a @as b", from + "order by a desc @where b", from + "@desc", from + "order by @*",
		from + "limit @", from + "limit @;", from + "limit @limit 1", from + "limit 1@, 2", from + "limit 1 @order by a", from + "limit 1 @group by a", from + "limit all @1", from + "limit 1 @desc", from + "limit @*",
	} {
		s, at := marked(s)
		refuses(t, s, at, api.ErrSyntax)
	}
}

// slots are statements with a place for an expression, marked by ?, which is a sum of the grammar where marked by ~.
func slots() words {
	return words{
		"insert into t values (?)", "insert into t values (1, ?, 2)", "insert into t values (1), (2), (1, ?)", "update t set a = ?", "update t set a = 1, b = ?, c = 2", "update t set a = 1 where ?", "update t for portion of p from ? to 1 set a = 1", "update t for portion of p from 1 to ? set a = 1", "update t for portion of p from 1 to 1 set a = ? where 1",
		"delete from t where ?", "delete from t for portion of p from ? to 1", "delete from t for portion of p from 1 to ? where 1", "prune t to ?",
		"select ? from t", "select a, ? as b, c from t", "select distinct ? from t", "select a from t where ?", "select a from t group by ?", "select a from t group by a, ?, b", "select a from t order by ?", "select a from t order by a, ? desc, b asc", "select a from t limit ?", "select a from t join u on ?", "select a from t join u on 1 join v on ? where 1",
		"select a from t for system_time as of ~", "select a from t for system_time as of ~ as u", "select a from t for system_time from ~ to 1", "select a from t for system_time from 1 to ~", "select a from t for system_time between ~ and 1", "select a from t for system_time between 1 and ~ where 1", "select a from t join u for system_time between 1 and ~ on 1",
	}
}

// TestP21_1Slots has expressions with errors, and just without, at each place of a statement.
func TestP21_1Slots(t *testing.T) {
	for _, slot := range slots() {
		at := strings.IndexAny(slot, "?~")
		front, back := slot[:at], slot[at+1:]
		for _, c := range []struct {
			s    string
			at   int
			code api.Errno
		}{
			{strings.Repeat("-", 20) + "a", 0, api.ErrDeep},
			{"1 + (" + strings.Repeat("-", 19) + "a) * 2 - 1", 27, api.ErrDeep},
			{"1 + (" + strings.Repeat("-", 19) + "a) - 1", 2, api.ErrDeep},
			{strings.Repeat("-", 19) + "a * 2", 21, api.ErrDeep},
			{"length(" + strings.Repeat("-", 19) + "a)", 0, api.ErrDeep},
			{"a + f(a)", 4, api.ErrSyntax},
			{"count(a, b) +", 0, api.ErrSyntax},
			{"a + ", 4, api.ErrSyntax},
			{"a + count(", 10, api.ErrSyntax},
			{"a * select", 4, api.ErrSyntax},
		} {
			s := front + c.s + back
			// What is cut short meets what is behind it.
			for c.code == api.ErrSyntax && c.s != "a * select" && at+c.at < len(s) && s[at+c.at] == ' ' {
				c.at++
			}
			refuses(t, s, at+c.at, c.code)
		}
		for _, s := range []string{strings.Repeat("-", 19) + "a", "a", "(" + strings.Repeat("-", 19) + "a)", "(a or b)", "count(*)", "(not(((1))) is null)"} {
			x := read(t, front+s+back)
			if again := parse.Write(x); !strings.Contains(again, written(t, readExpr(t, s))) {
				t.Errorf("%s is %s", front+s+back, again)
			}
		}
		low := front + "a = b" + back
		if slot[at] == '~' {
			refuses(t, low, at+2, api.ErrSyntax)
		} else if !strings.Contains(parse.Write(read(t, low)), "(a = b)") {
			t.Errorf("%s is %v", low, read(t, low))
		}
	}
}

// TestP21_1Reserved has reserved words at each place of a name, and words that are not reserved.
func TestP21_1Reserved(t *testing.T) {
	places := words{
		"create table ? (a int, primary key (a))", "create table t (? int, primary key (a))", "create table t (a int, ? int, primary key (a))", "create table t (a int, primary key (?))", "create table t (a int, primary key (b, ?))", "create table t (a int, primary key (a), period ? (a, b))", "create table t (a int, primary key (a), period p (?, b))", "create table t (a int, primary key (a), period p (a, ?))",
		"drop table ?", "create index ? on t (a)", "create index i on ? (a)", "create index i on t (?)", "insert into ? values (1)", "update ? set a = 1", "update t set ? = 1", "update t set a = 1, ? = 2", "update t for portion of ? from 1 to 2 set a = 1", "delete from ?", "delete from t for portion of ? from 1 to 2",
		"select a as ? from t", "select a from ?", "select a from t as ?", "select a from t for system_time all as ?", "select a from t join ? on 1", "select a from t join u as ? on 1", "savepoint ?", "rollback to ?", "release ?", "prune ? to 1",
	}
	for _, place := range places {
		at := strings.Index(place, "?")
		for _, word := range reserved() {
			if strings.HasPrefix(place[at:], "? int, p") && at > 20 && word == "primary" {
				refuses(t, strings.Replace(place, "?", word, 1), at+8, api.ErrSyntax)
				continue
			}
			refuses(t, strings.Replace(place, "?", word, 1), at, api.ErrSyntax)
			refuses(t, strings.Replace(place, "?", strings.ToUpper(word), 1), at, api.ErrSyntax)
		}
		for _, word := range []string{"all", "overlaps", "count", "length", "x", "_", "froms", "syste", "sys_from", "asof", strings.Repeat("z", 20)} {
			if s := strings.Replace(place, "?", word, 1); parse.Write(read(t, s)) != s && !strings.Contains(s, "=") {
				t.Errorf("%s is %s", s, parse.Write(read(t, s)))
			}
		}
	}
	for _, word := range reserved() {
		if !syntax.Reserved(word) {
			t.Errorf("%s is not reserved", word)
		}
	}
}
