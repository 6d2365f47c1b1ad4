package parse_test

import (
	"maps"
	"slices"
	"strings"
)

// grammarText is the chapter's grammar: words and signs stand for themselves, VALUE for a number, a quoted string or bytes, ASOF for two words that count as one, and what has a line for the rest.
const grammarText = `
Text = Statement | Statement ;
Statement = create table NAME ( Cols , primary key ( Names ) Period ) Versioned
Cols = Col | Cols , Col
Col = NAME Type | NAME Type not null
Type = int | text | blob
Names = NAME | Names , NAME
Period = EMPTY | , period NAME ( NAME , NAME ) | , period NAME ( NAME , NAME ) , without overlaps
Versioned = EMPTY | versioned
Statement = drop table NAME | create index NAME on NAME ( NAME )
Statement = insert into NAME values Rows
Rows = Row | Rows , Row
Row = ( Es )
Es = E | Es , E
Statement = update NAME Portion set Sets Where | delete from NAME Portion Where
Portion = EMPTY | for portion of NAME from E to E
Sets = Set | Sets , Set
Set = NAME = E
Where = EMPTY | where E
Statement = select Distinct Items from Sources Where Group Order Limit
Distinct = EMPTY | distinct
Items = * | List
List = Item | List , Item
Item = E Alias
Alias = EMPTY | as NAME
Sources = Source | Sources join Source on E
Source = NAME System Alias
System = EMPTY | for system_time View
View = ASOF Sum | from Sum to Sum | between Sum and Sum | all
Group = EMPTY | group by Es
Order = EMPTY | order by Sorts
Sorts = Sort | Sorts , Sort
Sort = E | E asc | E desc
Limit = EMPTY | limit E
Statement = begin | commit | rollback | savepoint NAME | rollback to NAME | release NAME | prune NAME to E
E = And | E or And
And = Not | And and Not
Not = not Not | Compare
Compare = Cat | Cat Sign Cat | Cat is null | Cat is not null
Sign = = | <> | < | <= | > | >= | like
Cat = Sum | Cat || Sum
Sum = Product | Sum + Product | Sum - Product
Product = Neg | Product * Neg | Product / Neg | Product % Neg
Neg = - Neg | Prime
Prime = VALUE | null | ( E ) | NAME ( * ) | NAME ( Es ) | NAME . NAME | NAME
`

// grammar is the rules of each symbol.
type grammar map[string][]words

func newGrammar() grammar {
	g := grammar{}
	for _, line := range strings.Split(strings.TrimSpace(grammarText), "\n") {
		left, right, _ := strings.Cut(line, " = ")
		for _, alternative := range strings.Split(right, " | ") {
			g[left] = append(g[left], strings.Fields(strings.ReplaceAll(alternative, "EMPTY", "")))
		}
	}
	return g
}

// item is a rule of which so many symbols were seen, from that word on.
type item struct {
	left             string
	rule, seen, from int
}

// chart is which rules the words so far can belong to: a set of items behind each word, by the method of Earley.
type chart struct {
	g    grammar
	said words
	sets []map[item]bool
}

// newChart is the chart of what begins with that symbol.
func (g grammar) newChart(start string) *chart {
	c := &chart{g: g}
	first := map[item]bool{}
	for i := range g[start] {
		first[item{left: start, rule: i}] = true
	}
	c.sets = append(c.sets, first)
	c.close()
	return c
}

// wants is the symbol that the item wants next, if any.
func (c *chart) wants(x item) string {
	rule := c.g[x.left][x.rule]
	if x.seen == len(rule) {
		return ""
	}
	return rule[x.seen]
}

// close adds to the last set what follows from what is in it.
func (c *chart) close() {
	at := len(c.sets) - 1
	set := c.sets[at]
	for before := -1; before < len(set); {
		before = len(set)
		for _, x := range slices.Collect(maps.Keys(set)) {
			wanted := c.wants(x)
			if wanted == "" {
				for _, y := range slices.Collect(maps.Keys(c.sets[x.from])) {
					if c.wants(y) == x.left {
						y.seen++
						set[y] = true
					}
				}
			}
			for i := range c.g[wanted] {
				set[item{left: wanted, rule: i, from: at}] = true
			}
		}
	}
}

// say adds a word.
func (c *chart) say(word string) {
	next := map[item]bool{}
	scan := func(set map[item]bool, word string) {
		for x := range set {
			if stands(c.wants(x), word) {
				x.seen++
				next[x] = true
			}
		}
	}
	scan(c.sets[len(c.sets)-1], word)
	if n := len(c.said); word == "of" && n > 0 && c.said[n-1] == "as" {
		scan(c.sets[n-1], "as of")
	}
	c.said = append(c.said, word)
	c.sets = append(c.sets, next)
	c.close()
}

// back takes the last word back.
func (c *chart) back() {
	c.said = c.said[:len(c.said)-1]
	c.sets = c.sets[:len(c.sets)-1]
}

// stands reports whether a symbol stands for a word; ASOF for two of them.
func stands(symbol, word string) bool {
	first := word[0]
	value := first >= '0' && first <= '9' || strings.Contains(word, "'")
	letter := first >= 'a' && first <= 'z' || first == '_'
	switch symbol {
	case "VALUE":
		return value
	case "ASOF":
		return word == "as of"
	case "NAME":
		return letter && !value && word != "as of" && !slices.Contains(reserved(), word)
	}
	return symbol == word
}

// can is the words of l that can follow.
func (c *chart) can(l words) words {
	wanted := map[string]bool{}
	for x := range c.sets[len(c.sets)-1] {
		wanted[c.wants(x)] = true
	}
	var can words
	for _, w := range l {
		for symbol := range wanted {
			if stands(symbol, w) {
				can = append(can, w)
				break
			}
		}
	}
	return can
}

// reach is how many words can be the front of what the grammar has.
func (c *chart) reach() int {
	n := len(c.said)
	for len(c.sets[n]) == 0 {
		n--
	}
	return n
}

// done reports whether the words so far can be the whole.
func (c *chart) done(start string) bool {
	for x := range c.sets[len(c.sets)-1] {
		if x.left == start && x.from == 0 && c.wants(x) == "" {
			return true
		}
	}
	return false
}
