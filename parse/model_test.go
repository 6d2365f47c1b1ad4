package parse_test

import (
	"slices"
	"strings"
	"testing"

	"hindsight/api"
	"hindsight/parse"
	"hindsight/syntax"
)

// TestP21_1Shown has expressions by chance, with as few parentheses as the grammar lets them have, or more.
func TestP21_1Shown(t *testing.T) {
	next := chance(1)
	for range 20000 {
		e := next.expr(1 + next.below(6))
		s, _ := next.laid(next.show(e, 0))
		if len(s) > 4096 {
			continue
		}
		if got := readExpr(t, s); !syntax.Same(got, e) {
			t.Fatalf("ReadExpr(%s) = %s, want %s", s, written(t, got), written(t, e))
		}
	}
}

// TestP21_1ShortTexts has all texts of few words, by the grammar.
func TestP21_1ShortTexts(t *testing.T) {
	vocabulary := strings.Fields("a 1 null - + = not or is ( ) . , *")
	c := newGrammar().newChart("E")
	checked := 0
	var visit func(n int)
	visit = func(n int) {
		checked++
		holdsExpr(t, c)
		if n == 0 || c.reach() < len(c.said) {
			return
		}
		for _, w := range vocabulary {
			c.say(w)
			visit(n - 1)
			c.back()
		}
	}
	visit(6)
	if checked < 10000 {
		t.Errorf("only %d texts", checked)
	}
}

// holdsExpr holds what the chart says about the words that were said against ReadExpr.
func holdsExpr(t *testing.T, c *chart) {
	t.Helper()
	s := strings.Join(c.said, " ")
	at, right := faultOf(c, "E", 0)
	e, f := parse.ReadExpr(s)
	if right {
		if f != (api.Fault{}) {
			t.Fatalf("ReadExpr(%s) = %v", s, f)
		}
		return
	}
	if e.Kind != 0 || f != (api.Fault{At: offset(c.said, at), Code: api.ErrSyntax}) {
		t.Fatalf("ReadExpr(%s) = %v %v, want %d", s, e, f, offset(c.said, at))
	}
}

// offset is where the word at that index begins, if there is a blank between any two of them.
func offset(l words, at int) int {
	if at == len(l) {
		return len(strings.Join(l, " "))
	}
	n := 0
	for _, w := range l[:at] {
		n += len(w) + 1
	}
	return n
}

// faultOf is the index of the word of the first error in what the chart was told, from that word on, or that there is none.
func faultOf(c *chart, start string, from int) (int, bool) {
	reach := c.reach()
	if at, wrong := wrongCall(c.said[:reach], from); wrong {
		return at, false
	}
	return reach, c.done(start)
}

// wrongCall is the index of the name of the first call, in the order of the closing parentheses, that there is not.
func wrongCall(l words, from int) (int, bool) {
	type opened struct{ name, commas, at int }
	var open []opened
	for i, w := range l {
		if i < from {
			continue
		}
		switch w {
		case "(":
			name := -1
			if i > from && stands("NAME", l[i-1]) {
				name = i - 1
			}
			open = append(open, opened{name: name, at: i})
		case ",":
			if len(open) > 0 {
				open[len(open)-1].commas++
			}
		case ")":
			if len(open) == 0 {
				continue
			}
			last := open[len(open)-1]
			open = open[:len(open)-1]
			if last.name < 0 {
				continue
			}
			count := last.commas + 1
			if l[last.at+1] == "*" {
				count = 0
			}
			if !slices.Contains(counts(l[last.name]), count) {
				return last.name, true
			}
		}
	}
	return 0, false
}

// vocabulary are words for all places of the grammar.
func vocabulary() words {
	return slices.Concat(reserved(), strings.Fields("all overlaps a t count length f 1 'a' x'00' ( ) , ; . * + - / % = < > <= >= <> ||"))
}

// TestP21_1Walk has fronts of statements by chance, by the grammar: each of them as the whole, and with each word behind it.
func TestP21_1Walk(t *testing.T) {
	next := chance(7)
	g := newGrammar()
	l := append(vocabulary(), "as of")
	short := append(reserved(), "as of")
	reached := map[string]bool{}
	for range 1500 {
		c := g.newChart("Text")
		for range 1 + next.below(40) {
			can := c.can(l)
			if len(can) == 0 {
				break
			}
			word := next.of(can)
			// Shorter expressions leave more room for the rest.
			for i := 0; i < 3 && !slices.Contains(short, word); i++ {
				word = next.of(can)
			}
			for _, w := range strings.Fields(word) {
				c.say(w)
			}
			reached[word] = true
			holdsStatement(t, c)
		}
		if next.below(10) == 0 {
			for _, w := range vocabulary() {
				c.say(w)
				holdsStatement(t, c)
				c.back()
			}
		}
	}
	for _, w := range l {
		if !reached[w] {
			t.Errorf("%s was never said", w)
		}
	}
}

// TestP21_1Changed has statements by chance in which a word is another one, or is left out, or is one too many.
func TestP21_1Changed(t *testing.T) {
	next := chance(9)
	g := newGrammar()
	l := vocabulary()
	for range 1500 {
		_, _, said := next.made()
		if len(said) > 60 {
			continue
		}
		at := next.below(len(said))
		switch next.below(3) {
		case 0:
			said = slices.Delete(slices.Clone(said), at, at+1)
		case 1:
			said = slices.Insert(slices.Clone(said), at, next.of(l))
		case 2:
			said = slices.Replace(slices.Clone(said), at, at+1, next.of(l))
		}
		c := g.newChart("Text")
		for _, w := range said {
			c.say(w)
		}
		holdsStatement(t, c)
	}
}

// holdsStatement holds what the chart says about the words that were said against Read.
func holdsStatement(t *testing.T, c *chart) {
	t.Helper()
	s := strings.Join(c.said, " ")
	// Names in front of parentheses are those of calls only where there are expressions.
	from := 0
	if len(c.said) > 0 && c.said[0] == "create" {
		from = len(c.said)
	}
	at, right := faultOf(c, "Text", from)
	x, f := parse.Read(s)
	if right && f != (api.Fault{}) || !right && (x.Kind != 0 || f != (api.Fault{At: offset(c.said, at), Code: api.ErrSyntax})) {
		t.Fatalf("Read(%s) = %v %v, want %v, %d", s, x, f, right, offset(c.said, at))
	}
}
