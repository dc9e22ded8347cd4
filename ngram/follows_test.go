package ngram_test

import (
	"slices"
	"testing"

	"augur/ngram"
	"augur/testaid"
)

// sameAnswers: two indices tell the same of everything.
func sameAnswers(t *testing.T, what string, x, y *ngram.Index) {
	t.Helper()
	places := slices.Collect(x.Places())
	if x.Len() != y.Len() || !slices.Equal(places, slices.Collect(y.Places())) {
		t.Fatalf("%s: %d tokens, places %v, and %d tokens, places %v", what, x.Len(), places, y.Len(), slices.Collect(y.Places()))
	}
	for _, ways := range measures(len(places)) {
		for _, deep := range measures(4) {
			if a, b := x.Propose(ways, deep), y.Propose(ways, deep); !slices.Equal(a, b) {
				t.Fatalf("%s: Propose(%d, %d) = %v and %v", what, ways, deep, a, b)
			}
		}
	}
}

// What was appended and cut is as never appended, for all that comes then, too.
func TestAppendedAndCut(t *testing.T) {
	s := testaid.Source(153)
	for range 60 {
		for _, kind := range kinds() {
			most := 1 + s.Below(4)
			a, b, c := someTokens(&s, kind, s.Below(12)), someTokens(&s, kind, s.Below(12)), someTokens(&s, kind, s.Below(12))
			x, y := made(t, most, a...), made(t, most, a...)
			x.Append(b...)
			x.Cut(len(a))
			sameAnswers(t, "what follows: appended and cut", x, y)
			for i := range c {
				x.Append(c[i])
				y.Append(c[i])
				sameAnswers(t, "what follows: appended, cut, appended", x, y)
			}
			x.Cut(len(a) / 2)
			y.Cut(len(a) / 2)
			sameAnswers(t, "what follows: cut into what was before", x, y)
		}
	}
}

func TestNoTokenTwice(t *testing.T) {
	s := testaid.Source(154)
	for range 300 {
		text := make([]int, s.Below(30))
		for i := range text {
			text[i] = i - 10
			j := s.Below(i + 1)
			text[i], text[j] = text[j], text[i]
		}
		for most := 1; most <= 4; most++ {
			x := made(t, most)
			for i, token := range text {
				x.Append(token)
				has(t, x, i+1)
				proposes(t, x, 9, 9, nil)
			}
		}
	}
}

func TestAlikeTokens(t *testing.T) {
	for most := 1; most <= 4; most++ {
		for _, token := range []int{0, 1, -1, 1 << 40} {
			x := made(t, most, token)
			has(t, x, 1)
			for n := 2; n < 40; n++ {
				x.Append(token)
				has(t, x, n, countDown(n-1, min(most, n-1))...)
			}
			for n := 39; n >= 2; n-- {
				has(t, x, n, countDown(n-1, min(most, n-1))...)
				x.Cut(n - 1)
			}
			has(t, x, 1)
		}
	}
}

// With a greater most the end run is no shorter (each place has at least that run ahead), and its places are among those with the smaller most, in the same order.
func TestGreaterMost(t *testing.T) {
	s := testaid.Source(155)
	fewer := 0
	for range 100 {
		for _, kind := range kinds() {
			text := someTokens(&s, kind, s.Below(25))
			smaller := slices.Collect(made(t, 1, text...).Places())
			for most := 2; most <= 4; most++ {
				places := slices.Collect(made(t, most, text...).Places())
				if (len(places) == 0) != (len(smaller) == 0) {
					t.Fatalf("what follows: %v: with %d places %v, with %d %v", text, most-1, smaller, most, places)
				}
				for _, q := range places {
					if !slices.Contains(smaller, q) {
						t.Fatalf("what follows: %v: with %d the place %d, with %d only %v", text, most, q, most-1, smaller)
					}
				}
				if len(places) < len(smaller) {
					fewer++
				}
				smaller = places
			}
		}
	}
	if fewer < 100 {
		t.Errorf("a greater most told fewer places only %d times", fewer)
	}
}

// Each node's token is the one that followed its parent's in the text; a chain's first one followed what the text ends with.
func TestNodesFollow(t *testing.T) {
	s := testaid.Source(156)
	for range 100 {
		for _, kind := range kinds() {
			text := someTokens(&s, kind, s.Below(40))
			follows := map[[2]int]int{}
			for i := range len(text) - 1 {
				follows[[2]int{text[i], text[i+1]}]++
			}
			tree := made(t, 1+s.Below(4), text...).Propose(1+s.Below(9), 1+s.Below(20))
			for i, node := range tree {
				if node.Parent != -1 && node.Parent != i-1 || i == 0 && node.Parent != -1 {
					t.Fatalf("P13.4: %v: the parent of node %d is %d: %v", text, i, node.Parent, tree)
				}
				ahead := text[len(text)-1]
				if node.Parent >= 0 {
					ahead = tree[node.Parent].Token
				}
				if follows[[2]int{ahead, node.Token}] == 0 {
					t.Fatalf("what follows: %v: %d never followed %d: %v", text, node.Token, ahead, tree)
				}
			}
		}
	}
}
