package prefix_test

import (
	"fmt"
	"slices"
	"testing"

	"augur/api"
	"augur/pool"
	"augur/prefix"
	"augur/testaid"
)

func TestArgumentsStay(t *testing.T) {
	p, c := made(t, 6, 2)
	takes(t, p, 0, 1, 2, 3)
	text, blocks := testaid.Roomy([]int{5, 6, 7, 8, 9}, 4), testaid.Roomy([]int{2, 0, 3}, 1)
	twice, few := testaid.Roomy([]int{5, 6, 7, 8, 1, 1, 2, 2}, 3), testaid.Roomy([]int{2, 0, 1, 1}, 1)
	same := []func() bool{testaid.Guard(text), testaid.Guard(blocks), testaid.Guard(twice), testaid.Guard(few)}
	finds(t, c, text)
	keeps(t, c, text, blocks...)
	finds(t, c, text, 2, 0)
	keeps(t, c, text, few...)
	refuses(t, p, c, twice, few...)
	refuses(t, p, c, twice, few[:3]...)
	finds(t, c, twice, 2, 0)
	shrinks(t, c, 9, 0)
	for i, is := range same {
		if !is() {
			t.Errorf("P7.6: argument %d changed", i)
		}
	}
}

// What is written over lists that were handed in is not seen by the cache.
func TestArgumentsAreNotKept(t *testing.T) {
	p, c := made(t, 6, 2)
	takes(t, p, 0, 1, 2, 3)
	text, blocks := testaid.Roomy([]int{5, 6, 7, 8, 9}, 4), testaid.Roomy([]int{2, 0, 3}, 1)
	keeps(t, c, text, blocks...)
	testaid.Overwrite(text, 11)
	testaid.Overwrite(blocks, 3)
	finds(t, c, []int{5, 6, 7, 8}, 2, 0)
	finds(t, c, []int{11, 11, 11, 11})
	counted(t, "P7.6", p, 2, 1, 2, 1, 0, 0)
	asked := testaid.Roomy([]int{5, 6, 7, 8}, 9)
	got := c.Find(asked)
	testaid.Overwrite(asked, 12)
	if !slices.Equal(got, []int{2, 0}) {
		t.Errorf("P7.6: an answer changed with what was asked: %v", got)
	}
	finds(t, c, []int{5, 6, 7, 8}, 2, 0)
	drops(t, p, 0, 1, 2, 3)
	goes(t, p, c, 0, 2)
}

// What is written over an answer is seen in nothing else, and an answer stays as it was told.
func TestAnswersAreApart(t *testing.T) {
	p, c := made(t, 6, 1)
	takes(t, p, 0, 1, 2, 3)
	keeps(t, c, []int{1, 2, 3}, 2, 0, 3)
	first, second, part := c.Find([]int{1, 2, 3}), c.Find([]int{1, 2, 3}), c.Find([]int{1, 2})
	testaid.Overwrite(part, 9)
	if !slices.Equal(first, []int{2, 0, 3}) || !slices.Equal(second, first) {
		t.Errorf("P7.6: the answers share memory: %v, %v", first, second)
	}
	testaid.Overwrite(first, 8)
	if !slices.Equal(second, []int{2, 0, 3}) {
		t.Errorf("P7.6: the answers share memory: %v", second)
	}
	finds(t, c, []int{1, 2, 3}, 2, 0, 3)
	counted(t, "P7.6", p, 2, 1, 2, 2, 0, 0)
	drops(t, p, 2, 0, 3)
	goes(t, p, c, 3, 0)
	takes(t, p, 0)
	keeps(t, c, []int{1, 4}, 2, 0)
	if !slices.Equal(second, []int{2, 0, 3}) {
		t.Errorf("P7.6: an answer changed later: %v", second)
	}
}

// numbers: all keys and values of some blocks of a pool.
func numbers(p *pool.Pool, blocks ...int) string {
	layers, _, _, size := p.Shape()
	out := ""
	for _, block := range blocks {
		for i := range size {
			for layer := range layers {
				out += fmt.Sprintln(p.Get(layer, block*size+i))
			}
		}
	}
	return out
}

// filled: a pool whose blocks 0 to 4 are taken, with numbers that look drawn.
func filled(t *testing.T, seed int) *pool.Pool {
	t.Helper()
	p, e := pool.New(2, 3, 6, 2)
	if e != api.OK {
		t.Fatal(e)
	}
	takes(t, p, 0, 1, 2, 3, 4)
	s := testaid.Source(seed)
	for slot := range 10 {
		for layer := range 2 {
			if e := p.Put(layer, slot, s.Narrow(3), s.Narrow(3)); e != api.OK {
				t.Fatal(e)
			}
		}
	}
	return p
}

// The pool's keys and values are not written; and as answers are the same whatever they are, they are not read.
func TestNumbersAreLeftAlone(t *testing.T) {
	var told [2]string
	for i := range told {
		p := filled(t, i)
		c := prefix.New(p)
		all, but3 := numbers(p, 0, 1, 2, 3, 4), numbers(p, 0, 1, 2, 4)
		out := fmt.Sprint(c.Keep([]int{1, 2, 3, 4}, []int{0, 1}), c.Keep([]int{1, 2, 5, 6}, []int{2, 3}), c.Keep([]int{7, 7}, []int{0}))
		out += fmt.Sprint(c.Find([]int{1, 2, 5, 6}), c.Find([]int{1, 2, 3, 4}), c.Len(), c.Shrink(9))
		if numbers(p, 0, 1, 2, 3, 4) != all {
			t.Error("P7.6: Keep, Find or a Shrink of nothing wrote the pool's numbers")
		}
		drops(t, p, 3)
		out += fmt.Sprint(c.Shrink(9), c.Len(), counts(p))
		if numbers(p, 0, 1, 2, 4) != but3 {
			t.Error("P7.6: Shrink wrote numbers of blocks that stay")
		}
		told[i] = out
	}
	if told[0] != told[1] {
		t.Errorf("P7.6: answers hang on the pool's numbers: %s and %s", told[0], told[1])
	}
}

// Two pools and their caches know nothing of one another.
func TestPoolsAreApart(t *testing.T) {
	p, c := made(t, 3, 1)
	q, d := made(t, 3, 1)
	takes(t, p, 0, 1)
	takes(t, q, 0, 1)
	keeps(t, c, []int{1, 2}, 0, 1)
	finds(t, d, []int{1, 2})
	known(t, "of another pool", d, 0)
	counted(t, "R6", q, 1, 1, 0)
	keeps(t, d, []int{1, 2}, 1, 0)
	finds(t, c, []int{1, 2}, 0, 1)
	drops(t, q, 0, 1)
	shrinks(t, d, 9, 2)
	counted(t, "R6", p, 2, 2, 0)
	finds(t, c, []int{1, 2}, 0, 1)
}
