package pool_test

import (
	"slices"
	"testing"

	"augur/api"
	"augur/pool"
	"augur/testaid"
)

func TestArgumentsStay(t *testing.T) {
	p := apart(t)
	table := pool.NewTable(p)
	k, v := testaid.Roomy([]int8{1, 2}, 9), testaid.Roomy([]int8{3, 4}, 9)
	ms := testaid.Roomy([]api.Move{{From: 0, To: 1}, {From: 1, To: 0}}, api.Move{From: 7, To: 7})
	blocks := testaid.Roomy([]int{3, 0}, 7)
	kept := []func() bool{testaid.Guard(k), testaid.Guard(v), testaid.Guard(ms), testaid.Guard(blocks)}
	puts(t, p, 2, 0, k, v)
	is(t, "P6.5: Put", p.Put(0, 0, k, testaid.Roomy([]int8{3}, 9)), api.ErrShape)
	is(t, "P6.6: Move", p.Move(ms...), api.OK)
	is(t, "P6.8: Share", table.Share(blocks...), api.OK)
	is(t, "P6.9: Grow", table.Grow(12), api.OK)
	is(t, "P6.11: Own", table.Own(0), api.ErrFull)
	is(t, "P6.10: Trim", table.Trim(9), api.OK)
	is(t, "P6.11: Own", table.Own(0), api.OK)
	is(t, "P6.10: Trim", table.Trim(1), api.OK)
	for i, same := range kept {
		if !same() {
			t.Errorf("P6.13: argument %d changed", i)
		}
	}
	reads(t, "P6.13", table, 4)
	gets(t, "P6.13", p, 2, 1, []int8{1, 2}, []int8{3, 4})
}

// What is written over a list that was handed in is not seen by the pool or the table.
func TestArgumentsAreNotKept(t *testing.T) {
	p := apart(t)
	table := pool.NewTable(p)
	k, v, blocks := testaid.Roomy([]int8{1, 2}, 9), testaid.Roomy([]int8{3, 4}, 9), testaid.Roomy([]int{3, 0, 2}, 7)
	ms := []api.Move{{From: 0, To: 1}}
	puts(t, p, 0, 0, k, v)
	is(t, "P6.6: Move", p.Move(ms...), api.OK)
	is(t, "P6.8: Share", table.Share(blocks...), api.OK)
	before := told(p, table)
	testaid.Overwrite(k, 50)
	testaid.Overwrite(v, 60)
	testaid.Overwrite(ms, api.Move{From: 9, To: 9})
	testaid.Overwrite(blocks, 1)
	if after := told(p, table); after != before {
		t.Errorf("P6.13: what was handed in is kept: %s became %s", before, after)
	}
	// One list as keys and as values.
	both := []int8{5, 6}
	puts(t, p, 1, 6, both, both)
	puts(t, p, 1, 7, both, both)
	puts(t, p, 1, 6, []int8{7, 7}, []int8{8, 8})
	gets(t, "P6.13", p, 1, 6, []int8{7, 7}, []int8{8, 8})
	gets(t, "P6.13", p, 1, 7, []int8{5, 6}, []int8{5, 6})
}

// What is written over an answer is seen in nothing else, and an answer stays as it was told.
func TestAnswersAreApart(t *testing.T) {
	p := apart(t)
	one, two := pool.NewTable(p), pool.NewTable(p)
	is(t, "P6.8: Share", one.Share(3, 0), api.OK)
	is(t, "P6.8: Share", two.Share(one.Blocks()...), api.OK)
	before := told(p, one, two)
	for _, slot := range slots() {
		for layer := range 3 {
			k, v, _ := p.Get(layer, slot)
			k2, v2, _ := p.Get(layer, slot)
			wantK, wantV := slices.Clone(k), slices.Clone(v)
			testaid.Overwrite(k, 77)
			if !slices.Equal(v, wantV) || !slices.Equal(k2, wantK) || !slices.Equal(v2, wantV) {
				t.Fatalf("P6.13: Get(%d, %d): its answers share memory", layer, slot)
			}
			testaid.Overwrite(v, 78)
			if !slices.Equal(k2, wantK) || !slices.Equal(v2, wantV) {
				t.Fatalf("P6.13: Get(%d, %d): its answers share memory", layer, slot)
			}
		}
	}
	first, second := one.Blocks(), one.Blocks()
	testaid.Overwrite(first, 88)
	if !slices.Equal(second, []int{3, 0}) {
		t.Errorf("P6.13: the answers of Blocks share memory: %v", second)
	}
	if after := told(p, one, two); after != before {
		t.Errorf("P6.13: what is written over an answer is kept: %s became %s", before, after)
	}
	k, v, _ := p.Get(0, 0)
	wantK, wantV := slices.Clone(k), slices.Clone(v)
	puts(t, p, 0, 0, []int8{101, 102}, []int8{103, 104})
	is(t, "P6.6: Move", p.Move(api.Move{From: 11, To: 0}), api.OK)
	is(t, "P6.11: Own", one.Own(0), api.OK)
	is(t, "P6.10: Trim", one.Trim(3), api.OK)
	is(t, "P6.9: Grow", one.Grow(6), api.OK)
	if !slices.Equal(k, wantK) || !slices.Equal(v, wantV) || !slices.Equal(second, []int{3, 0}) {
		t.Errorf("P6.13: an answer changed later: %v %v %v", k, v, second)
	}
	reads(t, "P6.13", two, 3, 0)
}

func TestPoolsAreApart(t *testing.T) {
	one, two := apart(t), apart(t)
	table, other := pool.NewTable(one), pool.NewTable(two)
	is(t, "P6.8: Share", other.Share(2, 0), api.OK)
	before := told(two, other)
	takes(t, one, 1)
	puts(t, one, 0, 0, []int8{99, 98}, []int8{97, 96})
	is(t, "P6.6: Move", one.Move(api.Move{From: 0, To: 6}), api.OK)
	is(t, "P6.3: Hold", one.Hold(2), api.OK)
	is(t, "P6.3: Drop", one.Drop(0), api.OK)
	is(t, "P6.9: Grow", table.Grow(5), api.OK)
	is(t, "P6.10: Trim", table.Trim(1), api.OK)
	if after := told(two, other); after != before {
		t.Errorf("P6.13: one pool knows of another: %s became %s", before, after)
	}
}

// Two tables over one pool: the list of each is its own.
func TestTablesAreApart(t *testing.T) {
	p := made(t, 1, 1, 8, 1)
	one, two := pool.NewTable(p), pool.NewTable(p)
	is(t, "P6.9: Grow", one.Grow(3), api.OK)
	is(t, "P6.8: Share", two.Share(one.Blocks()...), api.OK)
	is(t, "P6.10: Trim", one.Trim(1), api.OK)
	is(t, "P6.9: Grow", one.Grow(2), api.OK)
	is(t, "P6.11: Own", two.Own(0), api.OK)
	is(t, "P6.9: Grow", two.Grow(4), api.OK)
	reads(t, "P6.13", one, 0, 3)
	reads(t, "P6.13", two, 4, 1, 2, 5)
}
