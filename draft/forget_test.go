package draft

import (
	"testing"

	"augur/api"
	"augur/engine"
	"augur/model"
	"augur/testaid"
)

// What is kept of requests cannot be seen from without: so this test looks inside.

// Of requests that are over, or that were refused, no prompt is kept.
func TestPromptsOfLiveOnesAlone(t *testing.T) {
	m, e := model.New(testaid.Ring())
	if e != api.OK {
		t.Fatalf("no model: %d", e)
	}
	g, e := engine.New(m, testaid.RingVocab(), testaid.RingServe)
	if e != api.OK {
		t.Fatalf("no engine: %d", e)
	}
	d, e := New(g, m, 1)
	if e != api.OK {
		t.Fatalf("no drafter: %d", e)
	}
	for id := 1; id <= 200; id += 2 {
		for _, n := range []int{2, 4} {
			d.Submit(api.Ask{Prompt: []int{1}, New: n, Params: testaid.Greedy})
			d.Submit(api.Ask{Prompt: []int{1}, Params: testaid.Greedy})
		}
		for _, want := range []int{2, 1, 0, 0} {
			if len(d.prompts) != want {
				t.Fatalf("%d prompts are kept, want %d", len(d.prompts), want)
			}
			d.Step(id, id+1)
		}
	}
}
