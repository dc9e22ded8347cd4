package pick

import (
	"augur/api"
	"augur/fix"
)

// rule: a step of the thinning out. Candidates go in and come out in their order.
type rule struct {
	asked func(p api.Params) bool
	thin  func(p api.Params, left []candidate) []candidate
	last  bool // what it leaves is the answer: no rule behind it runs
}

// thinned: what the rules leave of the candidates.
func thinned(p api.Params, left []candidate) []candidate {
	for _, r := range rules() {
		if !r.asked(p) {
			continue
		}
		left = r.thin(p, left)
		if r.last {
			break
		}
	}
	return left
}

// rules: all of them, in the order in which they run.
func rules() []rule {
	always := func(api.Params) bool { return true }
	return []rule{
		{asked: func(p api.Params) bool { return p.Temp == 0 }, thin: greatest, last: true},
		{asked: func(p api.Params) bool { return p.TopK != 0 }, thin: firstOnes},
		{asked: always, thin: weighted},
		{asked: always, thin: likeliest},
	}
}

// greatest: the first one alone, which needs to be weighed against no other.
func greatest(_ api.Params, left []candidate) []candidate {
	left = left[:min(len(left), 1)]
	for i := range left {
		left[i].weight = api.One
	}
	return left
}

// firstOnes: at most TopK of them.
func firstOnes(p api.Params, left []candidate) []candidate {
	return left[:min(len(left), p.TopK)]
}

// weighted: all of them, each with its weight.
func weighted(p api.Params, left []candidate) []candidate {
	for i, c := range left {
		left[i].weight = fix.Exp(fix.Div((c.score-left[0].score)*tempScale, int64(p.Temp)))
	}
	return left
}

// likeliest: the fewest first ones that have TopP of the whole weight.
func likeliest(p api.Params, left []candidate) []candidate {
	sum := int64(0)
	for _, c := range left {
		sum += c.weight
	}
	part, n := int64(0), 0
	for part*allOfTopP < int64(p.TopP)*sum {
		part += left[n].weight
		n++
	}
	return left[:n]
}
