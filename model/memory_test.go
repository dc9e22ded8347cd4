package model_test

import (
	"bytes"
	"reflect"
	"slices"
	"testing"

	"augur/api"
	"augur/model"
	"augur/testaid"
)

// narrowLists: all lists of 8-bit numbers of some weights.
func narrowLists(w *api.Weights) []*[]int8 {
	out := []*[]int8{&w.Embed.Data, &w.Final, &w.Head.Data}
	for i := range w.Layers {
		l := &w.Layers[i]
		out = append(out, &l.Norm1, &l.Norm2, &l.Q.Data, &l.K.Data, &l.V.Data, &l.O.Data, &l.G.Data, &l.U.Data, &l.D.Data)
	}
	for i := range w.Medusa {
		out = append(out, &w.Medusa[i].Data)
	}
	return out
}

// roomyWeights: all lists have spare room.
func roomyWeights(w api.Weights) api.Weights {
	w.Turns = testaid.Roomy(w.Turns, api.Turn{C: 77})
	w.Layers = testaid.Roomy(w.Layers, api.Layer{Norm1: []int8{77}, By: api.Shifts{7}})
	w.Medusa = testaid.Roomy(w.Medusa, api.Mat{Rows: 77, Data: []int8{77}})
	for _, l := range narrowLists(&w) {
		*l = testaid.Roomy(*l, 77)
	}
	return w
}

// whole: a deep copy of all that the weights lead to, spare room too.
func whole(w api.Weights) api.Weights {
	full := w
	full.Turns = slices.Clone(w.Turns[:cap(w.Turns)])
	full.Layers = slices.Clone(w.Layers[:cap(w.Layers)])
	full.Medusa = slices.Clone(w.Medusa[:cap(w.Medusa)])
	for _, l := range narrowLists(&full) {
		*l = slices.Clone((*l)[:cap(*l)])
	}
	return full
}

// guard keeps how the weights are; the answered function tells whether they still are so.
func guard(w api.Weights) func() bool {
	was := whole(w)
	return func() bool { return reflect.DeepEqual(whole(w), was) }
}

// overwriteAll writes all over what the weights lead to.
func overwriteAll(w api.Weights) {
	for _, l := range narrowLists(&w) {
		testaid.Overwrite(*l, 55)
	}
	testaid.Overwrite(w.Turns, api.Turn{C: 5, S: 5})
	testaid.Overwrite(w.Layers, api.Layer{By: api.Shifts{5, 5, 5, 5, 5, 5, 5}})
	testaid.Overwrite(w.Medusa, api.Mat{})
}

func hold(t *testing.T, what string, kept func() bool) {
	t.Helper()
	if !kept() {
		t.Errorf("%s changed something", what)
	}
}

func TestWeightsAsGiven(t *testing.T) {
	s := testaid.Source(40)
	for _, c := range someConfigs() {
		w := s.Weights(c)
		m, e := model.New(w)
		if e != api.OK || m.Config() != c {
			t.Fatalf("New: error %d, measures %v", e, m.Config())
		}
		sameWeights(t, "Weights", m.Weights(), w)
		sameWeights(t, "Weights again", m.Weights(), w)
	}
}

func TestNilModel(t *testing.T) {
	var none *model.Model
	if none.Config() != (api.Config{}) {
		t.Errorf("a nil model's measures: %v", none.Config())
	}
	if !reflect.DeepEqual(none.Weights(), api.Weights{}) {
		t.Errorf("a nil model's weights: %v", none.Weights())
	}
}

// TestArgumentsStay: no call changes what it is handed, the room behind its end neither.
func TestArgumentsStay(t *testing.T) {
	s := testaid.Source(41)
	for _, c := range someConfigs() {
		w := roomyWeights(s.Weights(c))
		kept := guard(w)
		model.Check(w)
		hold(t, "Check", kept)
		m, _ := model.New(w)
		hold(t, "New", kept)
		b, _ := model.Encode(w)
		hold(t, "Encode", kept)
		m.Weights()
		hold(t, "Weights", kept)
		b = testaid.Roomy(b, 77)
		was := slices.Clone(b[:cap(b)])
		model.Decode(b)
		model.Load(b)
		model.Decode(b[:len(b)-1])
		model.Load(append(b[:len(b):len(b)], 1))
		if !bytes.Equal(b[:cap(b)], was) {
			t.Errorf("Decode or Load changed the bytes")
		}
		w.Layers[0].By[0] = 25
		kept = guard(w)
		model.Check(w)
		model.New(w)
		model.Encode(w)
		hold(t, "a call that was refused", kept)
	}
}

// TestNothingKept: what is written later into what was handed in is seen nowhere.
func TestNothingKept(t *testing.T) {
	s := testaid.Source(42)
	for _, c := range someConfigs() {
		w := roomyWeights(s.Weights(c))
		want := s.Weights(c)
		b, _ := model.Encode(want)
		bytesWere := slices.Clone(b)
		m, _ := model.New(w)
		was := m.Weights()
		overwriteAll(w)
		sameWeights(t, "the model's weights, once the argument was written over", m.Weights(), was)
		decoded, _ := model.Decode(b)
		loaded, _ := model.Load(b)
		testaid.Overwrite(b, 55)
		sameWeights(t, "Decode's answer, once the bytes were written over", decoded, want)
		sameWeights(t, "a loaded model's weights, once the bytes were written over", loaded.Weights(), want)
		b, _ = model.Encode(want)
		overwriteAll(want)
		if !bytes.Equal(b, bytesWere) {
			t.Errorf("Encode's answer changed as the weights were written over")
		}
	}
}

// TestAnswersAreTheirOwn: who writes into an answer changes no model, no argument and no other answer.
func TestAnswersAreTheirOwn(t *testing.T) {
	s := testaid.Source(43)
	for _, c := range someConfigs() {
		w := s.Weights(c)
		b, _ := model.Encode(w)
		made, _ := model.New(w)
		loaded, _ := model.Load(b)
		bytesWere := slices.Clone(b)
		kept := guard(w)
		decoded, _ := model.Decode(b)
		overwriteAll(decoded)
		for _, m := range []*model.Model{made, loaded} {
			other := m.Weights()
			keptOther := guard(other)
			overwriteAll(m.Weights())
			sameWeights(t, "a model's weights, once an answer was written over", m.Weights(), w)
			hold(t, "writing into Weights' answer", keptOther)
		}
		hold(t, "writing into an answer", kept)
		if !bytes.Equal(b, bytesWere) {
			t.Errorf("writing into an answer changed the bytes")
		}
		again, _ := model.Encode(w)
		testaid.Overwrite(again, 55)
		hold(t, "writing into Encode's answer", kept)
		third, _ := model.Encode(w)
		if !bytes.Equal(third, bytesWere) {
			t.Errorf("Encode answers something else the second time")
		}
	}
}

// apart: no two lists of the weights share memory, spare room included.
func apart(t *testing.T, what string, w api.Weights) {
	t.Helper()
	lists := narrowLists(&w)
	for i, l := range lists {
		others := slices.Delete(slices.Clone(lists), i, i+1)
		were := make([][]int8, len(others))
		for k, o := range others {
			were[k] = slices.Clone((*o)[:cap(*o)])
		}
		testaid.Overwrite(*l, int8(i+60))
		for k, o := range others {
			if !slices.Equal(were[k], (*o)[:cap(*o)]) {
				t.Errorf("%s: two lists share memory", what)
			}
		}
	}
}

// TestListsApart: no two lists of one answer share memory, though those that were handed in do.
func TestListsApart(t *testing.T) {
	s := testaid.Source(44)
	c := config([8]int{8, 8, 1, 1, 3, 8, 5, 4})
	w := s.Weights(c)
	one := s.Matrix(8, 8)
	for _, m := range matrices(&w) {
		*m = one
	}
	for _, g := range gains(&w) {
		*g = one.Data[3:11]
	}
	fits(t, "weights whose lists share memory", w)
	m, _ := model.New(w)
	sameWeights(t, "Weights", m.Weights(), w)
	apart(t, "Weights", m.Weights())
	b := written(t, w)
	decoded, _ := model.Decode(b)
	apart(t, "Decode", decoded)
	loaded, _ := model.Load(b)
	apart(t, "Weights of a loaded model", loaded.Weights())
}

// TestModelsApart: two models of the same weights know nothing of one another.
func TestModelsApart(t *testing.T) {
	s := testaid.Source(45)
	w := s.Weights(someConfigs()[2])
	a, _ := model.New(w)
	b, _ := model.New(w)
	if a == b {
		t.Errorf("New answers one model twice")
	}
	overwriteAll(a.Weights())
	sameWeights(t, "the other model's weights", b.Weights(), w)
	c := b.Config()
	c.Vocab = 1
	if a.Config() != w.Config || b.Config() != w.Config {
		t.Errorf("Config's answer is the model's own")
	}
}
