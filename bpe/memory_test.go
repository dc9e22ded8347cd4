package bpe_test

import (
	"bytes"
	"slices"
	"testing"

	"augur/api"
	"augur/bpe"
	"augur/testaid"
)

func TestArgumentsStay(t *testing.T) {
	for _, plain := range append(someVocabs(), testaid.WrongVocabs()...) {
		v := api.Vocab{Base: testaid.Roomy(plain.Base, 'a'), Pairs: testaid.Roomy(plain.Pairs, [2]int{1, 1})}
		text := testaid.Roomy(bytes.Repeat(v.Base, 3), 'b')
		tokens := testaid.Roomy([]int{1, 0, 1, 1}, 1)
		kept := []func() bool{testaid.Guard(v.Base), testaid.Guard(v.Pairs), testaid.Guard(text), testaid.Guard(tokens)}
		bpe.Check(v)
		bpe.Size(v)
		b, _ := bpe.Bytes(v, 1)
		list, _ := bpe.Encode(v, text)
		d, _ := bpe.Decode(v, tokens...)
		for _, piece := range bpe.All(v) {
			testaid.Overwrite(piece, 'z')
		}
		testaid.Overwrite(b, 'z')
		testaid.Overwrite(list, 7)
		testaid.Overwrite(d, 'z')
		for i, same := range kept {
			if !same() {
				t.Fatalf("P5.6: %v: argument %d changed", plain, i)
			}
		}
		if !bytes.Equal(v.Base, plain.Base) || !slices.Equal(v.Pairs, plain.Pairs) {
			t.Fatalf("P5.6: %v became %v", plain, v)
		}
	}
}

// Answers of one kind are asked twice; what is written over the first must not be seen in the second.
func TestAnswersAreApart(t *testing.T) {
	v, text := abc(), []byte("aabcabaa")
	want := []int{1, 5, 4, 6}
	first, second := encoded(t, v, text), encoded(t, v, text)
	testaid.Overwrite(first, 9)
	if !slices.Equal(second, want) || !slices.Equal(encoded(t, v, text), want) {
		t.Errorf("P5.6: Encode's answers share memory: %v", second)
	}
	testaid.Overwrite(text, 'z')
	testaid.Overwrite(v.Base, 'z')
	testaid.Overwrite(v.Pairs, [2]int{9, 9})
	if !slices.Equal(second, want) {
		t.Errorf("P5.6: Encode's answer shares memory with an argument: %v", second)
	}
	for token := range 7 {
		v := abc()
		first, _ := bpe.Bytes(v, token)
		second, _ := bpe.Bytes(v, token)
		third, _ := bpe.Decode(v, token)
		fourth, _ := bpe.Decode(v, token)
		testaid.Overwrite(first, 'z')
		testaid.Overwrite(third, 'y')
		testaid.Overwrite(v.Base, 'z')
		if string(second) != testaid.Spelled(abc(), token) || string(fourth) != testaid.Spelled(abc(), token) {
			t.Errorf("P5.6: the bytes of token %d share memory: %q, %q", token, second, fourth)
		}
	}
}

func TestAllSharesNothing(t *testing.T) {
	v := abc()
	all := bpe.All(v)
	testaid.Overwrite(v.Base, 'z')
	testaid.Overwrite(v.Pairs, [2]int{0, 0})
	goneThrough(t, all, abc(), 8) // what was handed in was not kept
	for range 2 {
		var kept [][]byte
		for token, piece := range all {
			if string(piece) != testaid.Spelled(abc(), token) {
				t.Errorf("P5.6: token %d of All shares memory: %q", token, piece)
			}
			testaid.Overwrite(piece, 'x')
			kept = append(kept, piece)
		}
		for i, piece := range kept {
			testaid.Overwrite(piece, byte(i))
		}
		for i, piece := range kept {
			for _, b := range piece {
				if b != byte(i) {
					t.Errorf("P5.6: pieces of All share memory: token %d", i)
				}
			}
		}
	}
	changed := abc()
	for token, piece := range bpe.All(changed) { // changed on the way
		testaid.Overwrite(changed.Base, 'z')
		if string(piece) != testaid.Spelled(abc(), token) {
			t.Errorf("P5.6: All reads what was handed in: token %d is %q", token, piece)
		}
	}
}
