package score_test

import (
	"runtime"
	"slices"
	"testing"

	"augur/api"
	"augur/score"
	"augur/testaid"
)

func TestBestExamples(t *testing.T) {
	m := ring(t)
	bestIs(t, m, 1, api.OK, []int{1, 3}, []int{1, 2}, []int{2, 3})
	bestIs(t, m, 0, api.ErrEmpty)
	bestIs(t, m, 0, api.ErrEmpty, []int{1, 2}, nil)
}

// Of the ring each token that does not follow has the gap 12700: so the sums tell how many of them there are, whatever their ranks and however long the texts.
func TestBestOfTheRing(t *testing.T) {
	m := ring(t)
	bestIs(t, m, 0, api.OK, []int{1})
	bestIs(t, m, 0, api.OK, []int{1, 3})
	bestIs(t, m, 0, api.OK, []int{1, 3}, []int{1, 0})
	bestIs(t, m, 0, api.OK, []int{1, 0}, []int{1, 3})
	bestIs(t, m, 1, api.OK, []int{1, 3, 3}, []int{1, 3, 1})
	bestIs(t, m, 2, api.OK, []int{1, 3, 3}, []int{1, 3, 1}, []int{2})
	bestIs(t, m, 0, api.OK, []int{1, 2, 3, 1, 2, 3, 1, 2, 3, 1, 2, 3, 1, 2, 3, 1}, []int{1, 1}, []int{1})
	bestIs(t, m, 3, api.OK, []int{1, 1, 1, 1}, []int{1, 1, 1}, []int{3, 1, 1, 1}, []int{1, 1, 2, 3, 1, 2}, []int{1, 1})
	// One great gap is more than none, and two are more than one, at whatever place.
	bestIs(t, m, 1, api.OK, []int{1, 2, 3, 3}, []int{1, 2, 3, 1}, []int{2, 2, 3, 1})
	bestIs(t, m, 2, api.OK, []int{3, 3, 3}, []int{3, 3, 2}, []int{3, 3, 1})
}

// Gaps are added up, not the ranks, and neither is a mean nor the greatest one taken: chapter 20's model has gaps of 90 alone, or none.
func TestBestCountsGaps(t *testing.T) {
	w := testaid.Tiny()
	m := made(t, w)
	// Behind 0 all are alike: the rank 2 has no gap there.
	bestIs(t, m, 1, api.OK, []int{1, 0}, []int{0, 2})
	bestIs(t, m, 0, api.OK, []int{0, 2}, []int{0, 0})
	bestIs(t, m, 1, api.OK, []int{1, 1, 1, 1, 1, 2, 1}, []int{1, 2})
	bestIs(t, m, 1, api.OK, []int{1, 0, 2}, []int{1, 0})
}

func TestBestOfDrawnTexts(t *testing.T) {
	s := testaid.Source(2410)
	places := map[int]int{}
	for _, c := range measures() {
		w := s.Lively(c)
		m := made(t, w)
		for range 12 {
			texts := drawnTexts(&s, c, 1+s.Below(9), min(c.Len, 12))
			bestAsWords(t, m, w, texts...)
			place, _ := score.Best(m, texts...)
			places[place]++
		}
	}
	if len(places) < 5 {
		t.Errorf("only the places %v were seen", places)
	}
}

// As long ones as there may be, which begin alike.
func TestBestOfLongTexts(t *testing.T) {
	s := testaid.Source(2418)
	places := map[int]int{}
	for _, c := range measures() {
		w := s.Lively(c)
		m := made(t, w)
		for range max(1, 60/c.Len) {
			first := drawnText(&s, c, (c.Len+1)/2)
			var texts [][]int
			for range 3 {
				texts = append(texts, append(slices.Clone(first), drawnText(&s, c, c.Len/2)...))
			}
			bestAsWords(t, m, w, texts...)
			place, _ := score.Best(m, texts...)
			places[place]++
		}
	}
	if len(places) < 3 {
		t.Errorf("only the places %v were seen", places)
	}
}

// The first of the least wherever they stand, among any number of texts.
func TestFirstOfTheLeast(t *testing.T) {
	m := ring(t)
	for _, n := range []int{1, 2, 3, 7, 8, 63, 64, 65, 127, 128, 129, 200, 1000} {
		for _, at := range []int{0, 1, n / 2, n - 2, n - 1} {
			if at < 0 || at >= n {
				continue
			}
			texts := slices.Repeat([][]int{{1, 2, 3, 3}}, n)
			texts[at] = []int{3, 1, 2}
			bestIs(t, m, at, api.OK, texts...)
			texts[n-1] = []int{2}
			bestIs(t, m, at, api.OK, texts...)
		}
		bestIs(t, m, 0, api.OK, slices.Repeat([][]int{{1, 2, 3, 3}}, n)...)
	}
}

// However the goroutines run: the same answer each time.
func TestBestIsTheSameEachTime(t *testing.T) {
	s := testaid.Source(2411)
	for _, c := range measures()[2:6] {
		w := s.Lively(c)
		m := made(t, w)
		texts := drawnTexts(&s, c, 70, c.Len)
		want, _ := wordsBest(t, m, w, texts)
		for range 20 {
			bestIs(t, m, want, api.OK, texts...)
		}
	}
}

// Calls at the same time, over one model and over two, do not see each other.
func TestBestsSideBySide(t *testing.T) {
	s := testaid.Source(2412)
	c := measures()[3]
	done := make(chan bool)
	const many = 8
	for i := range many {
		w := s.Lively(c)
		m := made(t, w)
		texts := drawnTexts(&s, c, 9, c.Len)
		want, _ := wordsBest(t, m, w, texts)
		go func() {
			defer func() { done <- true }()
			for range 20 {
				if got, e := score.Best(m, texts...); got != want || e != api.OK {
					t.Errorf("P24.2: side by side, call %d: Best = %d, %d, want %d", i, got, e, want)
				}
			}
		}()
	}
	for range many {
		<-done
	}
}

// All goroutines have ended, or are about to, when Best answers; that of a refused call has none.
func TestBestLeavesNoGoroutine(t *testing.T) {
	s := testaid.Source(2413)
	c := measures()[5]
	m := made(t, s.Lively(c))
	was := runtime.NumGoroutine()
	for range 20 {
		texts := drawnTexts(&s, c, 100, c.Len)
		score.Best(m, texts...)
		score.Best(m, append(texts, nil)...)
	}
	for range 100000 {
		if runtime.NumGoroutine() <= was {
			return
		}
		runtime.Gosched()
	}
	t.Errorf("%d goroutines, before %d", runtime.NumGoroutine(), was)
}

// However many texts there are, only so many goroutines are there at one time that their memory is little.
func TestBestOfVeryManyTexts(t *testing.T) {
	m := ring(t)
	texts := slices.Repeat([][]int{{1, 3, 2, 1, 3, 2, 1, 3}}, 1<<14)
	texts[10000] = []int{1, 2}
	over, most := make(chan bool), make(chan int)
	go func() {
		seen := 0
		for {
			select {
			case <-over:
				most <- seen
				return
			default:
				seen = max(seen, runtime.NumGoroutine())
				runtime.Gosched()
			}
		}
	}()
	bestIs(t, m, 10000, api.OK, texts...)
	close(over)
	if seen := <-most; seen > 1000 {
		t.Errorf("%d goroutines at one time", seen)
	}
}

// Without a model nothing else is told.
func TestBestWithoutAModel(t *testing.T) {
	bestIs(t, nil, 0, api.ErrArg)
	bestIs(t, nil, 0, api.ErrArg, nil...)
	bestIs(t, nil, 0, api.ErrArg, [][]int{}...)
	bestIs(t, nil, 0, api.ErrArg, nil, nil)
	bestIs(t, nil, 0, api.ErrArg, []int{1, 2})
	bestIs(t, nil, 0, api.ErrArg, []int{-1})
	bestIs(t, nil, 0, api.ErrArg, make([]int, 1<<20))
}

// No texts, a list that is nil, and one without elements are the same.
func TestBestOfNoTexts(t *testing.T) {
	s := testaid.Source(2414)
	for _, c := range measures() {
		m := made(t, s.Lively(c))
		bestIs(t, m, 0, api.ErrEmpty)
		bestIs(t, m, 0, api.ErrEmpty, nil...)
		bestIs(t, m, 0, api.ErrEmpty, [][]int{}...)
		bestIs(t, m, 0, api.ErrEmpty, nil)
		bestIs(t, m, 0, api.ErrEmpty, []int{})
	}
}

// The first text that has an error says which, whatever those behind it have; texts that may be, ahead of it and behind it, change nothing.
func TestFirstErrorOfTheTexts(t *testing.T) {
	s := testaid.Source(2415)
	for _, c := range measures() {
		m := made(t, s.Lively(c))
		kinds := [][]int{
			drawnText(&s, c, c.Len), {0}, nil, {}, make([]int, c.Len+1), append(make([]int, c.Len), -1), {-1}, {c.Vocab},
			append(make([]int, c.Len-1), c.Vocab), append([]int{c.Vocab}, make([]int, c.Len-1)...),
		}
		var numbers []int
		for i := range kinds {
			numbers = append(numbers, i)
		}
		for _, list := range testaid.Lists(3, numbers...)[1:] {
			var texts [][]int
			for _, kind := range list {
				texts = append(texts, kinds[kind])
			}
			if e := firstError(c, texts); e != api.OK {
				bestIs(t, m, 0, e, texts...)
			}
		}
	}
}

// At each place of many.
func TestErrorAtEachPlace(t *testing.T) {
	m := ring(t)
	for at := range 130 {
		texts := slices.Repeat([][]int{{1, 3}}, 130)
		texts[at] = []int{1, 4}
		bestIs(t, m, 0, api.ErrToken, texts...)
		texts[at] = make([]int, 17)
		bestIs(t, m, 0, api.ErrLong, texts...)
		texts[129] = nil
		want := api.ErrLong
		if at == 129 {
			want = api.ErrEmpty
		}
		bestIs(t, m, 0, want, texts...)
	}
}

// One that is far too long, or bad tokens of any size.
func TestBestRefusesBadTexts(t *testing.T) {
	s := testaid.Source(2416)
	for _, c := range measures() {
		m := made(t, s.Lively(c))
		good := drawnText(&s, c, c.Len)
		bestIs(t, m, 0, api.ErrLong, good, make([]int, 1<<20))
		for _, bad := range badTokens(c.Vocab) {
			bestIs(t, m, 0, api.ErrToken, good, []int{bad}, nil)
			bestIs(t, m, 0, api.ErrLong, good, append(slices.Clone(good), bad), []int{bad})
			for at := range c.Len {
				text := slices.Clone(good)
				text[at] = bad
				bestIs(t, m, 0, api.ErrToken, good, text)
				bestIs(t, m, 0, api.ErrToken, text, good)
			}
		}
	}
}

// Refused without work: many long texts ahead of one that may not be are not gone through the model.
func TestRefusedAheadOfWork(t *testing.T) {
	s := testaid.Source(2417)
	c := measures()[6]
	m := made(t, s.Lively(c))
	texts := slices.Repeat([][]int{drawnText(&s, c, c.Len)}, 1<<12)
	texts[len(texts)-1] = make([]int, c.Len+1)
	var before, behind runtime.MemStats
	runtime.ReadMemStats(&before)
	bestIs(t, m, 0, api.ErrLong, texts...)
	runtime.ReadMemStats(&behind)
	if more := behind.TotalAlloc - before.TotalAlloc; more > 1<<20 {
		t.Errorf("a refused call took %d bytes", more)
	}
}
