package model_test

import (
	"bytes"
	"encoding/binary"
	"hash/fnv"
	"reflect"
	"slices"
	"strconv"
	"testing"

	"augur/api"
	"augur/model"
	"augur/testaid"
)

// part: a section as the chapter says it.
type part struct {
	letter byte
	body   []byte
}

func (p part) bytes() []byte {
	return append(binary.LittleEndian.AppendUint32([]byte{p.letter}, uint32(len(p.body))), p.body...)
}

func asBytes(lists ...[]int8) []byte {
	out := []byte{}
	for _, l := range lists {
		for _, x := range l {
			out = append(out, uint8(x))
		}
	}
	return out
}

// parts: the sections of some weights, the digest aside.
func parts(w api.Weights) []part {
	c := w.Config
	measures := []byte{byte(c.Vocab), byte(c.Width), byte(c.Heads), byte(c.KV), byte(c.Layers), byte(c.Hidden), byte(c.Len), byte(c.Medusa)}
	turns := []byte{}
	for _, t := range w.Turns {
		turns = binary.LittleEndian.AppendUint16(turns, uint16(int16(t.C)))
		turns = binary.LittleEndian.AppendUint16(turns, uint16(int16(t.S)))
	}
	out := []part{{67, measures}, {69, asBytes(w.Embed.Data)}, {84, turns}}
	for _, l := range w.Layers {
		body := asBytes(l.Norm1, l.Norm2, l.Q.Data, l.K.Data, l.V.Data, l.O.Data, l.G.Data, l.U.Data, l.D.Data)
		for _, n := range l.By {
			body = append(body, byte(n))
		}
		out = append(out, part{76, body})
	}
	out = append(out, part{70, asBytes(w.Final)}, part{72, asBytes(w.Head.Data)})
	for _, m := range w.Medusa {
		out = append(out, part{77, asBytes(m.Data)})
	}
	return out
}

// joined: the first bytes and the sections, without a digest.
func joined(ps []part) []byte {
	out := []byte{0x61, 0x75, 0x67, 0x75, 0x72, 0x01}
	for _, p := range ps {
		out = append(out, p.bytes()...)
	}
	return out
}

// sealed: the bytes and a right digest behind them.
func sealed(b []byte) []byte {
	h := fnv.New64a()
	h.Write(b)
	z := part{90, binary.LittleEndian.AppendUint64(nil, h.Sum64())}
	return append(slices.Clone(b), z.bytes()...)
}

func written(t *testing.T, w api.Weights) []byte {
	t.Helper()
	b, e := model.Encode(w)
	if e != api.OK {
		t.Fatalf("Encode: error %d", e)
	}
	return b
}

// plain: the weights with nil for lists without elements, which count as the same.
func plain(w api.Weights) api.Weights {
	if len(w.Medusa) == 0 {
		w.Medusa = nil
	}
	return w
}

func sameWeights(t *testing.T, what string, got, want api.Weights) {
	t.Helper()
	if !reflect.DeepEqual(plain(got), plain(want)) {
		t.Errorf("%s: other weights", what)
	}
}

// noFile: neither Decode nor Load takes the bytes, and nothing stands beside the error.
func noFile(t *testing.T, what string, b []byte) {
	t.Helper()
	w, e := model.Decode(b)
	if e != api.ErrFile || !reflect.DeepEqual(w, api.Weights{}) {
		t.Errorf("Decode, %s: error %d, Vocab %d", what, e, w.Config.Vocab)
	}
	m, e := model.Load(b)
	if e != api.ErrFile || m != nil {
		t.Errorf("Load, %s: error %d", what, e)
	}
}

// isFile: the bytes are taken, and are those of what is answered.
func isFile(t *testing.T, what string, b []byte) api.Weights {
	t.Helper()
	w, e := model.Decode(b)
	if e != api.OK {
		t.Errorf("Decode, %s: error %d", what, e)
		return w
	}
	if again, e := model.Encode(w); e != api.OK || !bytes.Equal(again, b) {
		t.Errorf("%s: Encode of Decode gives other bytes", what)
	}
	return w
}

func leastWeights() api.Weights {
	mat := func(rows, cols int) api.Mat { return api.Mat{Rows: rows, Cols: cols, Data: make([]int8, rows*cols)} }
	none := func() []int8 { return make([]int8, 2) }
	return api.Weights{
		Config: config([8]int{2, 2, 1, 1, 1, 1, 1, 0}),
		Embed:  mat(2, 2),
		Turns:  make([]api.Turn, 1),
		Layers: []api.Layer{{Norm1: none(), Norm2: none(), Q: mat(2, 2), K: mat(2, 2), V: mat(2, 2), O: mat(2, 2), G: mat(1, 2), U: mat(1, 2), D: mat(2, 1)}},
		Final:  none(),
		Head:   mat(2, 2),
	}
}

// TestLeastFile: all of its 104 bytes.
func TestLeastFile(t *testing.T) {
	want := []byte{0x61, 0x75, 0x67, 0x75, 0x72, 0x01}
	want = append(want, 67, 8, 0, 0, 0, 2, 2, 1, 1, 1, 1, 1, 0)
	want = append(want, 69, 4, 0, 0, 0, 0, 0, 0, 0)
	want = append(want, 84, 4, 0, 0, 0, 0, 0, 0, 0)
	want = append(want, 76, 33, 0, 0, 0)
	want = append(want, make([]byte, 33)...)
	want = append(want, 70, 2, 0, 0, 0, 0, 0)
	want = append(want, 72, 4, 0, 0, 0, 0, 0, 0, 0)
	want = append(want, 90, 8, 0, 0, 0)
	h := uint64(14695981039346656037)
	for _, x := range want[:91] {
		h = (h ^ uint64(x)) * 1099511628211
	}
	for range 8 {
		want = append(want, byte(h%256))
		h /= 256
	}
	got := written(t, leastWeights())
	if len(got) != 104 || !bytes.Equal(got, want) {
		t.Errorf("the least file: %x, want %x", got, want)
	}
	sameWeights(t, "Decode of the least file", isFile(t, "the least file", want), leastWeights())
}

// TestFileNumbers: each number of the least file alone, at its place.
func TestFileNumbers(t *testing.T) {
	set := func(what string, at int, want []byte, change func(w *api.Weights)) {
		t.Helper()
		w := leastWeights()
		change(&w)
		got := written(t, w)
		all := written(t, leastWeights())[:91]
		copy(all[at:], want)
		if !bytes.Equal(got, sealed(all)) {
			t.Errorf("%s: %x, want %x", what, got, sealed(all))
		}
		sameWeights(t, what, isFile(t, what, sealed(all)), w)
	}
	set("Len", 17, []byte{64}, func(w *api.Weights) { w.Config.Len = 64 })
	set("Embed", 24, []byte{1, 0x81, 0xff, 127}, func(w *api.Weights) { copy(w.Embed.Data, []int8{1, -127, -1, 127}) })
	set("a turn of 1 and -1", 33, []byte{1, 0, 0xff, 0xff}, func(w *api.Weights) { w.Turns[0] = api.Turn{C: 1, S: -1} })
	set("a turn of Unit and -Unit", 33, []byte{0, 0x40, 0, 0xc0}, func(w *api.Weights) { w.Turns[0] = api.Turn{C: 16384, S: -16384} })
	set("a turn of 258 and -259", 33, []byte{2, 1, 0xfd, 0xfe}, func(w *api.Weights) { w.Turns[0] = api.Turn{C: 258, S: -259} })
	layer := func(w *api.Weights) *api.Layer { return &w.Layers[0] }
	set("Norm1", 42, []byte{1, 2}, func(w *api.Weights) { copy(layer(w).Norm1, []int8{1, 2}) })
	set("Norm2", 44, []byte{3, 0x84}, func(w *api.Weights) { copy(layer(w).Norm2, []int8{3, -124}) })
	set("Q", 46, []byte{5, 6, 7, 8}, func(w *api.Weights) { copy(layer(w).Q.Data, []int8{5, 6, 7, 8}) })
	set("K", 50, []byte{5, 6, 7, 8}, func(w *api.Weights) { copy(layer(w).K.Data, []int8{5, 6, 7, 8}) })
	set("V", 54, []byte{5, 6, 7, 8}, func(w *api.Weights) { copy(layer(w).V.Data, []int8{5, 6, 7, 8}) })
	set("O", 58, []byte{5, 6, 7, 8}, func(w *api.Weights) { copy(layer(w).O.Data, []int8{5, 6, 7, 8}) })
	set("G", 62, []byte{5, 6}, func(w *api.Weights) { copy(layer(w).G.Data, []int8{5, 6}) })
	set("U", 64, []byte{5, 6}, func(w *api.Weights) { copy(layer(w).U.Data, []int8{5, 6}) })
	set("D", 66, []byte{5, 6}, func(w *api.Weights) { copy(layer(w).D.Data, []int8{5, 6}) })
	set("By", 68, []byte{24, 1, 2, 3, 4, 5, 23}, func(w *api.Weights) { layer(w).By = api.Shifts{24, 1, 2, 3, 4, 5, 23} })
	set("Final", 80, []byte{9, 0x81}, func(w *api.Weights) { copy(w.Final, []int8{9, -127}) })
	set("Head", 87, []byte{5, 6, 7, 8}, func(w *api.Weights) { copy(w.Head.Data, []int8{5, 6, 7, 8}) })
}

func TestEncodeIsTheFile(t *testing.T) {
	s := testaid.Source(20)
	for _, c := range someConfigs() {
		for range 5 {
			w := s.Weights(c)
			want := sealed(joined(parts(w)))
			if got := written(t, w); !bytes.Equal(got, want) {
				t.Errorf("Encode of weights with %v: %d bytes, want %d", c, len(got), len(want))
			}
			sameWeights(t, "Decode", isFile(t, "a file", want), w)
			m, e := model.Load(want)
			if e != api.OK || m == nil {
				t.Fatalf("Load: error %d", e)
			}
			sameWeights(t, "Load", m.Weights(), w)
			if m.Config() != c {
				t.Errorf("Load: measures %v, want %v", m.Config(), c)
			}
		}
	}
}

// TestTwoWeightsTwoFiles: a change of any one number changes the file, and is read again.
func TestTwoWeightsTwoFiles(t *testing.T) {
	s := testaid.Source(21)
	w := s.Weights(config([8]int{3, 8, 2, 1, 2, 3, 5, 1}))
	base := written(t, w)
	differs := func(what string) {
		t.Helper()
		b := written(t, w)
		if bytes.Equal(b, base) {
			t.Errorf("%s changed, but not the file", what)
		}
		sameWeights(t, what, isFile(t, what, b), w)
	}
	lists := [][]int8{}
	for _, m := range matrices(&w) {
		lists = append(lists, m.Data)
	}
	for _, g := range gains(&w) {
		lists = append(lists, *g)
	}
	for _, l := range lists {
		for i, was := range l {
			l[i] = -was / 2
			if was == 0 {
				l[i] = 1
			}
			differs("a number of 8 bits")
			l[i] = was
		}
	}
	for i, was := range w.Turns {
		w.Turns[i].C = -was.C / 2
		differs("C")
		w.Turns[i] = api.Turn{C: was.C, S: -was.S / 2}
		differs("S")
		w.Turns[i] = was
	}
	for i := range w.Layers {
		for k, was := range w.Layers[i].By {
			w.Layers[i].By[k] = (was + 1) % 25
			differs("a shift")
			w.Layers[i].By[k] = was
		}
	}
	w.Config.Len++
	differs("Len")
}

// TestEveryByteChanged: another byte anywhere is no file.
func TestEveryByteChanged(t *testing.T) {
	b := written(t, leastWeights())
	for i, was := range b {
		for x := range 256 {
			if b[i] = byte(x); b[i] != was {
				noFile(t, "byte "+strconv.Itoa(i)+" made "+strconv.Itoa(x), b)
			}
		}
		b[i] = was
	}
	s := testaid.Source(22)
	b = written(t, s.Weights(someConfigs()[2]))
	for i, was := range b {
		b[i] = was ^ byte(1+s.Below(255))
		noFile(t, "byte "+strconv.Itoa(i)+" changed", b)
		b[i] = was
	}
}

// TestEveryByteChangedUnderItsDigest: with the digest made right a file is one just if its weights fit.
func TestEveryByteChangedUnderItsDigest(t *testing.T) {
	b := written(t, leastWeights())[:91]
	for i, was := range b {
		for x := range 256 {
			b[i] = byte(x)
			what := "byte " + strconv.Itoa(i) + " made " + strconv.Itoa(x)
			if mayStand(i, x) || b[i] == was {
				isFile(t, what, sealed(b))
			} else {
				noFile(t, what+", the digest made right", sealed(b))
			}
		}
		b[i] = was
	}
}

// mayStand: may this byte stand at this place of the least file, all else being as it is?
func mayStand(place, x int) bool {
	in := func(from, n int) bool { return from <= place && place < from+n }
	switch {
	case place == 17: // Len
		return 1 <= x && x <= 64
	case place == 33 || place == 35: // the lower byte of C, of S
		return true
	case place == 34 || place == 36: // the upper one
		return x <= 64 || x >= 192
	case in(68, 7): // By
		return x <= 24
	case in(24, 4), in(42, 26), in(80, 2), in(87, 4):
		return x != 128
	}
	return false
}

// TestTurnsInFiles: all turns that two bytes can say.
func TestTurnsInFiles(t *testing.T) {
	b := written(t, leastWeights())[:91]
	for n := -32768; n < 32768; n += 1 + 250*btoi(n < -16390 || n > 16390 || n > -16380 && n < 16380) {
		binary.LittleEndian.PutUint16(b[33:], uint16(n))
		binary.LittleEndian.PutUint16(b[35:], uint16(-n))
		if n < -16384 || n > 16384 {
			noFile(t, "a turn beyond Unit", sealed(b))
			continue
		}
		w := isFile(t, "a turn", sealed(b))
		if want := (api.Turn{C: int64(n), S: int64(-n)}); len(w.Turns) != 1 || w.Turns[0] != want {
			t.Errorf("turns read: %v, want %v", w.Turns, want)
		}
	}
}

func btoi(b bool) int {
	if b {
		return 1
	}
	return 0
}

// TestCutAndLonger: bytes missing at the end, or some more.
func TestCutAndLonger(t *testing.T) {
	s := testaid.Source(23)
	for _, w := range []api.Weights{leastWeights(), s.Weights(someConfigs()[2])} {
		b := written(t, w)
		for i := range b {
			noFile(t, "cut to "+strconv.Itoa(i)+" bytes", b[:i:i])
			// What lies behind the end of a list is none of it.
			noFile(t, "cut, the rest still in the spare room", b[:i])
			if i < len(b)-13 {
				noFile(t, "cut, with a digest", sealed(b[:i]))
			}
		}
		for x := range 256 {
			noFile(t, "a byte more", append(slices.Clone(b), byte(x)))
		}
		noFile(t, "itself once more", append(slices.Clone(b), b...))
		noFile(t, "a byte ahead", append([]byte{0}, b...))
		noFile(t, "a second digest", sealed(b))
		noFile(t, "bytes ahead of the digest", sealed(append(b[:len(b)-13:len(b)-13], 0)))
		noFile(t, "without a digest", b[:len(b)-13])
		noFile(t, "much more", append(slices.Clone(b), make([]byte, 1<<20)...))
	}
	noFile(t, "nil", nil)
	noFile(t, "no bytes", []byte{})
	noFile(t, "zeros", make([]byte, 104))
	noFile(t, "the beginning alone", []byte("augur\x01"))
	noFile(t, "the beginning and a digest", sealed([]byte("augur\x01")))
}

// TestSections: sections in another order, twice, missing, foreign, with the digest made right.
func TestSections(t *testing.T) {
	s := testaid.Source(24)
	for _, c := range []api.Config{config([8]int{2, 2, 1, 1, 1, 1, 1, 0}), config([8]int{4, 4, 1, 1, 2, 2, 3, 2})} {
		ps := parts(s.Weights(c))
		isFile(t, "all sections", sealed(joined(ps)))
		for i := range ps {
			noFile(t, "a section twice", sealed(joined(slices.Insert(slices.Clone(ps), i, ps[i]))))
			noFile(t, "a section missing", sealed(joined(slices.Delete(slices.Clone(ps), i, i+1))))
			noFile(t, "a section at the end again", sealed(joined(append(slices.Clone(ps), ps[i]))))
			for k := range i {
				other := slices.Clone(ps)
				other[i], other[k] = other[k], other[i]
				if ps[i].letter == ps[k].letter {
					isFile(t, "two sections of one letter changed about", sealed(joined(other)))
				} else {
					noFile(t, "two sections changed about", sealed(joined(other)))
				}
			}
			for x := range 256 {
				other := slices.Clone(ps)
				other[i].letter = byte(x)
				if byte(x) != ps[i].letter {
					noFile(t, "another letter", sealed(joined(other)))
				}
				foreign := part{byte(x), []byte{1, 2}}
				noFile(t, "a foreign section", sealed(joined(slices.Insert(slices.Clone(ps), i, foreign))))
			}
			noFile(t, "an empty section", sealed(joined(slices.Insert(slices.Clone(ps), i, part{ps[i].letter, nil}))))
			noFile(t, "a byte between", sealed(append(append(joined(ps[:i]), 0), joined(ps[i:])[6:]...)))
		}
		early := append(joined(ps[:3]), sealed(joined(ps[:3]))[len(joined(ps[:3])):]...)
		noFile(t, "a digest in the midst", sealed(append(early, joined(ps[3:])[6:]...)))
	}
}

// TestLengths: bodies too long and too short, and lengths that lie.
func TestLengths(t *testing.T) {
	s := testaid.Source(25)
	ps := parts(s.Weights(config([8]int{4, 4, 1, 1, 2, 2, 3, 2})))
	for i, p := range ps {
		with := func(q part) []byte {
			other := slices.Clone(ps)
			other[i] = q
			return sealed(joined(other))
		}
		noFile(t, "a byte more in a body", with(part{p.letter, append(slices.Clone(p.body), 1)}))
		noFile(t, "a byte less in a body", with(part{p.letter, p.body[1:]}))
		noFile(t, "no body", with(part{p.letter, nil}))
		noFile(t, "a body twice", with(part{p.letter, append(slices.Clone(p.body), p.body...)}))
		ahead := len(joined(ps[:i]))
		all := joined(ps)
		for _, n := range []int{0, len(p.body) - 1, len(p.body) + 1, len(p.body) + 256, len(p.body) + 1<<16, len(p.body) + 1<<24, 1<<31 - 1, 1 << 31, 1<<32 - 1, len(all)} {
			lie := slices.Clone(all)
			binary.LittleEndian.PutUint32(lie[ahead+1:], uint32(n))
			noFile(t, "a length that lies", sealed(lie))
		}
		lie := slices.Clone(all)
		binary.BigEndian.PutUint32(lie[ahead+1:], uint32(len(p.body)))
		noFile(t, "a length with the highest byte first", sealed(lie))
	}
	// Two neighbours that share their bytes otherwise.
	moved := slices.Clone(ps)
	moved[1].body, moved[2].body = ps[1].body[:len(ps[1].body)-1], append([]byte{1}, ps[2].body...)
	noFile(t, "a byte of one section in the next", sealed(joined(moved)))
}

// TestDigest: it must be that of the bytes ahead, with a section of eight bytes.
func TestDigest(t *testing.T) {
	body := written(t, leastWeights())[:91]
	right := sealed(body)[96:]
	with := func(p part) []byte { return append(slices.Clone(body), p.bytes()...) }
	isFile(t, "the right digest", with(part{'Z', right}))
	noFile(t, "a digest of seven bytes", with(part{'Z', right[:7]}))
	noFile(t, "a digest of nine bytes", with(part{'Z', append(slices.Clone(right), 0)}))
	noFile(t, "no digest", with(part{'Z', nil}))
	noFile(t, "a digest of zeros", with(part{'Z', make([]byte, 8)}))
	noFile(t, "another letter", with(part{'z', right}))
	turned := slices.Clone(right)
	slices.Reverse(turned)
	noFile(t, "a digest with the highest byte first", with(part{'Z', turned}))
	h := fnv.New64a()
	h.Write(append(slices.Clone(body), 'Z', 8, 0, 0, 0))
	noFile(t, "the digest of its own letter too", with(part{'Z', binary.LittleEndian.AppendUint64(nil, h.Sum64())}))
	other := fnv.New64()
	other.Write(body)
	noFile(t, "FNV-1", with(part{'Z', binary.LittleEndian.AppendUint64(nil, other.Sum64())}))
	h.Reset()
	h.Write(body[6:])
	noFile(t, "the digest without the beginning", with(part{'Z', binary.LittleEndian.AppendUint64(nil, h.Sum64())}))
}

// TestWrongWeightsUnderTheirDigest: what does not fit has no file, whatever its digest.
func TestWrongWeightsUnderTheirDigest(t *testing.T) {
	s := testaid.Source(26)
	c := config([8]int{4, 4, 2, 1, 2, 3, 3, 2})
	wrong := func(what string, change func(w *api.Weights)) {
		t.Helper()
		w := s.Weights(c)
		change(&w)
		noFile(t, what, sealed(joined(parts(w))))
	}
	w := s.Weights(c)
	for name := range matrices(&w) {
		wrong(name+" with -128", func(w *api.Weights) { matrices(w)[name].Data[3] = -128 })
	}
	for name := range gains(&w) {
		wrong(name+" with -128", func(w *api.Weights) { (*gains(w)[name])[3] = -128 })
	}
	wrong("a shift of 25", func(w *api.Weights) { w.Layers[1].By[6] = 25 })
	wrong("a shift of 255", func(w *api.Weights) { w.Layers[0].By[0] = 255 })
	wrong("a turn of 16385", func(w *api.Weights) { w.Turns[0].C = 16385 })
	wrong("a turn of -16385", func(w *api.Weights) { w.Turns[0].S = -16385 })
	wrong("a layer too many", func(w *api.Weights) { w.Layers = append(w.Layers, s.Layer(c)) })
	wrong("a layer too few", func(w *api.Weights) { w.Layers = w.Layers[1:] })
	wrong("a Medusa matrix too many", func(w *api.Weights) { w.Medusa = append(w.Medusa, s.Matrix(4, 4)) })
	wrong("a Medusa matrix too few", func(w *api.Weights) { w.Medusa = w.Medusa[1:] })
	wrong("a turn too many", func(w *api.Weights) { w.Turns = append(w.Turns, api.Turn{}) })
	wrong("no turns", func(w *api.Weights) { w.Turns = nil })
	wrong("a row too many", func(w *api.Weights) { w.Embed = s.Matrix(5, 4) })
	for at, n := range [8]int{65, 34, 5, 3, 5, 65, 65, 5} {
		wrong("a measure above its bound", func(w *api.Weights) {
			m := [8]int{4, 4, 2, 1, 2, 3, 3, 2}
			m[at] = n
			w.Config = config(m)
		})
	}
}

// TestMeasuresThatMayNotBe: files that would hold together but for their measures.
func TestMeasuresThatMayNotBe(t *testing.T) {
	s := testaid.Source(27)
	for _, n := range [][8]int{
		{1, 4, 2, 1, 1, 3, 8, 0}, {65, 4, 2, 1, 1, 3, 8, 0}, {5, 34, 1, 1, 1, 3, 8, 0}, {5, 6, 2, 1, 1, 3, 8, 0},
		{5, 8, 4, 3, 1, 3, 8, 0}, {5, 4, 2, 0, 1, 3, 8, 0}, {5, 4, 1, 2, 1, 3, 8, 0}, {5, 10, 5, 1, 1, 3, 8, 0},
		{5, 4, 2, 1, 0, 3, 8, 0}, {5, 4, 2, 1, 5, 3, 8, 0}, {5, 4, 2, 1, 1, 0, 8, 0}, {5, 4, 2, 1, 1, 65, 8, 0},
		{5, 4, 2, 1, 1, 3, 0, 0}, {5, 4, 2, 1, 1, 3, 65, 0}, {5, 4, 2, 1, 1, 3, 8, 5}, {0, 4, 2, 1, 1, 3, 8, 0},
		{5, 3, 1, 1, 1, 3, 8, 0}, {255, 254, 1, 1, 1, 3, 8, 0},
	} {
		noFile(t, "measures that may not be", sealed(joined(parts(s.Weights(config(n))))))
	}
	noHeads := parts(leastWeights())
	noHeads[0].body[2] = 0
	noFile(t, "no heads", sealed(joined(noHeads)))
}

// TestFileExamples: the chapter's fourth.
func TestFileExamples(t *testing.T) {
	b := written(t, leastWeights())
	noFile(t, "no bytes", nil)
	noFile(t, "without its last byte", b[:103])
	noFile(t, "with a byte more", append(slices.Clone(b), 0))
	ps := parts(leastWeights())
	ps[4], ps[5] = ps[5], ps[4]
	noFile(t, "F and H changed about", sealed(joined(ps)))
}
