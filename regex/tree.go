package regex

// part: a part of an expression.
type part interface{ isPart() }

// byteSet: which bytes something stands for.
type byteSet [256]bool

// The kinds of parts: one that reads one byte, and those that are made of others.
type (
	place struct{ bytes byteSet }
	none  struct{}
	then  struct{ a, b part }
	or    struct{ a, b part }
	star  struct{ a part }
	plus  struct{ a part }
	maybe struct{ a part }
)

func (place) isPart() {}
func (none) isPart()  {}
func (then) isPart()  {}
func (or) isPart()    {}
func (star) isPart()  {}
func (plus) isPart()  {}
func (maybe) isPart() {}

// span: all bytes from one to another.
func span(low, high byte) byteSet {
	var s byteSet
	for b := int(low); b <= int(high); b++ {
		s[b] = true
	}
	return s
}

// members: the bytes of a text.
func members(text string) byteSet {
	var s byteSet
	for i := range len(text) {
		s[text[i]] = true
	}
	return s
}

// and: the bytes of both.
func (s byteSet) and(t byteSet) byteSet {
	for b, in := range t {
		s[b] = s[b] || in
	}
	return s
}

// others: the bytes that it does not have.
func (s byteSet) others() byteSet {
	for b, in := range s {
		s[b] = !in
	}
	return s
}
