package wire

// word: what a line may begin with, and what stands behind it.
type word struct {
	name    string
	numbers int                      // so many of Numbers stand behind the ID
	read    func(r *reader, l *Line) // reads what stands behind these
	print   func(p *printer, l Line) // the same the other way round
	only    func(l Line) bool        // are the fields empty that it does not name?
}

// words: all of them.
func words() []word {
	return []word{
		{name: "ask", numbers: 6, read: readAsk, print: printAsk, only: askOnly},
		{name: "cancel", read: readNothing, print: printNothing, only: nothing},
		{name: "ok", read: readNothing, print: printNothing, only: nothing},
		{name: "error", numbers: 1, read: readNothing, print: printNothing, only: nothing},
		{name: "text", read: readText, print: printText, only: textOnly},
		{name: "end", numbers: 1, read: readNothing, print: printNothing, only: nothing},
	}
}

// wordOf: the one of this name; false, if there is none.
func wordOf(name string) (word, bool) {
	for _, w := range words() {
		if w.name == name {
			return w, true
		}
	}
	return word{}, false
}

func readAsk(r *reader, l *Line) {
	l.Seed = r.seed()
	l.Guide = string(r.literal())
	l.Text = r.literal()
	for r.more() {
		l.Stops = append(l.Stops, string(r.literal()))
	}
}

func printAsk(p *printer, l Line) {
	p.seed(l.Seed)
	p.literal(l.Guide)
	p.literal(string(l.Text))
	for _, stop := range l.Stops {
		p.literal(stop)
	}
}

func askOnly(Line) bool { return true }

func readText(r *reader, l *Line) { l.Text = r.literal() }

func printText(p *printer, l Line) { p.literal(string(l.Text)) }

func textOnly(l Line) bool { return l.Seed == 0 && l.Guide == "" && len(l.Stops) == 0 }

func readNothing(*reader, *Line) {}

func printNothing(*printer, Line) {}

func nothing(l Line) bool { return len(l.Text) == 0 && textOnly(l) }
