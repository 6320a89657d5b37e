package parse

import (
	"slices"

	"changeling/api"
)

// parser is what is left of a source's tokens, the place of the last one that was taken, how operators bind, and the first fault.
type parser struct {
	rest  []api.Token
	last  api.Pos
	fixes []api.Fix
	fault api.Fault
}

// next is the next token; where there are no more, it is of no kind.
func (p *parser) next() api.Token {
	if len(p.rest) == 0 {
		return api.Token{}
	}
	return p.rest[0]
}

// take is the next token, which is behind then.
func (p *parser) take() api.Token {
	t := p.next()
	if len(p.rest) > 0 {
		p.last, p.rest = t.At, p.rest[1:]
	}
	return t
}

// fail tells a fault at the next token, unless there was one. There are no more tokens then, so that all that reads on comes to an end.
func (p *parser) fail(err api.Errno) {
	if p.fault.Err != api.OK {
		return
	}
	at := p.last
	if len(p.rest) > 0 {
		at = p.rest[0].At
	}
	p.fault = api.Fault{Err: err, At: at}
	p.rest = nil
}

// kind takes a token that must be of a kind.
func (p *parser) kind(kind int) api.Token {
	if p.next().Kind != kind {
		p.fail(api.ErrParse)
	}
	return p.take()
}

// mark takes a mark that must be there, and tells whether it was.
func (p *parser) mark(text string) bool {
	there := isMark(p.next(), text)
	if !there {
		p.fail(api.ErrParse)
	}
	p.take()
	return there
}

// word takes a word that must be there.
func (p *parser) word(text string) {
	if !isWord(p.next(), text) {
		p.fail(api.ErrParse)
	}
	p.take()
}

// number takes an INT that has no sign ahead.
func (p *parser) number() api.Token {
	if p.next().N < 0 {
		p.fail(api.ErrNumber)
	}
	return p.take()
}

// below takes an INT behind its sign, and the bracket behind it. The least number is its own counterpart.
func (p *parser) below() api.Token {
	t := p.kind(api.WInt)
	t.N = -t.N
	p.mark(")")
	return t
}

// block reads what stands between braces, parted by semicolons.
func (p *parser) block(least int, begins func(api.Token) bool, part func()) {
	p.mark("{")
	n, free := 0, true
parts:
	for {
		switch t := p.next(); {
		case isMark(t, ";"):
			p.take()
			free = true
		case free && begins(t):
			part()
			n++
			free = false
		default:
			break parts
		}
	}
	if n < least {
		p.fail(api.ErrParse)
	}
	p.mark("}")
}

func isMark(t api.Token, texts ...string) bool {
	return t.Kind == api.WMark && slices.Contains(texts, t.Text)
}

func isWord(t api.Token, texts ...string) bool {
	return t.Kind == api.WWord && slices.Contains(texts, t.Text)
}
