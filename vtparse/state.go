package vtparse

import (
	"lanyard/api"
	"lanyard/ucell"
)

// state is what a parser is within.
type state int

// The states of a DCS sequence stand in the order of those of a CSI sequence: see Parser.enter.
const (
	ground state = iota
	escape
	escapeInter
	csiEntry
	csiParam
	csiInter
	csiIgnore
	dcsEntry
	dcsParam
	dcsInter
	dcsIgnore
	dcsText
	osc
	passing
)

// class is what a byte is within a sequence.
type class int

const (
	classControl class = iota // 0 to 1F
	classInter                // 20 to 2F
	classNumber               // 30 to 39 and 3B
	classColon                // 3A
	classPrivate              // 3C to 3F
	classFinal                // 40 to 7E
	classNone                 // 7F, and all from 80 on
)

const (
	codeBell       = 0x07
	codeCancel     = 0x18
	codeSubstitute = 0x1a
	codeEscape     = 0x1b
	codeDelete     = 0x7f
	firstHigh      = 0x80 // in the ground state, bytes from here on are those of runes
)

func classOf(b byte) class {
	switch {
	case b < 0x20:
		return classControl
	case b < 0x30:
		return classInter
	case b == ':':
		return classColon
	case b < 0x3c:
		return classNumber
	case b < 0x40:
		return classPrivate
	case b < codeDelete:
		return classFinal
	}
	return classNone
}

// take adds to l what b tells to do.
func (p *Parser) take(l []api.Action, b byte) []api.Action {
	switch {
	case p.state == ground && b >= firstHigh:
		return addPrints(l, p.decoder.Put(b))
	case p.state == ground:
		// A rune that b cuts off comes ahead of all that b does.
		l = addPrints(l, p.decoder.Flush())
	}
	a := p.step(b)
	if a.Kind == 0 {
		return l
	}
	return append(l, a)
}

// addPrints adds the runes that the decoder returned to l.
func addPrints(l []api.Action, runes []rune) []api.Action {
	for _, r := range runes {
		if !ucell.Control(r) {
			l = append(l, api.Action{Kind: api.ActPrint, Rune: r})
		}
	}
	return l
}

// step returns what b tells to do: one action, or one without a Kind if it is none.
func (p *Parser) step(b byte) api.Action {
	switch b {
	case codeCancel, codeSubstitute:
		// What was collected is of no use any more: it begins anew with the next ESC.
		p.state = ground
		return execute(b)
	case codeEscape:
		a := p.endText()
		p.sequence = sequence{}
		p.state = escape
		return a
	}
	return p.inState(b)
}

// endText returns the string that an ESC ends, if there is one.
func (p *Parser) endText() api.Action {
	switch p.state {
	case osc:
		return p.action(api.ActOsc)
	case dcsText:
		return p.action(api.ActDcs)
	}
	return api.Action{}
}

// inState is step for the bytes that do not mean the same in every state.
func (p *Parser) inState(b byte) api.Action {
	kind := classOf(b)
	switch p.state {
	case ground:
		return inGround(b, kind)
	case escape:
		if next := introduced(b); next != escape {
			p.state = next
			break
		}
		fallthrough
	case escapeInter:
		return p.inEscape(b, kind)
	case csiEntry, dcsEntry:
		if kind == classPrivate {
			p.private = b
			p.enter(csiParam)
			break
		}
		fallthrough
	case csiParam, dcsParam:
		if kind == classNumber {
			p.params.put(b)
			p.enter(csiParam)
			break
		}
		fallthrough
	case csiInter, dcsInter:
		if kind == classInter {
			p.addInter(b)
			p.enter(csiInter)
			break
		}
		if kind == classNumber || kind == classColon || kind == classPrivate {
			p.enter(csiIgnore)
			break
		}
		fallthrough
	case csiIgnore, dcsIgnore:
		return p.inSequence(b, kind)
	case dcsText:
		if b != codeDelete {
			p.addText(b)
		}
	case osc:
		return p.inOsc(b, kind)
	}
	return api.Action{}
}

// enter changes from a state of a CSI sequence to another one, or from one of a DCS sequence to the one that corresponds to it.
func (p *Parser) enter(next state) {
	if p.state >= dcsEntry {
		next += dcsEntry - csiEntry
	}
	p.state = next
}

func execute(b byte) api.Action { return api.Action{Kind: api.ActExecute, Final: b} }

func inGround(b byte, kind class) api.Action {
	switch kind {
	case classControl:
		return execute(b)
	case classNone:
		return api.Action{}
	}
	return api.Action{Kind: api.ActPrint, Rune: rune(b)}
}

// introduced returns the state to which b leads directly behind ESC, or escape if it ends a sequence there or belongs to one.
func introduced(b byte) state {
	switch b {
	case '[':
		return csiEntry
	case ']':
		return osc
	case 'P':
		return dcsEntry
	case 'X', '^', '_':
		return passing
	case '\\':
		return ground
	}
	return escape
}

func (p *Parser) inEscape(b byte, kind class) api.Action {
	switch kind {
	case classControl:
		return execute(b)
	case classInter:
		p.addInter(b)
		p.state = escapeInter
		return api.Action{}
	case classNone:
		return api.Action{}
	}
	p.final = b
	p.state = ground
	return p.action(api.ActEsc)
}

// inSequence does what a control and a final byte do in a CSI or DCS sequence.
func (p *Parser) inSequence(b byte, kind class) api.Action {
	if kind == classControl && p.state < dcsEntry {
		return execute(b)
	}
	if kind != classFinal {
		return api.Action{}
	}
	p.final = b
	switch p.state {
	case csiIgnore:
		p.state = ground
	case dcsIgnore:
		p.state = passing
	case dcsEntry, dcsParam, dcsInter:
		p.state = dcsText
	default:
		p.state = ground
		return p.action(api.ActCsi)
	}
	return api.Action{}
}

func (p *Parser) inOsc(b byte, kind class) api.Action {
	if b == codeBell {
		p.state = ground
		return p.action(api.ActOsc)
	}
	if kind != classControl {
		p.addText(b)
	}
	return api.Action{}
}
