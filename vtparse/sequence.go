package vtparse

import "lanyard/api"

// maxInter is how many bytes an Inter has at most.
const maxInter = 2

// sequence is what was collected since the last ESC.
type sequence struct {
	private byte
	final   byte
	params  params
	inter   [maxInter]byte
	inters  int
	text    [api.MaxOsc]byte
	length  int // of the text
}

// params are the numbers of a sequence, -1 for one that is left away.
type params struct {
	list   [api.MaxParams]int
	count  int
	beyond bool // one has begun that has no room in the list
}

// action returns the action of that Kind that the sequence comes to; what its Kind does not have was not collected.
func (s *sequence) action(kind int) api.Action {
	return api.Action{
		Kind:    kind,
		Final:   s.final,
		Private: s.private,
		Params:  append([]int(nil), s.params.list[:s.params.count]...),
		Inter:   string(s.inter[:s.inters]),
		Text:    string(s.text[:s.length]),
	}
}

func (s *sequence) addInter(b byte) {
	if s.inters < len(s.inter) {
		s.inter[s.inters] = b
		s.inters++
	}
}

func (s *sequence) addText(b byte) {
	if s.length < len(s.text) {
		s.text[s.length] = b
		s.length++
	}
}

// put takes a digit or a semicolon.
func (l *params) put(b byte) {
	if l.count == 0 {
		l.begin()
	}
	if b == ';' {
		l.begin()
		return
	}
	if !l.beyond {
		last := &l.list[l.count-1]
		*last = min(max(*last, 0)*10+int(b-'0'), api.MaxParam)
	}
}

// begin adds a parameter, which is left away until a digit comes.
func (l *params) begin() {
	if l.count == len(l.list) {
		l.beyond = true
		return
	}
	l.list[l.count] = -1
	l.count++
}
