package tparm

import "lanyard/api"

// machine evaluates the string of a capability.
type machine struct {
	vars   *Vars
	params []api.Param
	stack  []api.Param
	out    []byte
	depth  int // of the conditions that have begun and not ended
}

// run returns what the items write, or where they go too far.
func (m *machine) run(items []item) (string, int, api.Errno) {
	for i := 0; i < len(items); i++ {
		switch it := items[i]; it.verb {
		case verbText:
			if room := api.MaxOut - len(m.out); len(it.text) > room {
				return "", it.at + room, api.ErrLong
			}
			m.out = append(m.out, it.text...)
		case '?', 't', 'e', ';':
			i = m.branch(items, i)
		default:
			if err := m.do(it); err != api.OK {
				return "", it.at, err
			}
		}
	}
	return string(m.out), 0, api.OK
}

// branch passes over the part of a condition that items[i] decides against, and returns the index of the last item passed over.
func (m *machine) branch(items []item, i int) int {
	verb := items[i].verb
	switch {
	case verb == '?':
		m.depth++
	case m.depth == 0:
		// Outside of a condition the others have no effect: a t pops nothing there.
	case verb == ';':
		m.depth--
	case verb == 'e':
		return m.skip(items, i, false)
	case m.pop().Num == 0:
		return m.skip(items, i, true)
	}
	return i
}

// skip returns the index of the item with which the condition of items[i] ends, or that of an e ahead of it if it goes on there; the number of items if it does neither.
func (m *machine) skip(items []item, i int, toElse bool) int {
	inner := 0
	for i++; i < len(items); i++ {
		switch verb := items[i].verb; {
		case verb == '?':
			inner++
		case verb == ';' && inner > 0:
			inner--
		case verb == ';':
			m.depth--
			return i
		case verb == 'e' && inner == 0 && toElse:
			return i
		}
	}
	return i
}

// do evaluates a sequence that does not belong to conditions.
func (m *machine) do(it item) api.Errno {
	switch it.verb {
	case '%':
		return m.write("%")
	case 'c':
		return m.write(string([]byte{byte(m.pop().Num)}))
	case 'd', 'o', 'x', 'X', 's':
		return m.write(it.form.apply(it.verb, m.pop()))
	case 'i':
		m.increment()
	case 'P':
		m.vars.values[byte(it.num)] = m.pop()
	case 'p':
		return m.push(m.param(int(it.num)))
	case 'g':
		return m.push(m.vars.Get(byte(it.num)))
	case verbNum:
		return m.push(api.Param{Num: it.num})
	default:
		return m.push(api.Param{Num: m.result(it.verb)})
	}
	return api.OK
}

func (m *machine) write(s string) api.Errno {
	if len(m.out)+len(s) > api.MaxOut {
		return api.ErrLong
	}
	m.out = append(m.out, s...)
	return api.OK
}

func (m *machine) push(p api.Param) api.Errno {
	if len(m.stack) == api.MaxStack {
		return api.ErrStack
	}
	m.stack = append(m.stack, p)
	return api.OK
}

// pop returns the value on the top of the stack, which loses it.
func (m *machine) pop() api.Param {
	top := len(m.stack) - 1
	if top < 0 {
		return api.Param{}
	}
	p := m.stack[top]
	m.stack = m.stack[:top]
	return p
}

// param returns the parameter with that digit.
func (m *machine) param(digit int) api.Param {
	if digit > len(m.params) {
		return api.Param{}
	}
	return m.params[digit-1]
}

// increment adds 1 to the first two parameters, for screens that count from 1.
func (m *machine) increment() {
	for i, p := range m.params {
		if i < 2 && !p.Is {
			m.params[i].Num++
		}
	}
}

// result returns the number that an operation makes of the values that it pops.
func (m *machine) result(verb byte) int32 {
	last := m.pop()
	switch verb {
	case 'l':
		return int32(len(last.Text))
	case '!':
		return truth(last.Num == 0)
	case '~':
		return ^last.Num
	}
	return binary(verb, m.pop().Num, last.Num)
}

// binary returns x verb y. Go lets numbers of 32 bits wrap around as the language does, also the least one divided by -1.
func binary(verb byte, x, y int32) int32 {
	switch verb {
	case '+':
		return x + y
	case '-':
		return x - y
	case '*':
		return x * y
	case '/', 'm':
		return quotient(verb, x, y)
	case '&':
		return x & y
	case '|':
		return x | y
	case '^':
		return x ^ y
	case '=':
		return truth(x == y)
	case '>':
		return truth(x > y)
	case '<':
		return truth(x < y)
	case 'A':
		return truth(x != 0 && y != 0)
	}
	return truth(x != 0 || y != 0)
}

// quotient returns x / y, or the remainder of it.
func quotient(verb byte, x, y int32) int32 {
	switch {
	case y == 0:
		return 0
	case verb == '/':
		return x / y
	}
	return x % y
}

func truth(b bool) int32 {
	if b {
		return 1
	}
	return 0
}
