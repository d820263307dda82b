package tparm

import (
	"fmt"
	"math/rand/v2"
	"regexp"
	"slices"
	"strconv"
	"strings"
	"testing"

	"lanyard/api"
)

// sequencePattern is a sequence at the beginning of a string, but for ', whose byte may be any.
var sequencePattern = regexp.MustCompile(`^%(?:[%cil+*/m&|^=><AO!~?te;-]|p[1-9]|[Pg][A-Za-z]|\{-?[0-9]{1,9}\}|(?::([-+# 0]*)|([# 0]*))([0-9]*)(?:(\.)([0-9]*))?[doxXs])`)

// token is a byte that stands for itself, or a sequence.
type token struct {
	at   int
	text string
	verb string // empty for a byte that stands for itself
	form modelFormat
}

type modelFormat struct {
	flags            string
	width, precision int
	hasPrecision     bool
}

// outcome is what Run returns.
type outcome struct {
	out string
	at  int
	err api.Errno
}

// modelCut cuts a string into tokens, or says where that fails.
func modelCut(s string) ([]token, int, api.Errno) {
	var l []token
	for at := 0; at < len(s); at += len(l[len(l)-1].text) {
		rest := s[at:]
		if rest[0] != '%' {
			l = append(l, token{at: at, text: rest[:1]})
			continue
		}
		if len(rest) >= 4 && rest[1] == '\'' && rest[3] == '\'' {
			l = append(l, token{at: at, text: rest[:4], verb: "'"})
			continue
		}
		m := sequencePattern.FindStringSubmatch(rest)
		if m == nil {
			return nil, at, api.ErrParm
		}
		width, precision := modelNumber(m[3]), modelNumber(m[5])
		if width > 1000 || precision > 1000 {
			return nil, at, api.ErrParm
		}
		verb := m[0][1:2]
		if end := m[0][len(m[0])-1:]; strings.Contains(": #.0123456789", verb) {
			verb = end
		}
		l = append(l, token{at, m[0], verb, modelFormat{m[1] + m[2], width, precision, m[4] != ""}})
	}
	return l, 0, api.OK
}

// modelNumber returns a number, but at most 1001.
func modelNumber(digits string) int {
	digits = strings.TrimLeft(digits, "0")
	if len(digits) > 4 {
		return 1001
	}
	n, _ := strconv.Atoi(digits)
	return min(n, 1001)
}

// modelJumps says of each t and e within a condition with which token goes on what it skips: conditions are matched ahead of evaluation.
func modelJumps(l []token) map[int]int {
	type condition struct{ ts, es []int }
	jumps := map[int]int{}
	var open []*condition
	settle := func(from []int, to int) []int {
		for _, i := range from {
			jumps[i] = to
		}
		return nil
	}
	for i, tok := range l {
		if tok.verb == "?" {
			open = append(open, &condition{})
		}
		if len(open) == 0 {
			continue
		}
		c := open[len(open)-1]
		switch tok.verb {
		case "t":
			c.ts = append(c.ts, i)
		case "e":
			c.ts = settle(c.ts, i+1)
			c.es = append(c.es, i)
		case ";":
			settle(c.ts, i+1)
			settle(c.es, i+1)
			open = open[:len(open)-1]
		}
	}
	for _, c := range open {
		settle(c.ts, len(l))
		settle(c.es, len(l))
	}
	return jumps
}

// modelWritten formats a value by the words of P4.3.
func modelWritten(f modelFormat, verb string, p api.Param) string {
	has := func(flag string) bool { return strings.Contains(f.flags, flag) }
	prefix, body := "", ""
	switch verb {
	case "s":
		body = p.Text
		if f.hasPrecision && len(body) > f.precision {
			body = body[:f.precision]
		}
	case "d":
		n := int64(p.Num)
		switch {
		case n < 0:
			prefix, n = "-", -n
		case has("+"):
			prefix = "+"
		case has(" "):
			prefix = " "
		}
		body = fmt.Sprint(n)
	default:
		body = fmt.Sprintf("%"+verb, uint32(p.Num))
	}
	if verb != "s" {
		if f.hasPrecision && f.precision == 0 && p.Num == 0 {
			body = ""
		}
		if f.hasPrecision && len(body) < f.precision {
			body = strings.Repeat("0", f.precision-len(body)) + body
		}
		if has("#") && verb == "o" && (body == "" || body[0] != '0') {
			prefix = "0"
		}
		if has("#") && strings.Contains("xX", verb) && p.Num != 0 {
			prefix = "0" + verb
		}
	}
	missing := max(f.width-len(prefix)-len(body), 0)
	switch {
	case has("-"):
		body += strings.Repeat(" ", missing)
	case has("0") && !f.hasPrecision && verb != "s":
		prefix += strings.Repeat("0", missing)
	default:
		prefix = strings.Repeat(" ", missing) + prefix
	}
	return prefix + body
}

// model evaluates tokens one by one.
type model struct {
	vars   map[byte]api.Param
	params []api.Param
	stack  []api.Param
	out    []byte
}

func (m *model) pop() api.Param {
	if len(m.stack) == 0 {
		return api.Param{}
	}
	p := m.stack[len(m.stack)-1]
	m.stack = m.stack[:len(m.stack)-1]
	return p
}

func (m *model) number() int64 { return int64(m.pop().Num) }

// pushed returns what a token pushes, and whether it does.
func (m *model) pushed(tok token) (api.Param, bool) {
	number := func(n int64) (api.Param, bool) { return api.Param{Num: int32(n)}, true }
	switch tok.verb {
	case "p":
		if n := int(tok.text[2] - '0'); n <= len(m.params) {
			return m.params[n-1], true
		}
		return number(0)
	case "g":
		return m.vars[tok.text[2]], true
	case "'":
		return number(int64(tok.text[2]))
	case "{":
		n, _ := strconv.ParseInt(tok.text[2:len(tok.text)-1], 10, 64)
		return number(n)
	case "l":
		return number(int64(len(m.pop().Text)))
	case "!":
		return number(wantBinary('=', m.number(), 0))
	case "~":
		return number(-1 - m.number())
	case "+", "-", "*", "/", "m", "&", "|", "^", "=", ">", "<", "A", "O":
		y := m.number()
		return number(wantBinary(tok.verb[0], m.number(), y))
	}
	return api.Param{}, false
}

// written returns what a token writes.
func (m *model) written(tok token) string {
	switch tok.verb {
	case "":
		return tok.text
	case "%":
		return "%"
	case "c":
		return string([]byte{byte(m.number())})
	case "d", "o", "x", "X", "s":
		return modelWritten(tok.form, tok.verb, m.pop())
	}
	return ""
}

func (m *model) run(l []token) outcome {
	jumps := modelJumps(l)
	for i := 0; i < len(l); i++ {
		to, inside := jumps[i]
		switch tok := l[i]; {
		case tok.verb == "e" && inside, tok.verb == "t" && inside && m.number() == 0:
			i = to - 1
		case tok.verb == "P":
			m.vars[tok.text[2]] = m.pop()
		case tok.verb == "i":
			for n := range m.params[:min(2, len(m.params))] {
				if !m.params[n].Is {
					m.params[n].Num++
				}
			}
		default:
			if p, ok := m.pushed(tok); ok {
				if len(m.stack) == 64 {
					return outcome{"", tok.at, api.ErrStack}
				}
				m.stack = append(m.stack, p)
			}
			if m.out = append(m.out, m.written(tok)...); len(m.out) > 16384 {
				return outcome{"", tok.at, api.ErrLong}
			}
		}
	}
	return outcome{string(m.out), 0, api.OK}
}

// modelRun is Run, for a string that is not too long and arguments that are right.
func modelRun(s string, vars map[byte]api.Param, params []api.Param) outcome {
	l, at, err := modelCut(s)
	if err != api.OK {
		return outcome{"", at, err}
	}
	m := model{vars: vars, params: slices.Clone(params)}
	return m.run(l)
}

func modelUsed(s string) int {
	l, _, _ := modelCut(s)
	used := 0
	for _, tok := range l {
		switch tok.verb {
		case "p":
			used = max(used, int(tok.text[2]-'0'))
		case "i":
			used = max(used, 2)
		}
	}
	return used
}

func runOf(s string, v *Vars, params []api.Param) outcome {
	out, at, err := New(s).Run(v, params...)
	return outcome{out, at, err}
}

// checkRun holds all that a capability answers against the model, and P4.5 and P4.6; it returns the error of Run.
func checkRun(t *testing.T, s string, v *Vars, vars map[byte]api.Param, params []api.Param) api.Errno {
	t.Helper()
	before, again := slices.Clone(params), v.Clone()
	ahead := v.Clone()
	want := modelRun(s, vars, params)
	got := runOf(s, v, params)
	if got != want {
		t.Fatalf("%q with %v returns\n%.200v, not\n%.200v", s, params, got, want)
	}
	wantVars(t, v, vars)
	if !slices.Equal(params, before) {
		t.Fatalf("%q changes its parameters to %v", s, params)
	}
	if repeated := runOf(s, again, params); repeated != want {
		t.Fatalf("%q with %v returns %.200v at the second time, not %.200v", s, params, repeated, want)
	}
	wantVars(t, again, vars)
	const literal = "ab\x00"
	if want.err == api.OK && len(want.out)+len(literal) <= api.MaxOut {
		want.out = literal + want.out
	} else if want.err == api.ErrStack || want.err == api.ErrParm {
		want.at += len(literal)
	} else {
		want = outcome{}
	}
	if behind := runOf(literal+s, ahead, params); want != (outcome{}) && len(s) < 4000 && behind != want {
		t.Fatalf("%q with %v returns %.200v behind a literal, not %.200v", s, params, behind, want)
	}
	checkStatic(t, s, got)
	return got.err
}

// checkStatic holds Check and Used against the model and against what Run returned.
func checkStatic(t *testing.T, s string, ran outcome) {
	t.Helper()
	_, wantAt, wantErr := modelCut(s)
	at, err := New(s).Check()
	if at != wantAt || err != wantErr || err != api.OK && ran != (outcome{"", at, err}) {
		t.Fatalf("Check of %q returns %d, %d, not %d, %d", s, at, err, wantAt, wantErr)
	}
	if used := New(s).Used(); used != modelUsed(s) {
		t.Fatalf("Used of %q returns %d, not %d", s, used, modelUsed(s))
	}
}

var (
	writing    = []string{"a", ";", "\xff", "%%", "%c", "%d", "%d", "%:-4d", "%:+d", "% d", "%03d", "%.3d", "%x", "%#x", "%#o", "%X", "%s", "%s", "%5s", "%.2s", "%.0d"}
	pushing    = []string{"%p1", "%p1", "%p2", "%p3", "%p9", "%ga", "%gb", "%gZ", "%'x'", "%'%'", "%';'", "%{0}", "%{0}", "%{1}", "%{1}", "%{-7}", "%{999999999}"}
	reckoning  = []string{"%l", "%!", "%~", "%+", "%-", "%*", "%/", "%m", "%&", "%|", "%^", "%=", "%>", "%<", "%A", "%O", "%i", "%Pa", "%Pb", "%PZ"}
	conditions = []string{"%?", "%?", "%t", "%t", "%e", "%;", "%;"}
	greedy     = []string{"%1000d", "%.1000x", "%:-1000s", "%999d", "aaaa", "%p1%s"}
	odd        = []string{"%", "%5", "%p0", "%Pé", "%'", "%{", "%{}", "%:", "%1001d", "%#-d", "%y", "'", "}", "d", "9", " "}
)

// pickCap returns the string of a capability, chosen by pick.
func pickCap(pick func(n int) int) string {
	kinds := [][][]string{
		{writing, pushing, reckoning, conditions},
		{writing, pushing, pushing, reckoning, conditions, conditions},
		{pushing, conditions, writing},
		{pushing, pushing, pushing, pushing, pushing, pushing, reckoning},
		{greedy, greedy, greedy, greedy, pushing},
		{writing, pushing, reckoning, conditions, odd},
	}[pick(6)]
	var s strings.Builder
	for range pick([]int{3, 8, 20, 50, 150}[pick(5)]) {
		l := kinds[pick(len(kinds))]
		s.WriteString(l[pick(len(l))])
	}
	return s.String()
}

func pickValue(pick func(n int) int) api.Param {
	if pick(4) == 0 {
		return Text([]string{"", "abc", "\x00%", strings.Repeat("x", 5000)}[pick(4)])
	}
	return Num(append([]int{4, 9, 24, 80, -100}, sampleNumbers...)[pick(5+len(sampleNumbers))])
}

// TestModel: P4.1 to P4.6, many capabilities, of which some follow each other with the same variables.
func TestModel(t *testing.T) {
	met := map[api.Errno]int{}
	for seed := range uint64(8000) {
		pick := rand.New(rand.NewPCG(seed, 4)).IntN
		v, vars := NewVars(), map[byte]api.Param{}
		for range 1 + pick(3) {
			var params []api.Param
			for range pick(10) {
				params = append(params, pickValue(pick))
			}
			if pick(8) == 0 {
				letter, p := "aZ"[pick(2)], pickValue(pick)
				wantSet(t, v, letter, p, api.OK)
				vars[letter] = p
			}
			met[checkRun(t, pickCap(pick), v, vars, params)]++
		}
	}
	for _, err := range []api.Errno{api.OK, api.ErrParm, api.ErrStack, api.ErrLong} {
		if met[err] < 200 {
			t.Errorf("the capabilities return %d only %d times", err, met[err])
		}
	}
}

// TestFormats: P4.3, all flags with many widths, precisions and numbers.
func TestFormats(t *testing.T) {
	for set := range 32 {
		flags := ""
		for i, flag := range []string{"-", "+", "#", " ", "0"} {
			if set>>i&1 == 1 {
				flags += flag
			}
		}
		for _, width := range []string{"", "1", "2", "3", "10", "11", "12", "40"} {
			for _, precision := range []string{"", ".", ".0", ".1", ".2", ".9", ".10", ".11", ".40"} {
				s := ""
				for _, verb := range "doxXs" {
					s += "%p1%:" + flags + width + precision + string(verb) + "|"
				}
				for _, n := range sampleNumbers {
					checkRun(t, s, NewVars(), map[byte]api.Param{}, []api.Param{Num(n)})
				}
				checkRun(t, s, NewVars(), map[byte]api.Param{}, []api.Param{Text("twelve bytes")})
			}
		}
	}
}

// FuzzRun: P4.1 to P4.6, for strings and parameters that the fuzzer chooses.
func FuzzRun(f *testing.F) {
	for _, s := range []string{"\x1b[%i%p1%d;%p2%dH", "%?%p1%{8}%<%t3%p1%d%e9%;m", "%p2%l%d%p2%:-5.2s%Pa%ga%'x'%c", "50%"} {
		f.Add(s, 3, "abc")
	}
	f.Fuzz(func(t *testing.T, s string, n int, text string) {
		if len(s) > api.MaxCap {
			wantCheck(t, s, 0, api.ErrLong)
			return
		}
		v, vars := NewVars(), map[byte]api.Param{}
		params := []api.Param{Num(n), Text(text), Num(1)}
		checkRun(t, s, v, vars, params)
		checkRun(t, s, v, vars, params[:n&3])
	})
}
