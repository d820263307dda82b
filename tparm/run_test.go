package tparm

import (
	"math"
	"strconv"
	"strings"
	"testing"

	"lanyard/api"
)

// TestLiterals: P4.5, bytes that stand for themselves, each one, and beside sequences.
func TestLiterals(t *testing.T) {
	wantRun(t, "", "")
	wantRun(t, "$<5/> \\E^A", "$<5/> \\E^A")
	for b := range allBytes {
		if s := string([]byte{byte(b)}); s != "%" {
			wantRun(t, s, s)
			wantRun(t, s+"7"+s+"%"+s, s+"%p1%d"+s+"%%"+s, Num(7))
		}
	}
	for _, n := range []int{0, 9, 10, -1, math.MaxInt32, math.MinInt32} {
		wantRun(t, strconv.Itoa(n), "%p1%d", Num(n))
	}
}

// TestChar: the sequences %% and %c.
func TestChar(t *testing.T) {
	wantRun(t, "%d", "%%d", Num(1))
	for b := range allBytes {
		want := string([]byte{byte(b)})
		for _, n := range []int{b, b + 256, b - 256, b + 0x7fffff00} {
			wantRun(t, want, "%p1%c", Num(n))
		}
		wantRun(t, want, "%'"+want+"'%c")
		wantRun(t, strconv.Itoa(b), "%'"+want+"'%d")
	}
	wantRun(t, "\x00", "%c")
	wantRun(t, "\x00", "%p1%c", Text("a"))
}

// TestParams: p and i, with fewer parameters than they ask for, and with strings.
func TestParams(t *testing.T) {
	wantRun(t, "0", "%p1%d")
	wantRun(t, "7000", "%p1%d%p2%d%p3%d%p9%d", Num(7))
	wantRun(t, "ab", "%p2%s%p1%s", args("b", "a")...)
	wantRun(t, "2;3;3", "%i%p1%d;%p2%d;%p3%d", args(1, 2, 3)...)
	wantRun(t, "3;4;3", "%i%i%p1%d;%p2%d;%p3%d", args(1, 2, 3)...)
	wantRun(t, "2;2;1", "%p1%i%p2%d;%p1%d;%PZ%gZ%d", args(1, 1)...)
	wantRun(t, "12", "%p1%p1%i%d%p1%d", Num(1))
	wantRun(t, "a;3;c", "%i%p1%s;%p2%d;%p3%s", args("a", 2, "c")...)
	wantRun(t, "2;b", "%i%p1%d;%p2%s", args(1, "b")...)
	wantRun(t, "-2147483648", "%i%p1%d", Num(math.MaxInt32))
	wantRun(t, "0", "%i%p3%d")
	// There are fewer than two parameters: those that are not there have nothing to add to.
	wantRun(t, "0;0", "%i%p1%d;%p2%d")
	wantRun(t, "5;0", "%i%p1%d;%p2%d", Num(4))
}

// TestConstants: ' and {.
func TestConstants(t *testing.T) {
	for s, want := range map[string]string{
		"%{0}": "0", "%{-0}": "0", "%{7}": "7", "%{-7}": "-7", "%{999999999}": "999999999", "%{-999999999}": "-999999999", "%{000000012}": "12",
		"%' '": "32", "%'''": "39", "%'%'": "37", "%'{'": "123", "%'\xe9'": "233", "%'\n'": "10",
	} {
		wantRun(t, want, s+"%d")
	}
}

// TestLength: l.
func TestLength(t *testing.T) {
	for s, want := range map[string]string{"": "0", "a": "1", "\xc3\xa9\x00": "3", strings.Repeat("x", 100000): "100000"} {
		wantRun(t, want, "%p1%l%d", Text(s))
	}
	wantRun(t, "0", "%p1%l%d", Num(55))
	wantRun(t, "0", "%l%d")
	wantRun(t, "1", "%p1%l%Pa%ga%d", Text("q"))
}

// sampleNumbers are those at which operations change.
var sampleNumbers = []int{0, 1, -1, 2, -2, 3, 7, -7, 255, 65536, 46341, -46341, math.MaxInt32, math.MaxInt32 - 1, math.MinInt32, math.MinInt32 + 1}

// wantBinary says what the chapter says, in numbers that do not wrap around.
func wantBinary(op byte, x, y int64) int64 {
	is := func(b bool) int64 {
		if b {
			return 1
		}
		return 0
	}
	switch {
	case (op == '/' || op == 'm') && y == 0:
		return 0
	case op == '/':
		return x / y
	case op == 'm':
		return x % y
	}
	return map[byte]int64{
		'+': x + y, '-': x - y, '*': x * y, '&': x & y, '|': x | y, '^': x ^ y,
		'=': is(x == y), '>': is(x > y), '<': is(x < y), 'A': is(x != 0 && y != 0), 'O': is(x != 0 || y != 0),
	}[op]
}

// TestOperations: the operations on two numbers and on one, with every pair of samples, and with strings and an empty stack, which count as 0.
func TestOperations(t *testing.T) {
	for _, op := range []byte("+-*/m&|^=><AO") {
		seq := "%" + string(op) + "%d"
		for _, x := range sampleNumbers {
			for _, y := range sampleNumbers {
				want := strconv.Itoa(int(int32(wantBinary(op, int64(x), int64(y)))))
				wantRun(t, want, "%p1%p2"+seq, args(x, y)...)
			}
			want := strconv.Itoa(int(int32(wantBinary(op, 0, int64(x)))))
			wantRun(t, want, "%p1"+seq, Num(x))
			wantRun(t, want, "%p2%p1"+seq, args(x, "9")...)
			want = strconv.Itoa(int(int32(wantBinary(op, int64(x), 0))))
			wantRun(t, want, "%p1%p2"+seq, args(x, "9")...)
		}
		wantRun(t, strconv.Itoa(int(wantBinary(op, 0, 0))), seq)
	}
	for _, x := range sampleNumbers {
		not := "0"
		if x == 0 {
			not = "1"
		}
		wantRun(t, not, "%p1%!%d", Num(x))
		wantRun(t, strconv.Itoa(-1-x), "%p1%~%d", Num(x))
	}
	for _, s := range []string{"", "1"} {
		wantRun(t, "1-1", "%p1%!%d%p1%~%d", Text(s))
	}
	wantRun(t, "1-1", "%!%d%~%d")
	wantRun(t, "5;1;0", "%p1%p2%p3%+%Pa%ga%d;%d;%d", args(1, 2, 3)...)
}

// TestLeast: P4.2, the quotient of the least number and -1, and remainders with the sign of the first operand.
func TestLeast(t *testing.T) {
	wantRun(t, "-2147483648;0", "%p1%p2%/%d;%p1%p2%m%d", args(math.MinInt32, -1)...)
	wantRun(t, "-2;-1;-2;1", "%p1%{3}%/%d;%p1%{3}%m%d;%p2%{-3}%/%d;%p2%{-3}%m%d", args(-7, 7)...)
	wantRun(t, "0;0", "%p1%{0}%/%d;%p1%{0}%m%d", Num(math.MinInt32))
}

// TestVariables: P and g, that variables stay from run to run, and that they contain strings too.
func TestVariables(t *testing.T) {
	v := NewVars()
	wantRunOn(t, v, "", "%p1%Pa%p2%PA", args(5, "text")...)
	wantRunOn(t, v, "5textA0", "%ga%d%gA%sA%gb%d")
	wantRunOn(t, v, "", "%Pa")
	wantVars(t, v, map[byte]api.Param{'A': Text("text")})
	all := "zyxwvutsrqponmlkjihgfedcbaZYXWVUTSRQPONMLKJIHGFEDCBA"
	var put, get, want strings.Builder
	for i, r := range all {
		put.WriteString("%{" + strconv.Itoa(i) + "}%P" + string(r))
		get.WriteString("%g" + string(r) + "%d,")
		want.WriteString(strconv.Itoa(i) + ",")
	}
	wantRun(t, want.String(), put.String()+get.String())
}

// TestConditions: what is written and what is skipped.
func TestConditions(t *testing.T) {
	for _, c := range []struct {
		s    string
		nums []any
		want string
	}{
		{"[%?%p1%ta%eb%;]", []any{1}, "[a]"},
		{"[%?%p1%ta%eb%;]", []any{0}, "[b]"},
		{"[%?%p1%ta%eb%;]", []any{-1}, "[a]"},
		{"[%?%p1%ta%eb%;]", []any{"text"}, "[b]"},
		{"[%?%p1%ta%;]", []any{1}, "[a]"},
		{"[%?%p1%ta%;]", []any{0}, "[]"},
		{"[%?%ta%eb%;]", nil, "[b]"},
		{"[%?%;]", nil, "[]"},
		{"[%?x%p1%ty%;]", []any{0}, "[x]"},
		// Conditions behind an e of the same condition, until one holds.
		{"[%?%p1%ta%e%p2%tb%e%p3%tc%ed%;]", []any{1, 1, 1}, "[a]"},
		{"[%?%p1%ta%e%p2%tb%e%p3%tc%ed%;]", []any{0, 1, 1}, "[b]"},
		{"[%?%p1%ta%e%p2%tb%e%p3%tc%ed%;]", []any{0, 0, 1}, "[c]"},
		{"[%?%p1%ta%e%p2%tb%e%p3%tc%ed%;]", []any{0, 0, 0}, "[d]"},
		// Conditions inside.
		{"[%?%p1%t%?%p2%ta%eb%;%e%?%p2%tc%ed%;%;]", []any{1, 1}, "[a]"},
		{"[%?%p1%t%?%p2%ta%eb%;%e%?%p2%tc%ed%;%;]", []any{1, 0}, "[b]"},
		{"[%?%p1%t%?%p2%ta%eb%;%e%?%p2%tc%ed%;%;]", []any{0, 1}, "[c]"},
		{"[%?%p1%t%?%p2%ta%eb%;%e%?%p2%tc%ed%;%;]", []any{0, 0}, "[d]"},
		{"[%?%?%p1%t%{1}%e%{0}%;%ta%eb%;]", []any{1}, "[a]"},
		{"[%?%?%p1%t%{1}%e%{0}%;%ta%eb%;]", []any{0}, "[b]"},
		{"[%?%p1%ta%?%?%;%;%?%e%;%eb%;]", []any{0}, "[b]"},
		{"[%?%p1%ta%eb%?%?%e%;%;c%;]", []any{1}, "[a]"},
		{"[%?%p1%ta%eb%?%?%e%;%;c%;]", []any{0}, "[bc]"},
		// More than one t, more than one e, and an e without a t.
		{"[%?%p1%ta%p2%tb%ec%;]", []any{1, 1}, "[ab]"},
		{"[%?%p1%ta%p2%tb%ec%;]", []any{1, 0}, "[ac]"},
		{"[%?%p1%ta%p2%tb%ec%;]", []any{0, 1}, "[c]"},
		{"[%?%p1%ta%eb%ec%;]", []any{1}, "[a]"},
		{"[%?%p1%ta%eb%ec%;]", []any{0}, "[b]"},
		{"[%?a%eb%;]", nil, "[a]"},
		{"[%?%p1%ta%?b%ec%;d%;]", []any{1}, "[abd]"},
		// What a t skips may have a t of its own.
		{"[%?%{0}%ta%tb%;]", nil, "[]"},
		// An end that is not there.
		{"[%?%p1%ta%eb", []any{1}, "[a"},
		{"[%?%p1%ta%eb", []any{0}, "[b"},
		{"[%?%p1%ta", []any{0}, "["},
		{"[%?%p1%ta", []any{1}, "[a"},
		{"[%?%p1%ta%?%eb%;c", []any{0}, "["},
		{"[%?", nil, "["},
		{"[%?%t", nil, "["},
		{"[%?%e", nil, "["},
		// A sequence in what is skipped counts with its operand.
		{"[%?%p1%t%'%'e%;]", []any{0}, "[]"},
		{"[%?%p1%t%';'%'e'%;]", []any{0}, "[]"},
		{"[%?%p1%t%%;%%e%;]", []any{0}, "[]"},
		{"[%?%p1%t%%?%;]x%;", []any{0}, "[]x"},
		{"[%?%p1%ta%e%'%';%%;%;]", []any{1}, "[a]"},
		{"[%?%p1%t%{1}%Pa%i%p1%d%e%ga%d%p1%d%;]", []any{0}, "[00]"},
		// Outside a condition.
		{"[%{1}%t%d]", nil, "[1]"},
		{"[%{0}%ta%eb%;c]", nil, "[abc]"},
		{"[a%eb%;c%e%;d]", nil, "[abcd]"},
		{"[%?%;%{7}%t%d%ea%;]", nil, "[7a]"},
		{"[%?%p1%ta%;%eb%;%{7}%t%d]", []any{1}, "[ab7]"},
		{"[%?%p1%ta%;%eb%;%{7}%t%d]", []any{0}, "[b7]"},
		{"[%?%p1%ta%eb%;%ec%{7}%t%d]", []any{1}, "[ac7]"},
		{"[%?%p1%ta%eb%;%ec%{7}%t%d]", []any{0}, "[bc7]"},
		{"[%;%;%?%p1%ta%eb%;]", []any{0}, "[b]"},
		{"[%?%?%?%;%p1%ta%eb%;%p1%tc%ed%;e%ef]", []any{0}, "[bdef]"},
		{"[%?%?%?%;%p1%ta%eb%;%p1%tc%ed%;e%ef]", []any{1}, "[acef]"},
	} {
		wantRun(t, c.want, c.s, args(c.nums...)...)
	}
}

// TestConditionsPop: that a t pops a number, and one outside a condition does not.
func TestConditionsPop(t *testing.T) {
	wantRun(t, "0", "%?%{5}%t%d%;")
	wantRun(t, "4", "%?%{4}%{5}%t%d%;")
	wantRun(t, "4", "%?%{4}%{0}%t%e%d%;")
	wantRun(t, "5", "%{4}%{5}%t%d")
	wantRun(t, "5", "%?%{4}%{5}%e%;%d")
}

// TestDeepConditions: R1, as many conditions as a string has room for, skipped and not.
func TestDeepConditions(t *testing.T) {
	deep := strings.Repeat("%?", 1000) + "a" + strings.Repeat("%;", 1000)
	wantRun(t, "a", deep)
	wantRun(t, "b", "%?%t"+deep+"%eb%;")
	wantRun(t, "", strings.Repeat("%?%t", 1024))
	wantRun(t, "", strings.Repeat("%?%e", 1024))
	wantRun(t, "", strings.Repeat("%;", 2048))
}

// TestStack: P4.2 (Run), a stack that is full, with what pushes and what pops before it pushes.
func TestStack(t *testing.T) {
	full := strings.Repeat("%{1}", 64)
	wantRun(t, "", full)
	for _, push := range []string{"%p1", "%p9", "%ga", "%'a'", "%{1}"} {
		wantFail(t, len(full), api.ErrStack, full+push)
		wantFail(t, len(full)+6, api.ErrStack, "ab"+full+"%i%%"+push+"cd")
		wantRun(t, "1", full+"%d"+push)
		wantRun(t, "", full+"%Pb"+push)
		wantRun(t, "", full+"%?%t"+push+"%;")
		wantRun(t, "", "%?%t"+full+push+"%;")
		wantFail(t, len(full)+2+len(push), api.ErrStack, full+"%+"+push+push)
		v := wantFail(t, len(full)+7, api.ErrStack, full+"%Pb"+"%{1}"+push+"%Pc", Text("a"))
		wantVars(t, v, map[byte]api.Param{'b': Num(1)})
	}
	for _, op := range []string{"%l", "%!", "%~"} {
		wantRun(t, "", full+op)
		wantFail(t, len(full)+2, api.ErrStack, full+op+"%{1}")
	}
	wantRun(t, "64", full+strings.Repeat("%+", 63)+"%d")
	wantRun(t, strings.Repeat("1", 64)+"0", full+strings.Repeat("%d", 65))
}

// TestOutput: P4.2 (Run), the longest output, and where one that is longer ends.
func TestOutput(t *testing.T) {
	many := strings.Repeat("%1000d", 16)
	blanks := strings.Repeat(strings.Repeat(" ", 999)+"0", 16)
	full := many + "%384d"
	longest := blanks + strings.Repeat(" ", 383) + "0"
	wantRun(t, longest, full)
	wantRun(t, longest, full+"%s%.0d%i%?%ta%;")
	wantFail(t, len(full), api.ErrLong, full+"a")
	wantFail(t, len(full)+2, api.ErrLong, full+"%iabc")
	for _, seq := range []string{"%%", "%c", "%d", "%o", "%x", "%X", "%5s", "%1000d", "%'a'%c"} {
		begin := strings.LastIndex(seq[:len(seq)-1], "%")
		wantFail(t, len(full)+begin, api.ErrLong, full+seq)
		v := wantFail(t, len(full)+begin+7, api.ErrLong, full+"%'a'%Pa"+seq+"%'b'%Pa")
		wantVars(t, v, map[byte]api.Param{'a': Num('a')})
	}
	wantFail(t, len(many), api.ErrLong, many+"%385d")
	room := strings.Repeat("x", 384)
	wantRun(t, blanks+room, many+room)
	wantFail(t, len(many)+384, api.ErrLong, many+room+"y")
	wantFail(t, len(many)+384, api.ErrLong, many+room+"yzzzz%d")
	wantFail(t, len(many)+384, api.ErrLong, many+room+"%d")
	text := Text(strings.Repeat("x", 16384))
	wantRun(t, text.Text, "%p1%s", text)
	wantRun(t, text.Text[:5], "%p1%.5s", text)
	wantFail(t, 4, api.ErrLong, "a%p1%s", text)
	wantFail(t, 5, api.ErrLong, "%p1%s%%", text)
	wantFail(t, 3, api.ErrLong, "%p1%s", Text(text.Text+"x"))
	wantRun(t, "1000000", "%p1%l%d", Text(strings.Repeat("x", 1000000)))
}
