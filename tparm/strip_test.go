package tparm

import (
	"math"
	"math/big"
	"math/rand/v2"
	"regexp"
	"strings"
	"testing"
)

func wantStrip(t *testing.T, s string, lines int, want string, time int64) {
	t.Helper()
	if got, gotTime := Strip(s, lines); got != want || gotTime != time {
		t.Errorf("Strip of %.60q with %d lines returns %.60q, %d, not %.60q, %d", s, lines, got, gotTime, want, time)
	}
}

// TestStripTimes: P4.4, what is a padding specification, and its time.
func TestStripTimes(t *testing.T) {
	for s, time := range map[string]int64{
		"$<5>": 50, "$<0>": 0, "$<0.0>": 0, "$<5.3>": 53, "$<5.0>": 50, "$<12.9>": 129, "$<0.1>": 1, "$<50>": 500, "$<00000000000000000000000005>": 50, "$<007.5>": 75,
		"$<5/>": 50, "$<5*>": 150, "$<5*/>": 150, "$<5/*>": 150, "$<5.3/>": 53, "$<5.3*>": 159, "$<5.3*/>": 159, "$<5.3/*>": 159,
		"$<999999>": 9999990, "$<999998.9>": 9999989, "$<999999.0>": 9999990, "$<999999.1>": 9999990, "$<999999.9>": 9999990,
		"$<1000000>": 9999990, "$<1000000.0>": 9999990, "$<1000000.9>": 9999990, "$<99999999999999999999999999>": 9999990, "$<18446744073709551616>": 9999990,
		"$<0999999>": 9999990, "$<999999*>": 29999970, "$<1000000*>": 29999970,
	} {
		wantStrip(t, s, 3, "", time)
		wantStrip(t, "ab"+s+"cd", 3, "abcd", time)
		wantStrip(t, s+s+"-"+s, 3, "-", 3*time)
	}
}

// TestStripLines: P4.4, the number of lines, which counts for a * alone.
func TestStripLines(t *testing.T) {
	for lines, factor := range map[int]int64{
		1: 1, 2: 2, 24: 24, 999: 999, 1000: 1000, 1001: 1000, math.MaxInt: 1000, 0: 1, -1: 1, -1000: 1, math.MinInt: 1,
	} {
		wantStrip(t, "a$<5*>b", lines, "ab", 50*factor)
		wantStrip(t, "a$<5.1/>b$<2*/>", lines, "ab", 51+20*factor)
		wantStrip(t, "a$<5/>b", lines, "ab", 50)
	}
}

// TestStripSimilar: P4.4, what is similar and remains, at the end of the string, and ahead of a specification.
func TestStripSimilar(t *testing.T) {
	for _, s := range []string{
		"", "$", "$<", "$<5", "$<5.", "$<5.3", "$<5*", "$<5/", "$<5*/", "$<5.3/*", "<5>", "$5>", "$ <5>", "$<>", "$<.5>", "$<.>", "$<5.>", "$<5.*>", "$<5.12>", "$<5..1>", "$<5.1.2>",
		"$<*>", "$</>", "$<*5>", "$<a>", "$<5a>", "$<5 >", "$< 5>", "$<-5>", "$<+5>", "$<5,1>", "$<5**>", "$<5//>", "$<5*/*>", "$<5/*/>", "$<5*a>", "$<5/.1>", "$<5*.1>", "$<%p1%d>", "$<5]", "$<<5>", "$>5>", "\x00$\xff<5>",
	} {
		wantStrip(t, s, 3, s, 0)
		wantStrip(t, s+"x", 3, s+"x", 0)
		wantStrip(t, s+"$<1>", 3, s, 10)
		wantStrip(t, "$<1>"+s, 3, s, 10)
		wantStrip(t, s+"-"+s+"$<1.5*>", 3, s+"-"+s, 45)
	}
	// What remains on both sides of a specification may look like one.
	wantStrip(t, "$$<1><5>", 1, "$<5>", 10)
	wantStrip(t, "$<$<1>5>", 1, "$<5>", 10)
	wantStrip(t, "$<5$<1>>", 1, "$<5>", 10)
	wantStrip(t, "$<$<$<1>", 1, "$<$<", 10)
}

// paddingPattern is a specification at the beginning of a string.
var paddingPattern = regexp.MustCompile(`^\$<([0-9]+)(?:\.([0-9]))?(\*/|/\*|\*|/|)>`)

// modelStrip says what the chapter says, with numbers of any size.
func modelStrip(s string, lines int) (string, int64) {
	kept, sum := "", new(big.Int)
	for s != "" {
		m := paddingPattern.FindStringSubmatch(s)
		if m == nil {
			kept, s = kept+s[:1], s[1:]
			continue
		}
		s = s[len(m[0]):]
		time, _ := new(big.Int).SetString(m[1]+(m[2] + "0")[:1], 10)
		if most := big.NewInt(9999990); time.Cmp(most) > 0 {
			time = most
		}
		if strings.Contains(m[3], "*") {
			time = new(big.Int).Mul(time, big.NewInt(int64(max(1, min(1000, lines)))))
		}
		sum.Add(sum, time)
	}
	return kept, sum.Int64()
}

func checkStrip(t *testing.T, s string, lines int) {
	t.Helper()
	want, time := modelStrip(s, lines)
	wantStrip(t, s, lines, want, time)
	// P4.6: with one $ at most nothing can come together.
	if strings.Count(s, "$") < 2 {
		if again, more := Strip(want, lines); again != want || more != 0 {
			t.Errorf("Strip of %q leaves a specification: %q", s, want)
		}
	}
}

// TestStripModel: P4.4 and P4.6, many strings of the bytes that specifications are made of.
func TestStripModel(t *testing.T) {
	pieces := []string{"$<", "$<", "$<", "$", "<", "5", "0", "12", "999999", "1000000", ".", ".5", "*", "/", ">", ">", ">", "a"}
	for seed := range uint64(200000) {
		pick := rand.New(rand.NewPCG(seed, 4)).IntN
		s := ""
		for range pick(10) {
			s += pieces[pick(len(pieces))]
		}
		checkStrip(t, s, []int{-1, 0, 1, 2, 3, 1000, 1001}[pick(7)])
	}
}

// TestStripLong: THE BOUND and P4.4, many specifications, and much that is similar to one.
func TestStripLong(t *testing.T) {
	n := 500000
	wantStrip(t, strings.Repeat("$<999999*>a", n), 1000, strings.Repeat("a", n), int64(n)*9999990*1000)
	for _, s := range []string{"$<", "$<5", "$", "$<5*/", "$<$<5>"} {
		kept := strings.TrimSuffix(s, "$<5>")
		wantStrip(t, strings.Repeat(s, n), 1, strings.Repeat(kept, n), int64(n)*50*int64(strings.Count(s, ">")))
	}
	digits := strings.Repeat("0", n)
	wantStrip(t, "$<"+digits+"7>", 1, "", 70)
	wantStrip(t, "$<7"+digits+">", 1, "", 9999990)
	wantStrip(t, "$<"+digits, 1, "$<"+digits, 0)
}

// FuzzStrip: P4.4 and P4.6, for strings that the fuzzer chooses.
func FuzzStrip(f *testing.F) {
	f.Add("ab$<5*/>c$<12.5>", 3)
	f.Fuzz(func(t *testing.T, s string, lines int) { checkStrip(t, s, lines) })
}
