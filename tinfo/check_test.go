package tinfo

import (
	"math"
	"slices"
	"strconv"
	"strings"
	"testing"

	"lanyard/api"
)

// checkCase is a Term, made from the sample, and what Check returns for it.
type checkCase struct {
	name   string
	change func(*api.Term)
	want   api.Errno
}

func runChecks(t *testing.T, cases []checkCase) {
	t.Helper()
	for _, c := range cases {
		term := sample()
		c.change(&term)
		before := copyOf(term)
		if got := Check(term); got != c.want {
			t.Errorf("%s: Check returns %d, not %d", c.name, got, c.want)
		}
		b, err := Write(term)
		if err != c.want || (err != api.OK) != (b == nil) {
			t.Errorf("%s: Write returns %d bytes, %d, not %d", c.name, len(b), err, c.want)
		}
		if !identical(term, before) {
			t.Errorf("%s: the argument is changed", c.name)
		}
	}
}

// TestCheckLimits: P3.1 (Check), each limit and what is just beyond it.
func TestCheckLimits(t *testing.T) {
	var cases []checkCase
	limit := func(name string, most int, change func(x *api.Term, n int)) {
		cases = append(cases,
			checkCase{name, func(x *api.Term) { change(x, most) }, api.OK},
			checkCase{name + " and one more", func(x *api.Term) { change(x, most+1) }, api.ErrLong},
			checkCase{name + " and many more", func(x *api.Term) { change(x, 100*most) }, api.ErrLong})
	}
	limit("511 bytes of Names", 511, func(x *api.Term, n int) { x.Names = strings.Repeat("n", n) })
	limit("64 Bools", 64, func(x *api.Term, n int) { x.Bools = make([]api.Cap, n) })
	limit("64 Nums", 64, func(x *api.Term, n int) { x.Nums = make([]api.Cap, n) })
	limit("512 Strs", 512, func(x *api.Term, n int) { x.Strs = make([]api.Cap, n) })
	limit("256 Exts", 256, func(x *api.Term, n int) { x.Exts = manyExts(kindNumber, n) })
	limit("1,000 bytes of a Text", 1000, func(x *api.Term, n int) { x.Strs[3].Text = strings.Repeat("\xff", n) })
	limit("1,000 bytes of the Text of an Ext", 1000, func(x *api.Term, n int) { x.Exts[6].Cap.Text = strings.Repeat("\xff", n) })
	limit("1,000 bytes of a Name", 1000, func(x *api.Term, n int) { x.Exts[8].Name = strings.Repeat("\xff", n) })
	runChecks(t, cases)
}

// manyExts returns n extended capabilities of one kind.
func manyExts(kind, n int) []api.Ext {
	var l []api.Ext
	for i := range n {
		l = append(l, api.Ext{Kind: kind, Name: "X" + strconv.Itoa(i)})
	}
	return l
}

// TestCheckNumbers: P3.1 (Check), the greatest numbers of both formats.
func TestCheckNumbers(t *testing.T) {
	var cases []checkCase
	for _, c := range []struct {
		n            int
		narrow, wide api.Errno
	}{
		{0, api.OK, api.OK}, {32767, api.OK, api.OK}, {32768, api.ErrArg, api.OK}, {65535, api.ErrArg, api.OK}, {1<<31 - 1, api.ErrArg, api.OK},
		{1 << 31, api.ErrArg, api.ErrArg}, {-1, api.ErrArg, api.ErrArg}, {-2, api.ErrArg, api.ErrArg}, {math.MinInt, api.ErrArg, api.ErrArg}, {math.MaxInt, api.ErrArg, api.ErrArg},
	} {
		name := strconv.Itoa(c.n)
		cases = append(cases,
			checkCase{name, func(x *api.Term) { x.Nums[3] = number(c.n) }, c.narrow},
			checkCase{name + " of an Ext", func(x *api.Term) { x.Exts[3].Cap = number(c.n) }, c.narrow},
			checkCase{name + ", Wide", func(x *api.Term) { x.Wide = true; x.Nums[3] = number(c.n) }, c.wide},
			checkCase{name + " of an Ext, Wide", func(x *api.Term) { x.Wide = true; x.Exts[3].Cap = number(c.n) }, c.wide})
	}
	runChecks(t, cases)
}

// TestCheckCaps: P3.1 (Check), a Cap with each State, Num and Text, in each list and kind.
func TestCheckCaps(t *testing.T) {
	places := []struct {
		kind int
		put  func(*api.Term, api.Cap)
	}{
		{kindFlag, func(x *api.Term, c api.Cap) { x.Bools[2] = c }}, {kindFlag, func(x *api.Term, c api.Cap) { x.Exts[2].Cap = c }},
		{kindNumber, func(x *api.Term, c api.Cap) { x.Nums[0] = c }}, {kindNumber, func(x *api.Term, c api.Cap) { x.Exts[4].Cap = c }},
		{kindText, func(x *api.Term, c api.Cap) { x.Strs[3] = c }}, {kindText, func(x *api.Term, c api.Cap) { x.Exts[7].Cap = c }},
	}
	var cases []checkCase
	for i, p := range places {
		for _, state := range []int{api.CapNone, api.CapIs, api.CapGone, -1, 3, math.MinInt, math.MaxInt} {
			for _, num := range []int{0, 1, -1} {
				for _, s := range []string{"", "x", "\x00", "x\x00y", "x\x00"} {
					ok := state == api.CapNone && num == 0 && s == "" || state == api.CapGone && num == 0 && s == "" ||
						state == api.CapIs && s == "" && (num == 0 || num == 1 && p.kind == kindNumber) ||
						state == api.CapIs && s == "x" && num == 0 && p.kind == kindText
					want := api.ErrArg
					if ok {
						want = api.OK
					}
					c := api.Cap{State: state, Num: num, Text: s}
					name := "place " + strconv.Itoa(i) + ", state " + strconv.Itoa(state) + ", number " + strconv.Itoa(num) + ", text " + strconv.Quote(s)
					cases = append(cases, checkCase{name, func(x *api.Term) { p.put(x, c) }, want})
				}
			}
		}
	}
	runChecks(t, cases)
}

// TestCheckNames: P3.1 (Check), Names, and the Names and Kinds of Exts.
func TestCheckNames(t *testing.T) {
	cases := []checkCase{
		{"the sample", func(x *api.Term) {}, api.OK},
		{"nothing but Names", func(x *api.Term) { *x = api.Term{Names: "|"} }, api.OK},
		{"no Names", func(x *api.Term) { x.Names = "" }, api.ErrArg},
		{"a byte 0 in Names", func(x *api.Term) { x.Names = "a\x00b" }, api.ErrArg},
		{"a byte 0 at the end of Names", func(x *api.Term) { x.Names = "a\x00" }, api.ErrArg},
		{"bytes of any kind in Names", func(x *api.Term) { x.Names = "\x01\xff |" }, api.OK},
		{"no Name", func(x *api.Term) { x.Exts[4].Name = "" }, api.ErrArg},
		{"a byte 0 in a Name", func(x *api.Term) { x.Exts[4].Name = "a\x00" }, api.ErrArg},
		{"a Name twice in a row", func(x *api.Term) { x.Exts[1].Name = "AX" }, api.ErrArg},
		{"a Name twice", func(x *api.Term) { x.Exts[8].Name = "AX" }, api.ErrArg},
		{"a Name twice in the same kind", func(x *api.Term) { x.Exts[8].Name = "Ss" }, api.ErrArg},
		{"a Name almost twice", func(x *api.Term) { x.Exts[8].Name = "AX " }, api.OK},
		{"bytes of any kind in a Name", func(x *api.Term) { x.Exts[8].Name = "\x01\xff |" }, api.OK},
		{"one of the Names as a Name", func(x *api.Term) { x.Exts[8].Name = "ab" }, api.OK},
		{"a Kind below 0", func(x *api.Term) { x.Exts[0].Kind = -1 }, api.ErrArg},
		{"a Kind above 2", func(x *api.Term) { x.Exts[8].Kind = 3 }, api.ErrArg},
		{"a Kind far above 2", func(x *api.Term) { x.Exts[8].Kind = math.MaxInt }, api.ErrArg},
		{"a Kind that is too small at the end", func(x *api.Term) { x.Exts[8] = api.Ext{Kind: kindNumber, Name: "Z"} }, api.ErrArg},
		{"a Kind that is too small", func(x *api.Term) { x.Exts[4] = api.Ext{Kind: kindFlag, Name: "Z"} }, api.ErrArg},
		{"a Kind that is too great", func(x *api.Term) { x.Exts[0] = api.Ext{Kind: kindNumber, Name: "Z"} }, api.ErrArg},
		{"Kinds that are left out", func(x *api.Term) { x.Exts = []api.Ext{x.Exts[0], x.Exts[8]} }, api.OK},
		{"one Kind", func(x *api.Term) { x.Exts = x.Exts[3:6] }, api.OK},
	}
	eachPlace(func(name string, _, _ int) {
		cases = append(cases, checkCase{"the Name " + name, func(x *api.Term) { x.Exts[4].Name = name }, api.ErrArg})
	})
	runChecks(t, cases)
}

// TestCheckOrder: P3.1 (Check), that each reason for ErrLong comes before each one for ErrArg.
func TestCheckOrder(t *testing.T) {
	tooMuch := strings.Repeat("x", 1001)
	long := []func(*api.Term){
		func(x *api.Term) { x.Names = strings.Repeat("\x00", 512) },
		func(x *api.Term) { x.Bools = append(x.Bools, make([]api.Cap, 64)...) },
		func(x *api.Term) { x.Nums = append(x.Nums, make([]api.Cap, 64)...) },
		func(x *api.Term) { x.Strs = append(x.Strs, make([]api.Cap, 512)...) },
		func(x *api.Term) { x.Exts = append(x.Exts, make([]api.Ext, 256)...) },
		func(x *api.Term) { x.Bools[0].Text = tooMuch },
		func(x *api.Term) { x.Nums[0].Text = tooMuch },
		func(x *api.Term) { x.Strs[0].Text = tooMuch },
		func(x *api.Term) { x.Strs[3].Text = tooMuch },
		func(x *api.Term) { x.Exts[0].Cap.Text = tooMuch },
		func(x *api.Term) { x.Exts[8].Name = tooMuch },
		func(x *api.Term) {
			x.Exts = append(x.Exts, api.Ext{Kind: -1, Name: "am", Cap: api.Cap{State: 7, Text: tooMuch}})
		},
	}
	wrong := []func(*api.Term){
		func(x *api.Term) { x.Names = "" },
		func(x *api.Term) { x.Bools[1].State = 3 },
		func(x *api.Term) { x.Nums[1].State = 3 },
		func(x *api.Term) { x.Strs[1].Num = 3 },
		func(x *api.Term) { x.Exts[1].Kind = 3 },
		func(x *api.Term) { x.Exts[1].Name = "am" },
	}
	var cases []checkCase
	for i, l := range long {
		for j, w := range wrong {
			name := strconv.Itoa(i) + " with " + strconv.Itoa(j)
			if i == 0 && j == 0 {
				continue // Names are either too long or empty.
			}
			cases = append(cases, checkCase{name, func(x *api.Term) { w(x); l(x) }, api.ErrLong})
		}
	}
	for j, w := range wrong {
		cases = append(cases, checkCase{"only " + strconv.Itoa(j), w, api.ErrArg})
	}
	runChecks(t, cases)
}

// TestCheckSize: THE BOUND, for lists that are far too long.
func TestCheckSize(t *testing.T) {
	huge := api.Term{Names: "n", Exts: manyExts(kindText, 200000)}
	if Check(huge) != api.ErrLong {
		t.Error("200,000 Exts")
	}
	huge = api.Term{Names: "n", Strs: slices.Repeat([]api.Cap{text("x")}, 200000)}
	if _, err := Set(huge, "cup", text("y")); err != api.ErrLong {
		t.Error("200,000 Strs", err)
	}
}
