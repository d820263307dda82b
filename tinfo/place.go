package tinfo

import "strings"

// The kinds of capabilities, as an api.Ext has them.
const (
	kindFlag   = 0
	kindNumber = 1
	kindText   = 2
)

// run lists capabilities of one kind whose indices follow one another, from first on.
type run struct {
	kind  int
	first int
	names string
}

var runs = [...]run{
	{kindFlag, 0, "bw am xsb xhp xenl eo gn hc km hs in da db mir msgr os"},
	{kindNumber, 0, "cols it lines lm xmc pb vt wsl nlab lh lw ma wnum colors pairs ncv"},
	{kindText, 0, "cbt bel cr csr tbc clear el ed hpa cmdch cup cud1 home civis cub1 mrcup cnorm cuf1 ll cuu1 cvvis"},
	{kindText, 21, "dch1 dl1 dsl hd smacs blink bold smcup smdc dim smir invis prot rev smso smul ech rmacs sgr0"},
	{kindText, 40, "rmcup rmdc rmir rmso rmul flash"},
	{kindText, 52, "ich1 il1 ip kbs"},
	{kindText, 59, "kdch1"},
	{kindText, 61, "kcud1"},
	{kindText, 76, "khome kich1"},
	{kindText, 79, "kcub1"},
	{kindText, 81, "knp kpp kcuf1"},
	{kindText, 87, "kcuu1 rmkx smkx"},
	{kindText, 103, "nel"},
	{kindText, 105, "dch dl cud ich indn il cub cuf rin cuu"},
	{kindText, 126, "rc vpa sc ind ri sgr hts"},
	{kindText, 164, "kend"},
}

// Place returns the kind and the index of the capability that terminfo knows under the name.
func Place(name string) (int, int, bool) {
	for _, r := range runs {
		at := r.first
		for known := range strings.SplitSeq(r.names, " ") {
			if known == name {
				return r.kind, at, true
			}
			at++
		}
	}
	return 0, 0, false
}
