package tinfo

import (
	"strconv"
	"strings"
	"testing"
)

// placeTable is the chapter's table: each name is followed by its index.
var placeTable = []string{
	`bw 0 am 1 xsb 2 xhp 3 xenl 4 eo 5 gn 6 hc 7 km 8 hs 9 in 10 da 11 db 12 mir 13 msgr 14 os 15`,
	`cols 0 it 1 lines 2 lm 3 xmc 4 pb 5 vt 6 wsl 7 nlab 8 lh 9 lw 10 ma 11 wnum 12 colors 13 pairs 14 ncv 15`,
	`cbt 0 bel 1 cr 2 csr 3 tbc 4 clear 5 el 6 ed 7 hpa 8 cmdch 9 cup 10 cud1 11 home 12 civis 13 cub1 14 mrcup 15 cnorm 16 cuf1 17 ll 18 cuu1 19 cvvis 20
	 dch1 21 dl1 22 dsl 23 hd 24 smacs 25 blink 26 bold 27 smcup 28 smdc 29 dim 30 smir 31 invis 32 prot 33 rev 34 smso 35 smul 36 ech 37 rmacs 38 sgr0 39
	 rmcup 40 rmdc 41 rmir 42 rmso 43 rmul 44 flash 45 ich1 52 il1 53 ip 54 kbs 55 kdch1 59 kcud1 61 khome 76 kich1 77 kcub1 79 knp 81 kpp 82 kcuf1 83 kcuu1 87
	 rmkx 88 smkx 89 nel 103 dch 105 dl 106 cud 107 ich 108 indn 109 il 110 cub 111 cuf 112 rin 113 cuu 114 rc 126 vpa 127 sc 128 ind 129 ri 130 sgr 131 hts 132 kend 164`,
}

// eachPlace calls f with each capability of the chapter's table.
func eachPlace(f func(name string, kind, at int)) {
	for kind, row := range placeTable {
		words := strings.Fields(row)
		for i := 0; i < len(words); i += 2 {
			at, _ := strconv.Atoi(words[i+1])
			f(words[i], kind, at)
		}
	}
}

// TestPlace: P3.3, every name of the table.
func TestPlace(t *testing.T) {
	counts := [3]int{}
	eachPlace(func(name string, kind, at int) {
		counts[kind]++
		if k, i, known := Place(name); k != kind || i != at || !known {
			t.Errorf("Place of %q returns %d, %d, %t, not %d, %d", name, k, i, known, kind, at)
		}
	})
	if counts != [3]int{16, 16, 80} {
		t.Error("the table of the test has", counts)
	}
}

// TestPlaceOfNothing: P3.3, names that are not in the table.
func TestPlaceOfNothing(t *testing.T) {
	names := []string{"", " ", "nothing", "CUP", "cup ", " cup", "bw am", "el ed", "cu", "cupp", "u", "0", "10", "cup\x00", "kend sgr", "kf1", "xt", "AX", "\xff"}
	eachPlace(func(name string, _, _ int) {
		names = append(names, name+"x", "x"+name, strings.ToUpper(name), name+" ", name+"\x00")
	})
	for _, name := range names {
		if kind, at, known := Place(name); kind != 0 || at != 0 || known {
			t.Errorf("Place of %q returns %d, %d, %t", name, kind, at, known)
		}
	}
}
