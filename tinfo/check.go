package tinfo

import (
	"math"
	"strings"

	"lanyard/api"
)

// What an entry may have at most.
const (
	maxNames   = 511 // bytes of its names
	maxFlags   = 64
	maxNumbers = 64
	maxTexts   = 512
	maxExts    = 256
	maxText    = 1000 // bytes of a string, and of an extended capability's name
)

// Check returns what is wrong with an entry: a file of it could not be written or read.
func Check(t api.Term) api.Errno {
	switch {
	case tooLong(t):
		return api.ErrLong
	case !valid(t):
		return api.ErrArg
	}
	return api.OK
}

func tooLong(t api.Term) bool {
	if len(t.Names) > maxNames || len(t.Bools) > maxFlags || len(t.Nums) > maxNumbers || len(t.Strs) > maxTexts || len(t.Exts) > maxExts {
		return true
	}
	for _, x := range t.Exts {
		if len(x.Name) > maxText || len(x.Cap.Text) > maxText {
			return true
		}
	}
	return hasLongText(t.Bools) || hasLongText(t.Nums) || hasLongText(t.Strs)
}

func hasLongText(l []api.Cap) bool {
	for _, c := range l {
		if len(c.Text) > maxText {
			return true
		}
	}
	return false
}

func valid(t api.Term) bool {
	top := maxNumber(t.Wide)
	return isName(t.Names) && allFit(t.Bools, kindFlag, top) && allFit(t.Nums, kindNumber, top) && allFit(t.Strs, kindText, top) && extsFit(t.Exts, top)
}

// maxNumber returns the greatest number that a file with numbers of 32 or of 16 bits can have.
func maxNumber(wide bool) int {
	if wide {
		return math.MaxInt32
	}
	return math.MaxInt16
}

func isName(s string) bool { return s != "" && !hasEnd(s) }

// hasEnd reports whether s contains the byte with which it would end in a file.
func hasEnd(s string) bool { return strings.Contains(s, "\x00") }

func allFit(l []api.Cap, kind, top int) bool {
	for _, c := range l {
		if !fits(c, kind, top) {
			return false
		}
	}
	return true
}

// fits reports whether c can be a capability of the kind, where top is the greatest number.
func fits(c api.Cap, kind, top int) bool {
	bare := c.Num == 0 && c.Text == ""
	if c.State != api.CapIs {
		return bare && (c.State == api.CapNone || c.State == api.CapGone)
	}
	switch kind {
	case kindFlag:
		return bare
	case kindNumber:
		return 0 <= c.Num && c.Num <= top && c.Text == ""
	}
	return c.Num == 0 && !hasEnd(c.Text)
}

func extsFit(exts []api.Ext, top int) bool {
	names := extNames{}
	least := kindFlag
	for _, x := range exts {
		if x.Kind < least || x.Kind > kindText || !fits(x.Cap, x.Kind, top) || !names.add(x.Name) {
			return false
		}
		least = x.Kind
	}
	return true
}

// extNames are the names of extended capabilities of one entry.
type extNames map[string]struct{}

// add adds a name, and reports whether it may follow those that are there.
func (n extNames) add(name string) bool {
	_, twice := n[name]
	_, _, known := Place(name)
	n[name] = struct{}{}
	return isName(name) && !twice && !known
}
