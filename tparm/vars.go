package tparm

import (
	"maps"

	"lanyard/api"
)

// Vars are the variables of capabilities.
type Vars struct {
	values map[byte]api.Param // a letter that is not there has the number 0
}

// NewVars returns variables that all contain the number 0.
func NewVars() *Vars { return &Vars{values: map[byte]api.Param{}} }

// usable reports whether NewVars or Clone returned v.
func (v *Vars) usable() bool { return v != nil && v.values != nil }

// Get returns the value of a variable.
func (v *Vars) Get(letter byte) api.Param {
	if !v.usable() {
		return api.Param{}
	}
	return v.values[letter]
}

// Set lets a variable contain p.
func (v *Vars) Set(letter byte, p api.Param) api.Errno {
	if !v.usable() {
		return api.ErrMade
	}
	if !isLetter(letter) || isNoValue(p) {
		return api.ErrArg
	}
	v.values[letter] = p
	return api.OK
}

// Clone returns variables with the same values, which change by themselves.
func (v *Vars) Clone() *Vars {
	if !v.usable() {
		return nil
	}
	return &Vars{values: maps.Clone(v.values)}
}

func isLetter(b byte) bool { return 'a' <= b && b <= 'z' || 'A' <= b && b <= 'Z' }
