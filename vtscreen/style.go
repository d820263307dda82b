package vtscreen

import (
	"lanyard/api"
	"lanyard/vtparse"
)

// style does a sequence that sets the attributes of what is printed next.
func (s *Screen) style(a api.Action) {
	for i := 0; i < max(len(a.Params), 1); i++ {
		switch q := vtparse.Param(a, i, 0); q {
		case 38, 48:
			// A color of another kind: its numbers are no attributes.
			i += colorNumbers(vtparse.Param(a, i+1, 0))
		default:
			s.attr = styled(s.attr, q)
		}
	}
}

// colorNumbers returns how many parameters follow a 38 or 48 that belong to it, the first of which is kind.
func colorNumbers(kind int) int {
	switch kind {
	case 5:
		return 2
	case 2:
		return 4
	}
	return 0
}

// styled returns the attributes attr as q changes them.
func styled(attr, q int) int {
	switch q {
	case 0:
		return 0
	case 1:
		return attr | api.AttrBold
	case 4:
		return attr | api.AttrUnder
	case 5:
		return attr | api.AttrBlink
	case 7:
		return attr | api.AttrReverse
	case 22:
		return attr &^ api.AttrBold
	case 24:
		return attr &^ api.AttrUnder
	case 25:
		return attr &^ api.AttrBlink
	case 27:
		return attr &^ api.AttrReverse
	}
	return colored(attr, q)
}

// colored returns the attributes attr with the color that q names.
func colored(attr, q int) int {
	switch {
	case q >= 30 && q <= 37:
		return paint(attr, api.AttrFore, q-30+1)
	case q == 39:
		return paint(attr, api.AttrFore, 0)
	case q >= 40 && q <= 47:
		return paint(attr, api.AttrBack, q-40+1)
	case q == 49:
		return paint(attr, api.AttrBack, 0)
	case q >= 90 && q <= 97:
		return paint(attr, api.AttrFore, q-90+1)
	case q >= 100 && q <= 107:
		return paint(attr, api.AttrBack, q-100+1)
	}
	return attr
}

// paint returns attr with the number in place of the one that it has for the foreground or the background, by the unit.
func paint(attr, unit, number int) int {
	const mask = api.AttrBack/api.AttrFore - 1
	return attr&^(mask*unit) | number*unit
}
