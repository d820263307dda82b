package tinfo

import "lanyard/api"

// Write returns the file of an entry.
func Write(t api.Term) ([]byte, api.Errno) {
	if err := Check(t); err != api.OK {
		return nil, err
	}
	texts, ext := tableOf(t.Strs), extPartOf(t.Exts)
	if len(texts.bytes) > maxTable || ext.tableSize() > maxTable {
		return nil, api.ErrLong
	}
	w := writer{size: numberSize(t.Wide)}
	w.shorts(magicOf(t.Wide), len(t.Names)+1, len(t.Bools), len(t.Nums), len(t.Strs), len(texts.bytes))
	w.b = append(w.b, t.Names...)
	w.b = append(w.b, 0)
	w.flags(t.Bools)
	w.even()
	w.numbers(t.Nums)
	w.shorts(texts.indices...)
	w.b = append(w.b, texts.bytes...)
	if len(t.Exts) > 0 {
		w.ext(ext)
	}
	return w.b, api.OK
}

func magicOf(wide bool) int {
	if wide {
		return magicWide
	}
	return magicShort
}

// table is a table of strings, and where in it they begin.
type table struct {
	bytes   []byte
	indices []int
	count   int // of the strings that are there
}

func (tab *table) add(text string) {
	tab.indices = append(tab.indices, len(tab.bytes))
	tab.bytes = append(tab.bytes, text...)
	tab.bytes = append(tab.bytes, 0)
	tab.count++
}

// addCap adds the string of a capability if it is there.
func (tab *table) addCap(c api.Cap) {
	if c.State == api.CapIs {
		tab.add(c.Text)
		return
	}
	tab.indices = append(tab.indices, stateValue(c.State, 0))
}

func tableOf(l []api.Cap) table {
	var tab table
	for _, c := range l {
		tab.addCap(c)
	}
	return tab
}

// extPart is what the extended part of a file has: the names have a table of their own, which follows that of the strings.
type extPart struct {
	flags   []api.Cap
	numbers []api.Cap
	texts   table
	names   table
}

func extPartOf(exts []api.Ext) extPart {
	var p extPart
	for _, x := range exts {
		p.names.add(x.Name)
		switch x.Kind {
		case kindFlag:
			p.flags = append(p.flags, x.Cap)
		case kindNumber:
			p.numbers = append(p.numbers, x.Cap)
		case kindText:
			p.texts.addCap(x.Cap)
		}
	}
	return p
}

func (p extPart) tableSize() int { return len(p.texts.bytes) + len(p.names.bytes) }

// writer makes a file, in which a number has size bytes.
type writer struct {
	b    []byte
	size int
}

// integer writes the lowest bytes of n, the least significant one first.
func (w *writer) integer(n, size int) {
	for range size {
		w.b = append(w.b, byte(n))
		n >>= 8
	}
}

func (w *writer) shorts(l ...int) {
	for _, n := range l {
		w.integer(n, shortSize)
	}
}

func (w *writer) flags(l []api.Cap) {
	for _, c := range l {
		w.b = append(w.b, stateByte(c.State))
	}
}

func (w *writer) numbers(l []api.Cap) {
	for _, c := range l {
		w.integer(stateValue(c.State, c.Num), w.size)
	}
}

// even writes a byte if it takes one to begin what follows at an even position.
func (w *writer) even() {
	if len(w.b)%2 != 0 {
		w.b = append(w.b, 0)
	}
}

func (w *writer) ext(p extPart) {
	w.even()
	w.shorts(len(p.flags), len(p.numbers), len(p.texts.indices), p.texts.count+p.names.count, p.tableSize())
	w.flags(p.flags)
	w.even()
	w.numbers(p.numbers)
	w.shorts(p.texts.indices...)
	w.shorts(p.names.indices...)
	w.b = append(w.b, p.texts.bytes...)
	w.b = append(w.b, p.names.bytes...)
}
