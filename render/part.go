package render

import "abridger/api"

// part is a document with its widths, which do not depend on what is around
// it. They are measured once, since a layout asks for them over and over.
type part struct {
	doc    api.Doc
	kids   []part
	flat   stretch // its text without line breaks
	hard   bool    // it contains a DHard
	lead   int     // in the mode broken: up to the first possible line break, text by text
	breaks bool    // in the mode broken: it contains a possible line break
}

// measure returns the part of a valid document.
func measure(d api.Doc) part {
	p := part{doc: d}
	switch d.Kind {
	case api.DText:
		p.flat = stretchOf(d.Text)
		p.lead = p.flat.wide
	case api.DSpace:
		p.flat = stretchOf(" ")
		p.breaks = true
	case api.DSoft:
		p.breaks = true
	case api.DHard:
		p.hard = true
		p.breaks = true
	}
	for _, kid := range d.Kids {
		p.add(measure(kid))
	}
	return p
}

// add puts a kid after those that p has.
func (p *part) add(kid part) {
	p.kids = append(p.kids, kid)
	p.flat = p.flat.then(kid.flat)
	p.hard = p.hard || kid.hard
	if !p.breaks {
		p.lead += kid.lead
	}
	p.breaks = p.breaks || kid.breaks
}
