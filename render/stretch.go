package render

import (
	"unicode/utf8"

	"abridger/doc"
)

// stretch is what a layout knows of a text that others may go before or
// follow. Widths alone do not add up: a code point may begin in one text and
// end in another. So the ends of the text are kept along.
type stretch struct {
	wide int
	head string
	tail string
}

// reach is how many bytes of a code point may be beyond the end of a text.
const reach = utf8.UTFMax - 1

func stretchOf(text string) stretch {
	return stretch{wide: doc.Wide(text), head: head(text), tail: tail(text)}
}

// then returns the stretch of the text of s, followed by that of t.
func (s stretch) then(t stretch) stretch {
	// Encodings never overlap, so only one that lies across the seam makes
	// the whole less wide than the two texts are one by one.
	apart := doc.Wide(s.tail) + doc.Wide(t.head)
	saved := apart - doc.Wide(s.tail+t.head)
	return stretch{
		wide: s.wide + t.wide - saved,
		head: head(s.head + t.head),
		tail: tail(s.tail + t.tail),
	}
}

func head(text string) string {
	return text[:min(reach, len(text))]
}

func tail(text string) string {
	return text[max(0, len(text)-reach):]
}
