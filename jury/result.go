package jury

import (
	"cmp"
	"slices"

	"klister/api"
)

// score is the total of a skier, or that the skier is out.
type score struct {
	total int
	out   bool
}

// reasons returns the decisions about a skier that count, of claims those
// that are upheld.
func (w work) reasons(s Skier) []Decision {
	return kept(w.Decisions, func(d Decision) bool {
		return d.Bib == s.Bib && w.counts[d.Number] && (d.Kind != Claim || w.isUpheld(d))
	})
}

// score returns the score of a skier.
func (w work) score(s Skier) score {
	if s.Time == None {
		return score{out: true}
	}
	total := s.Time
	for _, d := range w.reasons(s) {
		if d.Kind == Out {
			return score{out: true}
		}
		change := d.Kind.trait().change
		total += change(w.much(d))
	}
	return score{total: greatest(0, total)}
}

// line returns the line of a skier, without the place of one who is not out.
func (w work) line(s Skier) Line {
	own := w.score(s)
	if own.out {
		return Line{Bib: s.Bib, Place: None}
	}
	return Line{Bib: s.Bib, Total: own.total}
}

// before orders lines that have no places yet: those of skiers who are out,
// with the Place None, come last.
func (l Line) before(other Line) int {
	return cmp.Or(cmp.Compare(other.Place, l.Place), cmp.Compare(l.Total, other.Total), cmp.Compare(l.Bib, other.Bib))
}

// result returns the result.
func (w work) result() []Line {
	lines := mapped(w.Skiers, w.line)
	slices.SortFunc(lines, Line.before)
	for k := range lines {
		switch {
		case lines[k].Place == None:
		case k > 0 && lines[k].Total == lines[k-1].Total:
			lines[k].Place = lines[k-1].Place
		default:
			lines[k].Place = k + 1
		}
	}
	return lines
}

// Total returns the total of a skier, or that the skier is out.
func Total(r Record, bib int) (total int, out bool, e api.Errno) {
	w, s, e := beginSkier(r, bib)
	if e != api.OK {
		return 0, false, e
	}
	own := w.score(s)
	return own.total, own.out, api.OK
}

// Result returns the result.
func Result(r Record) ([]Line, api.Errno) {
	w, e := begin(r)
	if e != api.OK {
		return nil, e
	}
	return w.result(), api.OK
}
