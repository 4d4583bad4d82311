package read

import "consort/api"

// cutPiece takes the tokens up to the next one with which a piece begins; none,
// if none is left.
func (r *rest) cutPiece() rest {
	n := 0
	for n < len(r.tokens) && (n == 0 || !begins(r.tokens[n])) {
		n++
	}
	return r.split(n)
}

func begins(t api.ReadToken) bool {
	switch t.Text {
	case "class", "method", "before", "after", "around", "then":
		return true
	}
	return false
}

// mend reads piece by piece.
func mend(left rest) (p api.FormProg, faults []api.ReadFault) {
pieces:
	for {
		switch r := newReader(left.cutPiece()); r.key() {
		case theEnd:
			break pieces
		default:
			if at, good := r.attempt(func() { r.piece(&p) }); !good {
				faults = append(faults, faultAt(at))
			}
		}
	}
	if p.Main.Op == 0 {
		p.Main.Op = api.FormNone
	}
	return p, faults
}

// piece adds what a piece says to a program.
func (r *reader) piece(p *api.FormProg) {
	first := r.first()
	switch first.Text {
	case "class":
		c := r.class()
		r.finish()
		p.Classes = append(p.Classes, c)
	case "then":
		main := r.main()
		r.finish()
		if p.Main.Op != 0 {
			panic(lost{first})
		}
		p.Main = main
	default:
		m := r.method()
		r.finish()
		p.Methods = append(p.Methods, m)
	}
}

func faultAt(t api.ReadToken) api.ReadFault {
	return api.ReadFault{At: t.At, Line: t.Line, Text: t.Text}
}
