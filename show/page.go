package show

import "tidewrack/api"

// page has what has been written so far.
type page struct {
	text []byte
}

// add writes texts behind. A page of more than MaxQuery bytes is refused whatever else would stand on it, so it grows no further.
func (p *page) add(texts ...string) {
	for _, s := range texts {
		if len(p.text) <= api.MaxQuery {
			p.text = append(p.text, s...)
		}
	}
}

// list writes items between two signs.
func (p *page) list(opens string, items []string, closes string) {
	p.add(opens)
	for i, s := range items {
		if i > 0 {
			p.add(", ")
		}
		p.add(s)
	}
	p.add(closes)
}
