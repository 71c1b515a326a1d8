package fold

import (
	"qanat/api"
)

// place is a place in a list of transactions.
type place struct {
	txns   []api.Txn
	behind int // how many of them lie behind it
}

// held is k, held from 0 to the number of transactions.
func (p *place) held(k int) int {
	return min(max(k, 0), len(p.txns))
}

// next is the transaction that lies ahead, which lies behind then.
func (p *place) next() api.Txn {
	t := p.txns[p.behind]
	p.behind++
	return t
}

// walk goes over transactions, one behind the other.
type walk struct {
	place
	take func(api.Change) // is handed each change that the walk goes by
}

// walkOver is a walk that stands ahead of all of l.
func walkOver(l []api.Txn, take func(api.Change)) *walk {
	return &walk{place: place{txns: l}, take: take}
}

// to goes on until the first k transactions lie behind.
func (w *walk) to(k int) {
	// A transaction's Kind is not asked: whatever it is, its changes count.
	for w.behind < w.held(k) {
		for _, c := range w.next().Changes {
			w.take(c)
		}
	}
}
