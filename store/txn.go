package store

import (
	"interrex/api"
)

// mostKey is how many bytes a key has at most.
const mostKey = 20

// mayTxn says whether a txn may be as t is, whatever is there.
func mayTxn(t api.Txn) bool {
	// How many there are comes first, so that no list is gone through that is too long.
	if len(t.Guards) > api.MaxGuards || len(t.Writes) < 1 || len(t.Writes) > api.MaxWrites {
		return false
	}
	for _, g := range t.Guards {
		if !mayKey(g.Key) || g.Rev < 0 {
			return false
		}
	}
	for k, w := range t.Writes {
		if !mayWrite(w) || hasWrite(t.Writes[:k], w.Key) {
			return false
		}
	}
	return true
}

// mayKey says whether key may be a guard's or a write's.
func mayKey(key string) bool {
	return len(key) >= 1 && len(key) <= mostKey
}

// mayWrite says whether a write may be as w is.
func mayWrite(w api.Write) bool {
	if !mayKey(w.Key) {
		return false
	}
	if w.Gone {
		return len(w.Val) == 0
	}
	return len(w.Val) <= api.MaxVal
}

// hasWrite says whether one of ws is of key.
func hasWrite(ws []api.Write, key string) bool {
	for _, w := range ws {
		if w.Key == key {
			return true
		}
	}
	return false
}
