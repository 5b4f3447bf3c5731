package call

import (
	"interrex/api"
)

// Limits of a call's parts that package api does not name.
const (
	mostFrom = 7
	mostId   = 1 << 40
	mostKey  = 20
	mostRev  = 1 << 40
)

// May says whether a call may be as c is: what its kind names as it may be, all else zero.
func May(c api.Call) bool {
	if c.From < 0 || c.From > mostFrom || c.Id < 1 || c.Id > mostId {
		return false
	}
	switch c.Kind {
	case api.CGet:
		return mayKey(c.Key) && c.Rev == 0 && isNone(c.Txn)
	case api.CList:
		return c.Key == "" && c.Rev == 0 && isNone(c.Txn)
	case api.CWatch:
		return c.Key == "" && mayRev(c.Rev) && isNone(c.Txn)
	case api.CTxn:
		return c.Key == "" && c.Rev == 0 && mayTxn(c.Txn)
	}
	return false
}

// mayKey says whether key may be a CGet's, a guard's, a write's.
func mayKey(key string) bool {
	return len(key) >= 1 && len(key) <= mostKey
}

// mayRev says whether rev may be a CWatch's, a guard's.
func mayRev(rev int64) bool {
	return rev >= 0 && rev <= mostRev
}

// isNone says whether t is zero.
func isNone(t api.Txn) bool {
	return len(t.Guards) == 0 && len(t.Writes) == 0
}

// mayTxn says whether t may be a CTxn's. Whether it can be done, the store says: it may be without writes here, and let a key with a Val go.
func mayTxn(t api.Txn) bool {
	// How many there are comes first, so that no list is gone through that is too long.
	if len(t.Guards) > api.MaxGuards || len(t.Writes) > api.MaxWrites {
		return false
	}
	for _, g := range t.Guards {
		if !mayKey(g.Key) || !mayRev(g.Rev) {
			return false
		}
	}
	for _, w := range t.Writes {
		if !mayKey(w.Key) || len(w.Val) > api.MaxVal {
			return false
		}
	}
	return true
}
