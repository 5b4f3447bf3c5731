package reply

import (
	"interrex/api"
)

// Limits of an answer's parts that package api does not name.
const (
	mostTo      = 7
	mostId      = 1 << 40
	mostKey     = 20
	mostRev     = 1 << 40
	mostEntries = 100
	mostEvents  = 100
)

// May says whether an answer may be as a is, whatever it is the answer to: one of any Kind may have entries and events, and one with an error, too.
func May(a api.Answer) bool {
	if a.To < 0 || a.To > mostTo || a.Id < 1 || a.Id > mostId {
		return false
	}
	if a.Kind < api.CGet || a.Kind > api.CTxn || a.Err < api.OK || a.Err > api.ErrOff || a.Rev < 0 || a.Rev > mostRev {
		return false
	}
	// How many there are comes first, so that no list is gone through that is too long.
	if len(a.Entries) > mostEntries || len(a.Events) > mostEvents {
		return false
	}
	for _, e := range a.Entries {
		if !mayBe(e.Key, e.Rev, e.Val) {
			return false
		}
	}
	for _, e := range a.Events {
		if !mayBe(e.Key, e.Rev, e.Val) || e.Gone && len(e.Val) > 0 {
			return false
		}
	}
	return true
}

// mayBe says whether an entry or an event may have these.
func mayBe(key string, rev int64, val []byte) bool {
	return len(key) >= 1 && len(key) <= mostKey && rev >= 1 && rev <= mostRev && len(val) <= api.MaxVal
}
