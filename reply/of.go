package reply

import (
	"interrex/api"
	"interrex/call"
	"interrex/store"
)

// Of asks s what c says, and is its answer. What may not be is not asked at all.
func Of(s *store.Store, c api.Call) api.Answer {
	a := api.Answer{To: c.From, Id: c.Id, Kind: c.Kind}
	if !call.May(c) {
		a.Err = api.ErrForm
		return a
	}
	switch c.Kind {
	case api.CGet:
		a.Entries, a.Err = one(s, c.Key)
	case api.CList:
		a.Entries = s.List()
	case api.CWatch:
		a.Events, a.Err = s.Watch(c.Rev)
	case api.CTxn:
		_, a.Err = s.Txn(c.Txn)
	}
	// Behind it, so that a txn that was done tells its own revision.
	a.Rev = s.Rev()
	return a
}

// one is the entry of key alone; nil, ErrNone: there is none.
func one(s *store.Store, key string) ([]api.Entry, api.Errno) {
	e, ok := s.Get(key)
	if !ok {
		return nil, api.ErrNone
	}
	return []api.Entry{e}, api.OK
}
