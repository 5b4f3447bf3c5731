package code

import (
	"interrex/api"
)

// putRes is b with the amounts x behind it.
func putRes(b []byte, x api.Res) []byte {
	for _, amount := range x {
		b = putNumber(b, amount)
	}
	return b
}

// getRes are the next amounts.
func getRes(r *reader) api.Res {
	var x api.Res
	for k := range x {
		x[k] = getNumber[int64](r)
	}
	return x
}

// putPair is b with the label x behind it.
func putPair(b []byte, x api.Pair) []byte {
	b = putName(b, x.Key)
	return putName(b, x.Val)
}

// getPair is the next label.
func getPair(r *reader) api.Pair {
	var x api.Pair
	x.Key = getName(r)
	x.Val = getName(r)
	return x
}

// putTaint is b with the taint x behind it. A node's labels and taints, alike as they are written, stand in lists of their own.
func putTaint(b []byte, x api.Taint) []byte {
	return putPair(b, api.Pair(x))
}

// getTaint is the next taint.
func getTaint(r *reader) api.Taint {
	return api.Taint(getPair(r))
}

// putTerm is b with the term x behind it.
func putTerm(b []byte, x api.Term) []byte {
	b = putName(b, x.Key)
	b = putNumber(b, x.Kind)
	return putList(b, x.Vals, putName)
}

// getTerm is the next term.
func getTerm(r *reader) api.Term {
	var x api.Term
	x.Key = getName(r)
	x.Kind = getNumber[int](r)
	x.Vals = getList(r, getName)
	return x
}

// putToler is b with the toleration x behind it.
func putToler(b []byte, x api.Toler) []byte {
	b = putName(b, x.Key)
	b = putName(b, x.Val)
	return putFlag(b, x.Any)
}

// getToler is the next toleration.
func getToler(r *reader) api.Toler {
	var x api.Toler
	x.Key = getName(r)
	x.Val = getName(r)
	x.Any = getFlag(r)
	return x
}

// putFlag is b with yes behind it: 1, or 0.
func putFlag(b []byte, yes bool) []byte {
	if yes {
		return putNumber(b, 1)
	}
	return putNumber(b, 0)
}

// getFlag is the next flag; false, and bad: it is neither 1 nor 0.
func getFlag(r *reader) bool {
	switch getWord(r) {
	case 0:
		return false
	case 1:
		return true
	}
	r.bad = true
	return false
}
