/-
  What the laws of the store have in common. No conditions beyond what is written in each statement.
-/
import Derived.Test.YtaleceobkbgcnaaGreatGLaw
import Derived.Test.YtaleceobkbgcnaaGreatGRpC
import Derived.Lib.SmallJoins
set_option linter.unusedSimpArgs false
set_option linter.unusedVariables false
namespace Go.Proofs.YtaleceobkbgcnaaGreat.Rp
open Go.RowKit

theorem _root_.Go.Proofs.YtaleceobkbgcnaaGreat.StoAt.apart6 {S : Nat → Prop} {w w' : World} {B : Nat} {h : StoH} {d : StoD} (ha : StoAt w B h d) (ht : Turns S w w') (h1 : ∀ k, StoS h k → ¬ S k) (h2 : ∀ x ∈ h.E, ∀ k, (Value.slice x.2.1 x.1.val.length x.2.2).ownBlock = some k → ¬ S k)
    (h3 : ∀ x ∈ h.H, ∀ k, (Value.slice x.2.1 x.1.val.length x.2.2).ownBlock = some k → ¬ S k) : StoAt w' B h d :=
  ⟨Nat.le_trans ha.lo ht.size, ht.obj ha.obj (h1 _ (.inl rfl)), owns_block ha.ents (ht.block _ ha.ents.lt (h1 _ (.inr (.inl rfl)))), owns_block ha.toch (ht.block _ ha.toch.lt (h1 _ (.inr (.inr (.inl rfl))))),
    ⟨⟨Nat.le_trans ha.log.raw.lo ht.size, ht.obj ha.log.raw.obj (h1 _ (.inr (.inr (.inr (.inl rfl))))), ⟨ha.log.raw.own.row.turns ht (fun k hk => h1 _ (.inr (.inr (.inr (.inr hk))))), fun x hx => ⟨row_turns (ha.log.raw.own.val x hx).1 ht (fun k hk => h3 x hx k hk), (ha.log.raw.own.val x hx).2⟩⟩⟩, ha.log.same, ha.log.ok, ha.log.few⟩,
    fun x hx => ⟨row_turns (ha.vals x hx).1 ht (fun k hk => h2 x hx k hk), (ha.vals x hx).2⟩, ha.same, ha.tval, ha.ne, ha.few⟩
/-- All that a store holds lies below N. -/
structure StoUp (N : Nat) (h : StoH) : Prop where
  s : ∀ k, StoS h k → k < N
  e : ∀ x ∈ h.E, ∀ k, (Value.slice x.2.1 x.1.val.length x.2.2).ownBlock = some k → k < N
  l : ∀ x ∈ h.H, ∀ k, (Value.slice x.2.1 x.1.val.length x.2.2).ownBlock = some k → k < N
theorem _root_.Go.Proofs.YtaleceobkbgcnaaGreat.StoAt.up {w : World} {B : Nat} {h : StoH} {d : StoD} (ha : StoAt w B h d) : StoUp w.heap.size h :=
  ⟨ha.lt, fun x hx k hk => ((ha.vals x hx).1.lt k hk).2, fun x hx k hk => ((ha.log.raw.own.val x hx).1.lt k hk).2⟩
/-- What is younger than all that a store holds does not turn it. -/
theorem _root_.Go.Proofs.YtaleceobkbgcnaaGreat.StoAt.high {S : Nat → Prop} {w w' : World} {B N : Nat} {h : StoH} {d : StoD} (ha : StoAt w B h d) (hu : StoUp N h) (ht : Turns S w w') (hS : ∀ k, S k → N ≤ k) : StoAt w' B h d :=
  ha.apart6 ht (fun k hk hs => by have := hu.s k hk; have := hS k hs; omega) (fun x hx k hk hs => by have := hu.e x hx k hk; have := hS k hs; omega) (fun x hx k hk hs => by have := hu.l x hx k hk; have := hS k hs; omega)
/-- What is elder than what a store holds does not turn it. -/
theorem _root_.Go.Proofs.YtaleceobkbgcnaaGreat.StoAt.low {S : Nat → Prop} {w w' : World} {B : Nat} {h : StoH} {d : StoD} (ha : StoAt w B h d) (ht : Turns S w w') (h1 : ∀ k, StoS h k → ¬ S k) (hS : ∀ k, S k → k < B) : StoAt w' B h d :=
  ha.apart6 ht h1 (fun x hx k hk hs => by have := ((ha.vals x hx).1.lt k hk).1; have := hS k hs; omega) (fun x hx k hk hs => by have := ((ha.log.raw.own.val x hx).1.lt k hk).1; have := hS k hs; omega)
/-- One entry that was told: its block, its cells. -/
theorem told_ent {w : World} {N : Nat} {v : Value} {E : List EntH} {x : EntD} (h : EnRow w N v E) (he : E.map (·.1) = [x]) : ∃ g c a k, v = .slice (some ⟨g, 0, none⟩) 1 c ∧ N ≤ g ∧ HasTy w g 75 ∧ ValOwn w N x.val a k ∧ w.cell? ⟨g, 0, none⟩ = some (.string x.key) ∧ w.cell? ⟨g, 1, none⟩ = some (.int .i64 x.rev)
    ∧ w.cell? ⟨g, 2, none⟩ = some (.slice a x.val.length k) := by
  obtain ⟨y, rfl⟩ : ∃ y, E = [y] := by
    match E, he with
    | [y], _ => exact ⟨y, rfl⟩
  obtain ⟨y, a, k⟩ := y
  obtain rfl : y = x := by simpa using he
  have hv := h.val _ (List.mem_singleton.2 rfl)
  have hr := h.row
  rcases hr.2 with ⟨_, e⟩ | ⟨g, c, cur, rfl, hg, hb, _⟩
  · cases e
  · refine ⟨g, c, a, k, rfl, hg, ⟨_, _, hb⟩, hv, ?_, ?_, ?_⟩
    · rw [hr.cellAt 0 (by simp)]; rfl
    · rw [hr.cellAt 1 (by simp)]; rfl
    · rw [hr.cellAt 2 (by simp)]; rfl
theorem keyed_one (x : EntD) : Keyed [x] := List.pairwise_singleton _ _
/-- One write, and no guard. -/
theorem err_put {d : StoD} {k : ByteArray} {V : List Int} (hk : keyB k = true) (hV : V.length ≤ 4000) : txnErr d [] [⟨k, V, false⟩] = 0 := by
  have h : txnS [] [⟨k, V, false⟩] = true := by
    unfold txnS
    simp [stepW, wrS, hk, hV, hasB]
  unfold txnErr
  rw [if_pos h, if_pos (by rfl), if_pos (by simp [goneB])]
theorem first_put {k : ByteArray} {V : List Int} (hk : keyB k = true) (hV : V.length ≤ 4000) : (txnF newS [] [⟨k, V, false⟩]).E = [⟨k, 1, V⟩] ∧ (txnF newS [] [⟨k, V, false⟩]).log = ⟨64, [⟨1, k, V, false⟩], 0, 1⟩ := by
  unfold txnF
  rw [if_pos (err_put hk hV)]
  refine ⟨rfl, ?_⟩
  show addD (newD 64) [evD (revS newS) ⟨k, V, false⟩] = _
  exact addD_room (newD_ok 64) (follow_one (show (0 : Int) < 1 by decide)) (show ((0 + 1 : Nat) : Int) ≤ 64 by decide)
end Go.Proofs.YtaleceobkbgcnaaGreat.Rp
namespace Go.Proofs.YtaleceobkbgcnaaGreat.Rp
open Go.RowKit

/-- A store at S, made behind w0: it holds d, and has counted n keys' beginnings at most. -/
def Live (w0 w : World) (S : Nat) (d : StoD) (n : Nat) : Prop := ∃ h B, h.S = S ∧ StoAt w B h d ∧ StoLo w0.heap.size h ∧ w0.heap.size ≤ B ∧ h.nT ≤ n ∧ Below w0.heap.size w0 w
theorem Live.bel {w0 w : World} {S : Nat} {d : StoD} {n : Nat} (h : Live w0 w S d n) : Below w0.heap.size w0 w := by
  obtain ⟨_, _, _, _, _, _, _, h⟩ := h
  exact h
theorem Live.pos {w0 w : World} {S : Nat} {d : StoD} {n : Nat} (h : Live w0 w S d n) : w0.heap.size ≤ S ∧ S < w.heap.size := by
  obtain ⟨h, B, rfl, ha, hlo, _⟩ := h
  exact ⟨hlo.1, ha.lt _ (.inl rfl)⟩
theorem Live.ty {w0 w : World} {S : Nat} {d : StoD} {n : Nat} (h : Live w0 w S d n) : ∀ k, k = S → ∃ t, HasTy w k t ∧ t ≠ 5 := by
  obtain ⟨h, B, rfl, ha, _⟩ := h
  rintro k rfl
  exact ⟨_, ⟨_, _, ha.obj⟩, by decide⟩
theorem Live.below {w0 w w' : World} {S : Nat} {d : StoD} {n : Nat} (h : Live w0 w S d n) (hb : Below w.heap.size w w') : Live w0 w' S d n := by
  obtain ⟨h, B, hS, ha, hlo, hB, hn, hw⟩ := h
  exact ⟨h, B, hS, ha.below hb, hlo, hB, hn, hw.trans (hb.mono hw.size)⟩
theorem Live.mono {w0 w : World} {S : Nat} {d : StoD} {n m : Nat} (h : Live w0 w S d n) (hm : n ≤ m) : Live w0 w S d m := by
  obtain ⟨h, B, hS, ha, hlo, hB, hn, hw⟩ := h
  exact ⟨h, B, hS, ha, hlo, hB, Nat.le_trans hn hm, hw⟩
theorem Live.ok {w0 w : World} {S : Nat} {d : StoD} {n : Nat} (h : Live w0 w S d n) : d.log.Ok := by
  obtain ⟨h, B, _, ha, _⟩ := h
  exact ha.log.ok
def NewLive (w : World) (e : Ending) (w' : World) : Prop := ∃ S, e = .returned (pt S) ∧ Live w w' S newS 0 ∧ Below w.heap.size w w'
theorem live_new (w : World) : Calls Tryz.prog 40 #[] w (NewLive w) := by
  refine (stoNew_any w).mono ?_
  rintro e w' ⟨h, rfl, ha, hb, hn, hlo, _⟩
  exact ⟨h.S, rfl, ⟨h, w.heap.size, rfl, ha, hlo, Nat.le_refl _, by omega, hb⟩, hb⟩
/-- What turns where a store is asked, or written to: what is its own. -/
abbrev Mid (w0 wM : World) (k : Nat) : Prop := w0.heap.size ≤ k ∧ k < wM.heap.size
def GotLive (w0 w : World) (S : Nat) (d : StoD) (n : Nat) (k : ByteArray) (e : Ending) (w' : World) : Prop := ∃ a c, e = .returned (.tuple #[enV (getS d k) a c, .bool (d.E.find? (isK k)).isSome]) ∧ ValOwn w' w.heap.size (getS d k).val a c ∧ Live w0 w' S { d with reads := wrap64 (d.reads + 1) } n ∧ Turns (fun x => x = S) w w'
theorem live_get {w0 w : World} {S : Nat} {d : StoD} {n : Nat} (h : Live w0 w S d n) (k : ByteArray) (hk : k.size ≤ maxLen) : Calls Tryz.prog 42 #[pt S, .string k] w (GotLive w0 w S d n k) := by
  have hp := h.pos
  have hbw := h.bel
  obtain ⟨h, B, rfl, ha, hlo, hB, hn, _⟩ := h
  refine (stoGet_any w B h d k ha hk).mono ?_
  rintro e w' ⟨a, c, rfl, hv, ha', ht⟩
  exact ⟨a, c, rfl, hv, ⟨h, B, rfl, ha', hlo, hB, hn, hbw.trans (ht.below hbw.size (fun x hx => by omega))⟩, ht⟩
def ListLive (w0 w : World) (S : Nat) (d : StoD) (n : Nat) (e : Ending) (w' : World) : Prop := ∃ v E, e = .returned v ∧ E.map (·.1) = d.E ∧ EnRow w' w.heap.size v E ∧ Live w0 w' S { d with reads := wrap64 (d.reads + 1) } n ∧ Turns (fun x => x = S) w w'
theorem live_list {w0 w : World} {S : Nat} {d : StoD} {n : Nat} (h : Live w0 w S d n) (hs : Keyed d.E) (hk : ∀ x ∈ d.E, x.key.size ≤ 20) (hm : d.E.length ≤ 1000000000) : Calls Tryz.prog 43 #[pt S] w (ListLive w0 w S d n) := by
  have hp := h.pos
  have hbw := h.bel
  obtain ⟨h, B, rfl, ha, hlo, hB, hn, _⟩ := h
  refine (stoList_any w B h d ha hs hk hm).mono ?_
  rintro e w' ⟨v, E, rfl, hE, hr, ha', ht⟩
  exact ⟨v, E, rfl, hE, hr, ⟨h, B, rfl, ha', hlo, hB, hn, hbw.trans (ht.below hbw.size (fun x hx => by omega))⟩, ht⟩
def WatchLive (w0 w : World) (S : Nat) (d : StoD) (n : Nat) (rev : Int) (e : Ending) (w' : World) : Prop := ∃ v H, e = .returned (.tuple #[v, .int .i64 (errF d.log rev)]) ∧ evs H = fromF d.log rev ∧ EvRow w' w.heap.size v H ∧ Live w0 w' S { d with reads := wrap64 (d.reads + 1) } n ∧ Turns (fun x => x = S) w w'
theorem live_watch {w0 w : World} {S : Nat} {d : StoD} {n : Nat} (h : Live w0 w S d n) (rev : Int) : Calls Tryz.prog 44 #[pt S, .int .i64 rev] w (WatchLive w0 w S d n rev) := by
  have hp := h.pos
  have hbw := h.bel
  obtain ⟨h, B, rfl, ha, hlo, hB, hn, _⟩ := h
  refine (stoWatch_any w B h d rev ha).mono ?_
  rintro e w' ⟨v, H, rfl, hE, hr, ha', ht, _⟩
  exact ⟨v, H, rfl, hE, hr, ⟨h, B, rfl, ha', hlo, hB, hn, hbw.trans (ht.below hbw.size (fun x hx => by omega))⟩, ht⟩
theorem live_rev {w0 w : World} {S : Nat} {d : StoD} {n : Nat} (h : Live w0 w S d n) : Calls Tryz.prog 48 #[pt S] w fun e w' => e = .returned (.int .i64 d.log.last) ∧ w' = w := by
  obtain ⟨h, B, rfl, ha, _⟩ := h
  exact stoRev_any w B h d ha
def TxnLive (w0 wM W : World) (S : Nat) (d : StoD) (n : Nat) (gs : List Gd) (ws : List Wr) (e : Ending) (w' : World) : Prop :=
  e = .returned (.tuple #[.int .i64 (txnRev d gs ws), .int .i64 (txnErr d gs ws)]) ∧ Live w0 w' S (txnF d gs ws) (n + 1280) ∧ Turns (Mid w0 wM) W w'
theorem live_txn {w0 wM W : World} {S : Nat} {d : StoD} {n : Nat} (hl : Live w0 wM S d n) (hW : Below wM.heap.size wM W) (ga : Option Addr) (gs : List Gd) (gc : Nat) (wa : Option Addr) (ws : List Wr) (wc : Nat) (hg : ∀ w', Turns (Mid w0 wM) W w' → AtG w' ga gs) (hw : WsAt (Mid w0 wM) W wa ws) (hwc : ws.length ≤ wc) (hwm : wc ≤ maxLen)
    (hn : n ≤ 900000000) (hE : d.E.length ≤ 900000000) (hr : 0 ≤ d.log.last ∧ d.log.last ≤ 1000000000000) : Calls Tryz.prog 41 #[pt S, .agg #[.slice ga gs.length gc, .slice wa ws.length wc]] W (TxnLive w0 wM W S d n gs ws) := by
  have hbw := hl.bel
  obtain ⟨h, B, rfl, ha, hlo, hB, hnT, _⟩ := hl
  have hmid : ∀ k, StoS h k → Mid w0 wM k := fun k hk => ⟨hlo.ge ha hB k hk, ha.lt k hk⟩
  have hlen : h.E.length = d.E.length := by rw [← ha.same, List.length_map]
  refine (stoTxnDo_any W B h d ga gs gc wa ws wc (ha.below hW) (fun w' ht => hg w' (ht.mono hmid)) ⟨hw.1, fun i hi => by
    obtain ⟨b, off, va, vc, q1, q2, q3, q4, q5⟩ := hw.2 i hi
    exact ⟨b, off, va, vc, q1, q2, q3, q4, fun w' ht => q5 w' (ht.mono hmid)⟩⟩ hwc hwm (by omega) (by omega) hr).mono ?_
  rintro e w' ⟨rfl, n', L, E, v, H, ha', hn', _, ht, _⟩
  exact ⟨rfl, ⟨{ h with nT := n', L := L, E := E, v := v, H := H }, B, rfl, ha', hlo, hB, by show n' ≤ _; omega, (hbw.trans (hW.mono hbw.size)).trans (ht.below (by have := hbw.size; have := hW.size; omega) (fun x hx => (hmid x hx).1))⟩, ht.mono hmid⟩
/-- One guard in a block of its own. -/
theorem at_guard1 {S : Nat → Prop} {W : World} {g : Nat} {k : ByteArray} {r : Int} {u : Bool} (hg : W.heap[g]? = some (.cells #[.string k, .int .i64 r, .bool u] 81)) (hS : ¬ S g) : ∀ w', Turns S W w' → AtG w' (some ⟨g, 0, none⟩) [(k, r, u)] := fun w' ht =>
  ⟨by simp, fun i hi => by
    obtain rfl : i = 0 := by simpa using hi
    have q := ht.obj hg hS
    have hl := (Array.getElem?_eq_some_iff.1 q).1
    exact ⟨g, 0, rfl, hl, cell_of_obj q 0, cell_of_obj q 1, cell_of_obj q 2⟩⟩
theorem at_guard0 {S : Nat → Prop} {W : World} {a : Option Addr} : ∀ w', Turns S W w' → AtG w' a [] := fun _ _ => ⟨by simp, fun i hi => absurd hi (Nat.not_lt_zero i)⟩
/-- One write in a block of its own. -/
theorem at_write1 {S : Nat → Prop} {W : World} {g : Nat} {k : ByteArray} {a : Option Addr} {V : List Int} {c : Nat} {u : Bool} (hg : W.heap[g]? = some (.cells #[.string k, .slice a V.length c, .bool u] 73)) (hS : ¬ S g) (h1 : V.length ≤ c) (h2 : c ≤ maxLen) (h3 : a = none → c = 0) (hV : ∀ w', Turns S W w' → AtB w' a V) : WsAt S W (some ⟨g, 0, none⟩) [⟨k, V, u⟩] :=
  ⟨by simp, fun i hi => by
    obtain rfl : i = 0 := by simpa using hi
    refine ⟨g, 0, a, c, rfl, h1, h2, h3, fun w' ht => ?_⟩
    have q := ht.obj hg hS
    exact ⟨(Array.getElem?_eq_some_iff.1 q).1, cell_of_obj q 0, cell_of_obj q 1, cell_of_obj q 2, hV w' ht⟩⟩
theorem atB_none (w : World) (a : Option Addr) : AtB w a [] := fun i hi => absurd hi (Nat.not_lt_zero i)
theorem txnS_one {gs : List Gd} {x : Wr} (h1 : gs.length ≤ 20) (h2 : gs.all gdS = true) (h3 : wrS x = true) : txnS gs [x] = true := by
  unfold txnS
  rw [h2]
  simp [stepW, h1, h3, hasB]
theorem err_one {d : StoD} {gs : List Gd} {x : Wr} (h1 : gs.length ≤ 20) (h2 : gs.all gdS = true) (h3 : wrS x = true) : txnErr d gs [x] = if holdAllB d gs then (if goneB d x then 0 else 3) else 6 := by
  unfold txnErr
  rw [if_pos (txnS_one h1 h2 h3)]
  simp
theorem txnF_no {d : StoD} {gs : List Gd} {ws : List Wr} (h : txnErr d gs ws ≠ 0) : (txnF d gs ws).E = d.E ∧ (txnF d gs ws).log = d.log ∧ txnRev d gs ws = 0 := by
  unfold txnF txnRev
  rw [if_neg h, if_neg h]
  exact ⟨rfl, rfl, rfl⟩
theorem txnF_one {d : StoD} {gs : List Gd} {x : Wr} (h : txnErr d gs [x] = 0) : (txnF d gs [x]).E = (if x.gone then delD x.key d.E else putD ⟨x.key, d.log.last + 1, x.val⟩ d.E) ∧ (txnF d gs [x]).log.last = d.log.last + 1 ∧ txnRev d gs [x] = d.log.last + 1 := by
  unfold txnF txnRev
  rw [if_pos h, if_pos h]
  refine ⟨rfl, ?_, rfl⟩
  show (addD d.log [evD (revS d) x]).last = _
  unfold addD
  rw [if_pos (follow_one (show d.log.last < d.log.last + 1 by omega))]
  rfl
theorem turn_nat6 (i : Int) {n : Nat} (h : 0 < n) (h2 : n ≤ 1000000) : ∃ k : Nat, k < n ∧ (wrap64 (i.tmod (n : Int) + (n : Int))).tmod (n : Int) = (k : Int) := by
  have b := turn_in i (n := (n : Int)) (by omega) (by omega)
  exact ⟨((wrap64 (i.tmod (n : Int) + (n : Int))).tmod (n : Int)).toNat, by omega, by omega⟩
theorem lawText_any (s : ByteArray) (n : Int) (h0 : 0 ≤ n) (w : World) : Calls Tryz.prog 47 #[.string s, .int .i64 n] w fun e w' => ∃ t : ByteArray, e = .returned (.string t) ∧ (t.size : Int) ≤ n ∧ w = w' := by
  have z0 : (0 : Int) ≤ min (s.size : Int) n := by omega
  have z1 : min (s.size : Int) n ≤ (s.size : Int) := by omega
  go_enter Tryz.func47, Tryz.ntmps47
  go_wp2
  go_ret
  exact ⟨_, rfl, by rw [ByteArray.size_extract]; omega, rfl⟩
theorem heap_three0 (W : World) (o o' o'' : Obj) : (((W.alloc o).alloc o').alloc o'').heap[W.heap.size]? = some o := by
  rw [Below.heap_alloc _ _ _ (by simp; omega)]
  exact heap_two0 W o o'
theorem heap_three1 (W : World) (o o' o'' : Obj) : (((W.alloc o).alloc o').alloc o'').heap[W.heap.size + 1]? = some o' := by
  rw [Below.heap_alloc _ _ _ (by simp)]
  exact heap_two1 W o o'
theorem heap_three2 (W : World) (o o' o'' : Obj) : (((W.alloc o).alloc o').alloc o'').heap[W.heap.size + 1 + 1]? = some o'' := by
  have := heap_alloc_self ((W.alloc o).alloc o') o''
  simpa using this
theorem at_two {w : World} {g : Nat} {x y : Int} {fr : Nat × Nat} (hg : w.heap[g]? = some (.cells #[.int .u8 x, .int .u8 y] 5 fr)) (x0 : 0 ≤ x) (x1 : x ≤ 255) (y0 : 0 ≤ y) (y1 : y ≤ 255) : AtB w (some ⟨g, 0, none⟩) [x, y] := fun i hi => by
  have hl := (Array.getElem?_eq_some_iff.1 hg).1
  match i, hi with
  | 0, _ => exact ⟨g, 0, rfl, hl, cell_of_obj hg 0, x0, x1⟩
  | 1, _ => exact ⟨g, 0, rfl, hl, cell_of_obj hg 1, y0, y1⟩
theorem at_one {w : World} {g : Nat} {x : Int} {fr : Nat × Nat} (hg : w.heap[g]? = some (.cells #[.int .u8 x] 5 fr)) (x0 : 0 ≤ x) (x1 : x ≤ 255) : AtB w (some ⟨g, 0, none⟩) [x] := fun i hi => by
  obtain rfl : i = 0 := by simpa using hi
  exact ⟨g, 0, rfl, (Array.getElem?_eq_some_iff.1 hg).1, cell_of_obj hg 0, x0, x1⟩
/-- Two writes in a block of their own. -/
theorem at_write2 {S : Nat → Prop} {W : World} {g : Nat} {k k' : ByteArray} {a a' : Option Addr} {V V' : List Int} {c c' : Nat} {u u' : Bool} (hg : W.heap[g]? = some (.cells #[.string k, .slice a V.length c, .bool u, .string k', .slice a' V'.length c', .bool u'] 73)) (hS : ¬ S g)
    (h1 : V.length ≤ c) (h2 : c ≤ maxLen) (h3 : a = none → c = 0) (hV : ∀ w', Turns S W w' → AtB w' a V) (h1' : V'.length ≤ c') (h2' : c' ≤ maxLen) (h3' : a' = none → c' = 0) (hV' : ∀ w', Turns S W w' → AtB w' a' V') : WsAt S W (some ⟨g, 0, none⟩) [⟨k, V, u⟩, ⟨k', V', u'⟩] :=
  ⟨by simp, fun i hi => by
    match i, hi with
    | 0, _ =>
      refine ⟨g, 0, a, c, rfl, h1, h2, h3, fun w' ht => ?_⟩
      have q := ht.obj hg hS
      exact ⟨(Array.getElem?_eq_some_iff.1 q).1, cell_of_obj q 0, cell_of_obj q 1, cell_of_obj q 2, hV w' ht⟩
    | 1, _ =>
      refine ⟨g, 0, a', c', rfl, h1', h2', h3', fun w' ht => ?_⟩
      have q := ht.obj hg hS
      exact ⟨(Array.getElem?_eq_some_iff.1 q).1, cell_of_obj q 3, cell_of_obj q 4, cell_of_obj q 5, hV' w' ht⟩⟩
end Go.Proofs.YtaleceobkbgcnaaGreat.Rp
