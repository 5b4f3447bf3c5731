/-
  Stores: Txn, walked. No conditions beyond what is written in each statement.
-/
import Derived.Test.YtaleceobkbgcnaaGreatGStoD
set_option linter.unusedSimpArgs false
set_option linter.unusedVariables false
namespace Go.Proofs.YtaleceobkbgcnaaGreat
open Go.RowKit

/-- What the loop over a txn's writes leaves. -/
def TxnL (w wr : World) (B : Nat) (h : StoH) (d : StoD) (rev : Int) (ws : List Wr) (j : Nat) (es : Value) : Prop :=
  ∃ n L E H', StoAt wr B { h with nT := n, L := L, E := E } (writesS d rev (ws.take j)) ∧ n ≤ h.nT + 20 * j ∧ E.length ≤ h.E.length + j ∧ Turns (StoS h) w wr ∧ wr.ownsRow w.heap.size 30 4 es H'.length (H'.flatMap cellsE) ∧ evs H' = (ws.take j).map (evD rev) ∧ ∀ x ∈ H', Steady h w x
theorem StoAt.newLog {w w' : World} {B : Nat} {h : StoH} {d : StoD} {v' : Value} {H' : List EvH} {l : LogD} (ha : StoAt w B h d) (hl : LogAt w' B h.G v' H' l) (ht : Turns (LogS h.G h.v) w w') : StoAt w' B { h with v := v', H := H' } { d with log := l } := by
  obtain ⟨a1, a2, a3, a4, a5, a6, a7, a8⟩ := ha.apart
  have ty := ha.log.raw.tys
  exact ⟨Nat.le_trans ha.lo ht.size, ht.obj ha.obj (fun hs => hs.elim a3 a4), owns_block ha.ents (ht.block _ ha.ents.lt (fun hs => hs.elim (fun e => a5 e.symm) a7)), owns_block ha.toch (ht.block _ ha.toch.lt (fun hs => hs.elim (fun e => a6 e.symm) a8)), hl, fun x hx => val_turns (ha.vals x hx) ht ty, ha.same, ha.tval, ha.ne, ha.few⟩
theorem StoAt.adds {w w' : World} {B : Nat} {h : StoH} {d : StoD} (ha : StoAt w B h d) {l : LogD} (hs : LogStep B h.G h.v w w' l) : ∃ v H, StoAt w' B { h with v := v, H := H } { d with log := l } ∧ Turns (LogS h.G h.v) w w' ∧ (v.ownBlock = h.v.ownBlock ∨ ∃ k, v.ownBlock = some k ∧ w.heap.size ≤ k) := by
  obtain ⟨v', H', hl, ht, hk⟩ := hs
  exact ⟨v', H', ha.newLog hl ht, ht, hk⟩
theorem evOf_V {h : StoH} {w : World} (rev : Int) (x : Wr) (a : Option Addr) (c : Nat) (hg : x.gone = true → x.val = []) (hv : ∀ w', Turns (StoS h) w w' → AtB w' a x.val) (h1 : x.val.length ≤ c) (h2 : c ≤ maxLen) (h3 : a = none → c = 0) : ∃ a' c', evOf rev x a c = evV (evD rev x) a' c' ∧ Steady h w (evD rev x, a', c') := by
  obtain ⟨key, val, gone⟩ := x
  cases gone
  · exact ⟨a, c, rfl, hv, h1, h2, h3⟩
  · exact ⟨none, 0, rfl, fun w' _ i hi => absurd hi (Nat.not_lt_zero _), Nat.le_refl _, Nat.zero_le _, fun _ => rfl⟩
theorem row_ty {w : World} {N : Nat} {v : Value} {n : Nat} {xs : List Value} (h : w.ownsRow N 30 4 v n xs) {k : Nat} (hk : v.ownBlock = some k) : HasTy w k 30 := by
  rcases h.2 with ⟨rfl, _⟩ | ⟨g, cap, cur, rfl, _, hg, _⟩
  · cases hk
  · cases hk
    exact ⟨_, _, hg⟩
set_option maxRecDepth 100000 in
set_option maxHeartbeats 16000000 in
theorem stoTxnDo_any (w : World) (B : Nat) (h : StoH) (d : StoD) (ga : Option Addr) (gs : List Gd) (gc : Nat) (wa : Option Addr) (ws : List Wr) (wc : Nat) (ha : StoAt w B h d) (hg : ∀ w', Turns (StoS h) w w' → AtG w' ga gs) (hw : WsAt (StoS h) w wa ws) (hwc : ws.length ≤ wc) (hwm : wc ≤ maxLen)
    (hn : h.nT ≤ 900000000) (hE : h.E.length ≤ 900000000) (hr : 0 ≤ d.log.last ∧ d.log.last ≤ 1000000000000) : Calls Tryz.prog 41 #[pt h.S, .agg #[.slice ga gs.length gc, .slice wa ws.length wc]] w (TxnP w B h d gs ws) := by
  have hb0 : Below w.heap.size w (w.alloc (.cells #[.slice ga gs.length gc, .slice wa ws.length wc] 57)) := (Below.refl _ _).alloc (Nat.le_refl _) _
  have hk0 := heap_alloc_self w (.cells #[.slice ga gs.length gc, .slice wa ws.length wc] 57)
  have HX := Lib.hid ha
  have HG := Lib.hid hg
  have HW := Lib.hid hw
  have hSw : h.S < w.heap.size := (Array.getElem?_eq_some_iff.1 ha.obj).1
  have wm := hw.1
  clear ha hg hw
  go_enter Tryz.func41, Tryz.ntmps41
  go_wp2_with fail
  generalize w.alloc (.cells #[.slice ga gs.length gc, .slice wa ws.length wc] 57) = W0 at *
  have ha0 := HX.out.below hb0
  refine (off_any h.S _ _ h.G _ _ W0 ha0.obj).mono ?_
  rintro e W0 ⟨rfl, rfl⟩
  have c4 := cell_of_obj ha0.obj 4
  simp at c4
  have hadd := addInt_any h.S 4 d.writes W0 c4 (free_of_obj ha0.obj 4)
  obtain ⟨ha1, ht1⟩ := ha0.countW (wrap64 (d.writes + 1))
  have hk1 := ht1.obj hk0 (by omega)
  have ht0 : Turns (StoS h) w (W0.setCell ⟨h.S, 4, none⟩ (.int .i64 (wrap64 (d.writes + 1)))) := (turns_of_below hb0).trans (ht1.mono fun x hx => .inl hx)
  clear ha0 c4 hk0 ht1 hb0
  go_wp2_with fail
  refine hadd.mono ?_
  rintro e w1 ⟨rfl, rfl⟩
  clear hadd
  generalize W0.setCell ⟨h.S, 4, none⟩ (.int .i64 (wrap64 (d.writes + 1))) = W1 at *
  have t0 := cell_of_obj hk1 0
  have t1 := cell_of_obj hk1 1
  simp at t0 t1
  have hmay := stoTxn_any ga gs gc wa ws wc W1 (HG.out W1 ht0) (HW.out.at ht0) hwc hwm
  have HA := Lib.hid (And.intro ha1 (And.intro ht0 hk1))
  clear ha1 ht0 hk1
  have hRef : Hid (∀ w2, Below W1.heap.size W1 w2 → ∀ er : Int, txnErr d gs ws = er → er ≠ 0 → TxnP w B h d gs ws (.returned (.tuple #[.int .i64 0, .int .i64 er])) w2) := fun w2 hb er he hne =>
    ⟨by unfold txnRev; rw [he, if_neg hne], h.nT, h.L, h.E, h.v, h.H, by unfold txnF; rw [he, if_neg hne]; exact HA.out.1.below hb, by omega, by omega, HA.out.2.1.trans (turns_of_below hb), .inl rfl⟩
  cases x0 : txnS gs ws
  · have he : Hid (txnErr d gs ws = 1) := by show _ = _; unfold txnErr; rw [x0]; rfl
    rw [x0] at hmay
    go_wp2_with fail
    refine hmay.mono ?_
    rintro e w2 ⟨rfl, hb2⟩
    clear hmay
    go_wp2_with fail
    refine bodyPost_ret (results_tmp2 Tryz.results41 _ _ _) rfl ?_
    exact hRef.out w2 hb2 1 he.out (by decide)
  obtain ⟨hw64, hgk, hwk⟩ := txnS_use x0
  rw [x0] at hmay
  have X0 := Lib.hid x0
  clear x0
  go_wp2_with fail
  refine hmay.mono ?_
  rintro e w2 ⟨rfl, hb2⟩
  clear hmay
  have hT2 : Turns (StoS h) w w2 := HA.out.2.1.trans (turns_of_below hb2)
  have hhold := holdAll_any w2 B h { d with writes := wrap64 (d.writes + 1) } ga gs gc (HA.out.1.below hb2) (HG.out w2 hT2) (fun g hg => Nat.le_trans (keyB_use (hgk g hg)) (by decide))
  change Calls Tryz.prog 91 #[pt h.S, .slice ga gs.length gc] w2 (fun e w' => e = .returned (.bool (holdAllB d gs)) ∧ Below w2.heap.size w2 w') at hhold
  have t0' := cell_laterA hb2 t0
  have t1' := cell_laterA hb2 t1
  have HB2 := Lib.hid (And.intro hb2 hT2)
  clear hb2 hT2 t0 t1
  cases x1 : holdAllB d gs
  · have he : Hid (txnErr d gs ws = 6) := by show _ = _; unfold txnErr; rw [X0.out, x1]; rfl
    rw [x1] at hhold
    go_wp2_with fail
    refine hhold.mono ?_
    rintro e w3 ⟨rfl, hb3⟩
    clear hhold
    go_wp2_with fail
    refine bodyPost_ret (results_tmp2 Tryz.results41 _ _ _) rfl ?_
    exact hRef.out w3 (HB2.out.1.trans (hb3.mono HB2.out.1.size)) 6 he.out (by decide)
  rw [x1] at hhold
  have X1 := Lib.hid x1
  clear x1
  go_wp2_with fail
  refine hhold.mono ?_
  rintro e w3 ⟨rfl, hb3⟩
  clear hhold
  have hb13 : Below W1.heap.size W1 w3 := HB2.out.1.trans (hb3.mono HB2.out.1.size)
  have hT3 : Turns (StoS h) w w3 := HA.out.2.1.trans (turns_of_below hb13)
  have hgone := hasGone_any w3 B h { d with writes := wrap64 (d.writes + 1) } wa ws wc (HA.out.1.below hb13) (HW.out.at hT3) (fun x hx => Nat.le_trans (wrS_use (hwk x hx)).2.1 (by decide))
  change Calls Tryz.prog 92 #[pt h.S, .slice wa ws.length wc] w3 (fun e w' => e = .returned (.bool (ws.all (goneB d))) ∧ Below w3.heap.size w3 w') at hgone
  have t1'' := cell_laterA hb3 t1'
  have HB3 := Lib.hid (And.intro hb13 hT3)
  clear hb13 hT3 t0' t1' hb3 HB2
  cases x2 : ws.all (goneB d)
  · have he : Hid (txnErr d gs ws = 3) := by show _ = _; unfold txnErr; rw [X0.out, X1.out, x2]; rfl
    rw [x2] at hgone
    go_wp2_with fail
    refine hgone.mono ?_
    rintro e w4 ⟨rfl, hb4⟩
    clear hgone
    go_wp2_with fail
    refine bodyPost_ret (results_tmp2 Tryz.results41 _ _ _) rfl ?_
    exact hRef.out w4 (HB3.out.1.trans (hb4.mono HB3.out.1.size)) 3 he.out (by decide)
  have he : Hid (txnErr d gs ws = 0) := by show _ = _; unfold txnErr; rw [X0.out, X1.out, x2]; rfl
  rw [x2] at hgone
  clear x2
  go_wp2_with fail
  refine hgone.mono ?_
  rintro e w4 ⟨rfl, hb4⟩
  clear hgone
  have hb14 : Below W1.heap.size W1 w4 := HB3.out.1.trans (hb4.mono HB3.out.1.size)
  have ha4 := HA.out.1.below hb14
  have c2 := cell_of_obj ha4.obj 2
  simp at c2
  have t1 := cell_laterA hb4 t1''
  have hl : Calls Tryz.prog 29 #[pt h.G] w4 fun e w' => e = .returned (.int .i64 d.log.last) ∧ w' = w4 := by
    obtain ⟨a, c, hv, _⟩ := ha4.log.raw.own.row.shape
    have ho := ha4.log.raw.obj
    rw [hv] at ho
    exact logLast_any _ a _ c _ _ h.G w4 ho
  have H4 := Lib.hid (And.intro ha4 (HA.out.2.1.trans (turns_of_below (S := StoS h) hb14)))
  clear ha4 hb14 hb4 t1'' HB3
  go_wp2_with fail
  refine hl.mono ?_
  rintro e w5 ⟨rfl, rfl⟩
  clear hl
  have s1 : wrap64 (d.log.last + 1) = d.log.last + 1 := IntWalk.wrap64_in _ (by omega)
  have HRV : Hid (d.log.last + 1 = revS d) := rfl
  go_wp2_with fail
  obtain ⟨iE, hi, hz0, hz1, hz2⟩ := info_parts infoE2
  have HI := Lib.hid (And.intro hi (And.intro hz0 (And.intro hz1 hz2)))
  clear hi hz0 hz1 hz2 c2 t1
  obtain ⟨rv, hrv⟩ : ∃ rv, d.log.last + 1 = rv := ⟨_, rfl⟩
  rw [hrv]
  have HRW := Lib.hid (hrv.symm.trans HRV.out)
  have hrb : 0 ≤ rv ∧ rv ≤ 1000000000001 := by omega
  have hL0 : Hid (TxnL w w5 B h { d with writes := wrap64 (d.writes + 1) } rv ws 0 (.slice none 0 0)) := ⟨h.nT, h.L, h.E, [], H4.out.1, by omega, by omega, H4.out.2, World.ownsRow_nil _ _ _ _, rfl, fun x hx => by cases hx⟩
  clear s1 hrv
  go_loopw [7, 41] (fun es i wr => ∃ k : Nat, k ≤ ws.length ∧ i = .int .i64 k ∧ Hid (TxnL w wr B h { d with writes := wrap64 (d.writes + 1) } rv ws k es)) (fun _ i _ => ws.length - (intOf i).toNat)
  case atStart => exact ⟨0, Nat.zero_le _, rfl, hL0⟩
  case round =>
    clear hL0 H4
    obtain ⟨k, hk, rfl, HT⟩ := hrel
    obtain ⟨n, L, E, H', hat, hnn, hEE, htu, hrow, hev, hst⟩ := HT.out
    by_cases hlt : k < ws.length
    · obtain ⟨b, off, va, vc, hab, q1, q2, q3, hst4⟩ := HW.out.2 k hlt
      obtain ⟨k0, d0, d1, d2, hvv⟩ := hst4 wr htu
      obtain ⟨r1, r2, r3, r4⟩ := wrS_use (hwk _ (getD_mem hlt))
      have htk := Lib.hid (writesS_take { d with writes := wrap64 (d.writes + 1) } rv ws hlt)
      have hev1 : Hid ((ws.take (k + 1)).map (evD rv) = evs H' ++ [evD rv (ws.getD k r0)]) := by
        show _ = _
        rw [List.take_add_one, List.getD_eq_getElem?_getD, List.getElem?_eq_getElem hlt, List.map_append, hev]
        rfl
      have hl6 : H'.length ≤ 64 := by
        have h1 : (evs H').length = H'.length := List.length_map ..
        rw [hev, List.length_map, List.length_take] at h1
        omega
      have hstq : ∀ w', Turns (StoS h) w w' → AtB w' va (ws.getD k r0).val := fun w' hw' => (hst4 w' hw').2.2.2.2
      subst hab
      generalize ws.getD k r0 = q at *
      have hbx : Below wr.heap.size wr (wr.alloc (.cells #[.string q.key, .slice va q.val.length vc, .bool q.gone] 73)) := (Below.refl _ _).alloc (Nat.le_refl _) _
      have hdo := stoDo_any (wr.alloc (.cells #[.string q.key, .slice va q.val.length vc, .bool q.gone] 73)) B { h with nT := n, L := L, E := E } (writesS { d with writes := wrap64 (d.writes + 1) } rv (ws.take k)) rv q va vc (hat.below hbx)
        (fun w' hw' => hstq w' (htu.trans ((turns_of_below hbx).trans (hw'.mono fun x hx => hx.elim (fun e => .inr (.inl e)) (fun e => .inr (.inr (.inl e))))))) q1 q2 q3 r1 r2 r3 (by dsimp only; omega) (by dsimp only; omega) (by omega)
      obtain ⟨aV, cV, hVe, hVs⟩ := evOf_V (h := h) (w := w) rv q va vc r4 hstq q1 q2 q3
      have HH := Lib.hid (And.intro htu (And.intro hrow (And.intro hev hst)))
      have HBX := Lib.hid hbx
      have HVS := Lib.hid hVs
      clear hat htu hrow hev hst hst4 hvv HT hbx hVs
      go_wp2_with fail
      refine hdo.mono ?_
      rintro e w6 ⟨rfl, n6, L6, E6, hat6, hn6, hE6, ht6⟩
      rw [hVe]
      clear hdo hVe d0 d1 d2
      have hmap : ∀ x, MapS h x → x < w.heap.size := fun x hx => HX.out.lt x (hx.elim (fun e => .inr (.inl e)) (fun e => .inr (.inr (.inl e))))
      have ht6' : Turns (MapS h) wr w6 := (turns_of_below HBX.out).trans (ht6 : Turns (MapS h) _ w6)
      have htu6 : Turns (StoS h) w w6 := HH.out.1.trans (ht6'.mono fun x hx => hx.elim (fun e => .inr (.inl e)) (fun e => .inr (.inr (.inl e))))
      have hrow6 : w6.ownsRow w.heap.size 30 4 u7 H'.length (H'.flatMap cellsE) := row_turns HH.out.2.1 ht6' (fun x hx hs => by have := (HH.out.2.1.lt x hx).1; have := hmap x hs; omega)
      have hsz6 := htu6.size
      have H6 := Lib.hid (And.intro hat6 (And.intro hn6 (And.intro hE6 (And.intro htu6 hmap))))
      clear hat6 hn6 hE6 ht6 ht6' htu6 hmap
      generalize evD rv q = y at *
      go_wp2_with (at_builtin; refine stand ?_)
      show wpList _ _ _ _ _ _
      refine wpList_append_own _ rfl _ _ 23 rfl w.heap.size 30 iE _ 4 56 Tryz.underlying23 HI.out.1 HI.out.2.1 HI.out.2.2.1 HI.out.2.2.2 rfl (by decide) u7 H'.length (H'.flatMap cellsE) rfl (hrow6.alloc _) ⟨w6.heap.size, 0, none⟩ 1 1 (cellsE (y, aV, cV)) rfl rfl (new_cells _ _ _) (by simp [Value.oneCell']) (by unfold maxLen; omega) (by omega) (by simp; omega) ?_
      intro v7 w7 ho7 hg7 hnil
      have hba : Below w6.heap.size w6 (w6.alloc (.cells #[.int .i64 y.rev, .string y.key, .slice aV y.val.length cV, .bool y.gone] 30)) := (Below.refl _ _).alloc (Nat.le_refl _) _
      have htg : Turns (fun x => u7.ownBlock = some x) (w6.alloc (.cells #[.int .i64 y.rev, .string y.key, .slice aV y.val.length cV, .bool y.gone] 30)) w7 := turns_of_grown hg7 fun x hx => hx
      have hu7 : ∀ x, u7.ownBlock = some x → w.heap.size ≤ x := fun x hx => (hrow6.lt x hx).1
      have hat7 := (H6.out.1.below hba).turns htg (fun x hx e => by have := HX.out.lt x hx; have := hu7 x e; omega) (fun x hx => ⟨_, row_ty (hrow6.alloc _) hx, by decide⟩)
      have HN : Hid (TxnL w w7 B h { d with writes := wrap64 (d.writes + 1) } rv ws (k + 1) v7) := by
        refine ⟨n6, L6, E6, H' ++ [(y, aV, cV)], by rw [htk.out]; exact hat7, ?_, ?_, (H6.out.2.2.2.1.trans (turns_of_below hba)).transN htg (fun x hx => .inr (hu7 x hx)), by simpa using ho7, ?_, ?_⟩
        · have := H6.out.2.1
          omega
        · have := H6.out.2.2.1
          omega
        · rw [hev1.out]; simp [evs]
        · intro x hx
          rcases List.mem_append.1 hx with hx | hx
          · exact HH.out.2.2.2 x hx
          · rw [List.mem_singleton] at hx; subst hx; exact HVS.out
      clear hat7 htg hu7 ho7 hg7 hnil hrow6 hba
      go_wp2_with fail
      go_roundw
      case rel => exact ⟨k + 1, by omega, by go_num, HN⟩
      case measure => simp [intOf]; omega
    · obtain rfl : k = ws.length := by omega
      have c2 := cell_of_obj hat.obj 2
      simp at c2
      obtain ⟨a7, c7, rfl, l1, l2, l3⟩ := own_len hrow
      have hEl : (evs H').length = H'.length := List.length_map ..
      have hHl : H'.length ≤ 64 := by
        rw [hev, List.length_map, List.length_take] at hEl
        omega
      have hBl : B ≤ wr.heap.size := hat.lo
      have hSe : ∀ w', Turns (LogS h.G h.v) wr w' → AtE w' a7 (evs H') := fun w' hw' => by
        have htw : Turns (StoS h) w w' := htu.trans (hw'.mono fun x hx => .inr (.inr (.inr hx)))
        refine rowE_at (row_turns hrow hw' (fun x hx hs => ?_)) (fun x hx => ?_) (by omega)
        · have h1 := (hrow.lt x hx).1
          have h2 := HX.out.lt x (.inr (.inr (.inr hs)))
          omega
        · obtain ⟨s1, s2, s3, s4⟩ := hst x hx
          exact ⟨s1 w' htw, s2, s3, s4⟩
      have hvl : ∀ x ∈ evs H', x.val.length ≤ 140737488355328 := fun x hx => by
        rw [hev] at hx
        obtain ⟨y, hy, rfl⟩ := List.mem_map.1 hx
        have h4 := (wrS_use (hwk y (List.mem_of_mem_take hy))).2.2.1
        unfold evD
        dsimp only
        split
        · exact Nat.zero_le _
        · omega
      have hadd := logAdd_any B h.G h.v h.H _ a7 (evs H') c7 wr hat.log hBl hSe (by omega) hvl
      rw [hEl] at hadd
      rw [List.take_length] at hat hev
      have hlg : (writesS { d with writes := wrap64 (d.writes + 1) } rv ws).log = d.log := writesS_log rv ws _
      rw [List.take_length, hlg, hev] at hadd
      have HZ := Lib.hid (And.intro hat (And.intro htu (And.intro hnn (And.intro hEE hlg))))
      clear hat htu hrow hst hSe HT hlg
      go_wp2_with fail
      refine hadd.mono ?_
      rintro e w8 ⟨rfl, hs8⟩
      clear hadd
      obtain ⟨v8, H8, hat8, ht8, hk8⟩ := HZ.out.1.adds hs8
      have hsz := HZ.out.2.1.size
      have HY := Lib.hid (And.intro hat8 (And.intro ht8 hk8))
      clear hat8 ht8 hk8 hs8
      go_wp2_with fail
      try refine bodyPost_ret (results_tmp2 Tryz.results41 _ _ _) rfl ?_
      refine ⟨by unfold txnRev; rw [he.out, if_pos rfl, ← HRW.out]; rfl, n, L, E, v8, H8, ?_, by have := HZ.out.2.2.1; omega, by have := HZ.out.2.2.2.1; omega, HZ.out.2.1.trans (HY.out.2.1.mono fun x hx => .inr (.inr (.inr hx))), ?_⟩
      · unfold txnF
        rw [he.out, if_pos rfl, ← HRW.out]
        exact HY.out.1
      · rcases HY.out.2.2 with h1 | ⟨x, h1, h2⟩
        · exact .inl h1
        · exact .inr ⟨x, h1, by omega⟩
end Go.Proofs.YtaleceobkbgcnaaGreat
