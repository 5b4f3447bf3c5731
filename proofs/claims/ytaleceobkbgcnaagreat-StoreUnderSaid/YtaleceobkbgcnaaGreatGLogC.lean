/-
  Logs: what From tells. No conditions beyond what is written in each statement.
-/
import Derived.Test.YtaleceobkbgcnaaGreatGLogB
import Derived.Test.YtaleceobkbgcnaaGreatGCut
set_option linter.unusedSimpArgs false
set_option linter.unusedVariables false
namespace Go.Proofs.YtaleceobkbgcnaaGreat
open Go.RowKit

/-- Events in a slice that is all the call's own. -/
structure EvRow (w : World) (N : Nat) (v : Value) (H : List EvH) : Prop where
  row : w.ownsRow N 30 4 v H.length (H.flatMap cellsE)
  val : ∀ x ∈ H, ValOwn w N x.1.val x.2.1 x.2.2
theorem EvRow.own {w : World} {N : Nat} {v : Value} {H : List EvH} (h : EvRow w N v H) : EvOwn w N v H := ⟨off_of_row h.row, h.val⟩
theorem EvRow.below {w w' : World} {N : Nat} {v : Value} {H : List EvH} (h : EvRow w N v H) (hb : Below w.heap.size w w') : EvRow w' N v H :=
  ⟨row_turns (S := fun _ => False) h.row (turns_of_below hb) (fun _ _ h => h), fun x hx => val_turns (S := fun _ => False) (h.val x hx) (turns_of_below hb) (fun _ h => h.elim)⟩
theorem EvRow.mono {w : World} {B B' : Nat} {v : Value} {H : List EvH} (h : EvRow w B v H) (hB : B' ≤ B) : EvRow w B' v H :=
  ⟨World.ownsRow.mono h.row hB, fun x hx => ⟨World.ownsRow.mono (h.val x hx).1 hB, (h.val x hx).2⟩⟩
theorem EvRow.snoc {w w2 : World} {N : Nat} {v v2 : Value} {H : List EvH} {x : EvD} {a : Option Addr} {c : Nat} (h : EvRow w N v H) (hx : ValOwn w N x.val a c) (hg : w.grownBy w2 v.ownBlock)
    (ho : w2.ownsRow N 30 4 v2 (H.length + 1) (H.flatMap cellsE ++ cellsE (x, a, c))) : EvRow w2 N v2 (H ++ [(x, a, c)]) := by
  have ht : Turns (fun k => v.ownBlock = some k) w w2 := turns_of_grown hg fun k hk => hk
  have hS : ∀ k, v.ownBlock = some k → ∃ t, HasTy w k t ∧ t ≠ 5 := fun k hk => ⟨_, h.own.hasTy hk, by decide⟩
  refine ⟨by simpa using ho, fun y hy => ?_⟩
  rcases List.mem_append.1 hy with hy | hy
  · exact val_turns (h.val y hy) ht hS
  · rw [List.mem_singleton] at hy
    subst hy
    exact val_turns hx ht hS
theorem EvOwn.snoc {w w2 : World} {N : Nat} {v v2 : Value} {H : List EvH} {x : EvD} {a : Option Addr} {c : Nat} (h : EvOwn w N v H) (hx : ValOwn w N x.val a c) (hg : w.grownBy w2 v.ownBlock)
    (ho : OwnsOff w2 N 30 4 v2 (H.length + 1) (H.flatMap cellsE ++ cellsE (x, a, c))) : EvOwn w2 N v2 (H ++ [(x, a, c)]) := by
  have ht : Turns (fun k => v.ownBlock = some k) w w2 := turns_of_grown hg fun k hk => hk
  have hS : ∀ k, v.ownBlock = some k → ∃ t, HasTy w k t ∧ t ≠ 5 := fun k hk => ⟨_, h.hasTy hk, by decide⟩
  refine ⟨by simpa using ho, fun y hy => ?_⟩
  rcases List.mem_append.1 hy with hy | hy
  · exact val_turns (h.val y hy) ht hS
  · rw [List.mem_singleton] at hy
    subst hy
    exact val_turns hx ht hS
theorem AtE.drop {w : World} {g off : Nat} {l : List EvD} (h : AtE w (some ⟨g, off, none⟩) l) (k : Nat) : AtE w (some ⟨g, off + k * 4, none⟩) (l.drop k) := by
  refine ⟨by rw [List.length_drop]; have := h.1; omega, fun i hi => ?_⟩
  rw [List.length_drop] at hi
  obtain ⟨b, o, va, vc, ha, hb, c0, c1, c2, c3, r⟩ := h.2 (k + i) (by omega)
  cases ha
  have e : (l.drop k).getD i v0 = l.getD (k + i) v0 := by simp [List.getD_eq_getElem?_getD]
  have e2 : off + (k + i) * 4 = off + k * 4 + i * 4 := by rw [Nat.add_mul]; omega
  rw [e2] at c0 c1 c2 c3
  rw [e]
  exact ⟨_, _, va, vc, rfl, hb, c0, c1, c2, c3, r⟩
def errF (d : LogD) (rev : Int) : Int := if rev < d.base then 7 else if d.last < rev then 2 else 0
def fromF (d : LogD) (rev : Int) : List EvD := if errF d rev = 0 then d.evs.filter (fun x => decide (rev < x.rev)) else []
/-- What From tells: all of it new. -/
def FromP (w : World) (d : LogD) (rev : Int) (e : Ending) (w' : World) : Prop := ∃ v H, e = .returned (.tuple #[v, .int .i64 (errF d rev)]) ∧ evs H = fromF d rev ∧ EvRow w' w.heap.size v H ∧ Below w.heap.size w w' ∧ (errF d rev ≠ 0 → v = .slice none 0 0)
theorem EvRow.nil (w : World) (N : Nat) : EvRow w N (.slice none 0 0) [] := ⟨World.ownsRow_nil _ _ _ _, fun x hx => by cases hx⟩
theorem s1_later {w W W' : World} {b o : Nat} {u1 : Value} (h : Below w.heap.size w W ∧ W.cell? ⟨b, o, none⟩ = some u1) (hb : Below W.heap.size W W') : Below w.heap.size w W' ∧ W'.cell? ⟨b, o, none⟩ = some u1 :=
  ⟨h.1.trans (hb.mono h.1.size), cell_laterA hb h.2⟩
/-- The rest of a list of events, told one by one. -/
def Told (w wr : World) (T : List EvD) (j : Nat) (es : Value) : Prop := ∃ H', EvRow wr w.heap.size es H' ∧ evs H' = T.take j ∧ Below w.heap.size w wr
theorem errF_0 {d : LogD} {rev : Int} (h1 : ¬ rev < d.base) (h2 : ¬ d.last < rev) : errF d rev = 0 := by unfold errF; rw [if_neg h1, if_neg h2]
set_option maxRecDepth 100000 in
set_option maxHeartbeats 4000000 in
theorem from_any (B G : Nat) (v : Value) (H : List EvH) (d : LogD) (rev : Int) (w : World) (h : LogAt w B G v H d) : Calls Tryz.prog 25 #[pt G, .int .i64 rev] w (FromP w d rev) := by
  have c3 := cell_of_obj h.raw.obj 3
  have c2 := cell_of_obj h.raw.obj 2
  have c1 := cell_of_obj h.raw.obj 1
  simp at c1 c2 c3
  have HL := Lib.hid h
  by_cases h1 : rev < d.base
  · have he : errF d rev = 7 := by unfold errF; rw [if_pos h1]
    have hf : fromF d rev = [] := by unfold fromF; rw [he]; rfl
    have HE := Lib.hid (And.intro he hf)
    clear h he hf
    generalize d.base = x at *
    go_enter Tryz.func25, Tryz.ntmps25
    go_wp2_with fail
    refine bodyPost_ret (results_tmp2 Tryz.results25 _ _ _) rfl ?_
    exact ⟨.slice none 0 0, [], by rw [HE.out.1]; rfl, HE.out.2.symm, EvRow.nil _ _, Below.refl _ _, fun _ => rfl⟩
  by_cases h2 : d.last < rev
  · have he : errF d rev = 2 := by unfold errF; rw [if_neg h1, if_pos h2]
    have hf : fromF d rev = [] := by unfold fromF; rw [he]; rfl
    have HE := Lib.hid (And.intro he hf)
    clear h he hf
    generalize d.base = x at *
    generalize d.last = y at *
    have h3 : x ≤ rev := by omega
    go_enter Tryz.func25, Tryz.ntmps25
    go_wp2_with fail
    refine bodyPost_ret (results_tmp2 Tryz.results25 _ _ _) rfl ?_
    exact ⟨.slice none 0 0, [], by rw [HE.out.1]; rfl, HE.out.2.symm, EvRow.nil _ _, Below.refl _ _, fun _ => rfl⟩
  have he : errF d rev = 0 := errF_0 h1 h2
  have hf : fromF d rev = (evs H).drop (upN rev (evs H)) := by
    unfold fromF
    rw [he, if_pos rfl, drop_upN _ _ (by rw [h.same]; exact h.ok.up), h.same]
  have HE := Lib.hid (And.intro he hf)
  obtain ⟨a, c, rfl, hnc, hcm, hno, hsp⟩ := h.raw.own.row.shape
  have hlen : (evs H).length = H.length := List.length_map ..
  have hmax := h.len
  have hat := h.raw.own.at (by omega)
  have hu : upN rev (evs H) ≤ H.length := by have := upN_le rev (evs H); omega
  have hC : ∀ W, Below w.heap.size w W → Calls Tryz.prog 68 #[pt G, .int .i64 rev] W fun e w' => e = .returned (.int .i64 (upN rev (evs H) : Nat)) ∧ Below W.heap.size W w' := fun W hW =>
    upTo_any G d.most a c d.base d.last rev (evs H) W (by rw [hlen]; exact (h.below hW).raw.obj) (hat.below hW) (by rw [h.same]; exact h.ok.up) (by omega)
  have hfw : ∀ x ∈ evs H, x.val.length ≤ 140737488355328 := fun x hx => by
    obtain ⟨y, hy, rfl⟩ := List.mem_map.1 hx
    exact h.few y hy
  generalize upN rev (evs H) = k at *
  generalize d.base = x at *
  generalize d.last = y at *
  have h3 : x ≤ rev := by omega
  have h4 : rev ≤ y := by omega
  unfold maxLen at hcm
  have kn : k ≤ c := by omega
  have k1 : (k : Int) ≤ (c : Int) := by omega
  have k2 : (k : Int) ≤ (H.length : Int) := by omega
  have k3 : (H.length : Int) ≤ (c : Int) := by omega
  have hS0 : Below w.heap.size w w.drew ∧ w.drew.cell? ⟨G, 1, none⟩ = some (.slice a H.length c) := ⟨(Below.refl _ _).drew, c1⟩
  have HN := Lib.hid hno
  have HAT := Lib.hid hat
  have HFW := Lib.hid hfw
  have HLN := Lib.hid hlen
  clear h he hf hno hat hfw hlen
  cases a with
  | none =>
    obtain ⟨rfl, hl0⟩ := HN.out rfl
    obtain rfl : H = [] := List.eq_nil_of_length_eq_zero hl0
    obtain rfl : k = 0 := by simpa using hu
    have HP : Hid (∀ wr, Below w.heap.size w wr → FromP w d rev (.returned (.tuple #[.slice none 0 0, .int .i64 0])) wr) := fun wr hb =>
      ⟨_, [], by rw [HE.out.1], by rw [HE.out.2]; rfl, EvRow.nil _ _, hb, fun h => absurd HE.out.1 h⟩
    generalize FromP w d rev = Q at *
    clear HE HAT HFW HLN HL HN
    go_enter Tryz.func25, Tryz.ntmps25
    go_wp2_with fail
    go_region_held_law (fun W => Below w.heap.size w W ∧ W.cell? ⟨G, 1, none⟩ = some (.slice none ([] : List EvH).length 0))
      (first | exact hS1 | exact hS0 | go_keep)
      (first
        | (go_at_call 68
           refine (hC _ (And.left (by assumption))).mono ?_
           rintro e w1 ⟨rfl, hb1⟩
           have hS1 := s1_later (by assumption) hb1))
    have hb0 : Below w.heap.size w w1 := hS1.1
    go_wp2_with fail
    go_loopw [6, 32] (fun es i wr => es = .slice none 0 0 ∧ i = .int .i64 0 ∧ wr = w1) (fun _ _ _ => 0)
    case atStart => exact ⟨rfl, rfl, rfl⟩
    case round =>
      obtain ⟨rfl, rfl, rfl⟩ := hrel
      go_wp2
      exact HP.out _ hb0
  | some b =>
    obtain ⟨g, off, spot⟩ := b
    have := hsp _ rfl
    subst this
    clear hsp
    go_enter Tryz.func25, Tryz.ntmps25
    go_wp2_with fail
    go_region_held_law (fun W => Below w.heap.size w W ∧ W.cell? ⟨G, 1, none⟩ = some (.slice (some ⟨g, off, none⟩) H.length c))
      (first | exact hS1 | exact hS0 | go_keep)
      (first
        | (go_at_call 68
           refine (hC _ (And.left (by assumption))).mono ?_
           rintro e w1 ⟨rfl, hb1⟩
           have hS1 := s1_later (by assumption) hb1))
    obtain ⟨ta, hta⟩ : ∃ ta : Option Addr, (if c = k then some (⟨g, off, none⟩ : Addr) else some ⟨g, off + k * 4, none⟩) = ta := ⟨_, rfl⟩
    have hT : AtE w ta ((evs H).drop k) := by
      rw [← hta]
      split
      · rw [List.drop_eq_nil_of_le (by rw [HLN.out]; omega)]
        exact ⟨Nat.zero_le _, fun i hi => absurd hi (Nat.not_lt_zero _)⟩
      · exact HAT.out.drop k
    rw [hta]
    clear hta
    have hTl : ((evs H).drop k).length = H.length - k := by rw [List.length_drop, HLN.out]
    have hTw : ∀ x ∈ (evs H).drop k, x.val.length ≤ 140737488355328 := fun x hx => HFW.out x (List.mem_of_mem_drop hx)
    have HP : Hid (∀ es wr, Told w wr ((evs H).drop k) ((evs H).drop k).length es → FromP w d rev (.returned (.tuple #[es, .int .i64 0])) wr) := fun es wr ⟨H', q1, q2, q3⟩ =>
      ⟨es, H', by rw [HE.out.1], by rw [q2, List.take_length, HE.out.2], q1, q3, fun h => absurd HE.out.1 h⟩
    have hb0 : Below w.heap.size w w1 := hS1.1
    rw [← hTl]
    have hTm0 : ((evs H).drop k).length ≤ 1000 := by omega
    generalize (evs H).drop k = T at *
    generalize FromP w d rev = Q at *
    clear hTl HE HAT HFW HLN HL HN hS1 hS0 hC c1 c2 c3 hb1
    obtain ⟨iE, hi, hz0, hz1, hz2⟩ := info_parts infoE2
    have HI := Lib.hid (And.intro hi (And.intro hz0 (And.intro hz1 hz2)))
    clear hi hz0 hz1 hz2
    go_wp2_with fail
    go_loopw [6, 32] (fun es i wr => ∃ j : Nat, j ≤ T.length ∧ i = .int .i64 j ∧ Hid (Told w wr T j es)) (fun _ i _ => T.length - (intOf i).toNat)
    case atStart => exact ⟨0, Nat.zero_le _, rfl, [], EvRow.nil _ _, by simp [evs], hb0⟩
    case round =>
      obtain ⟨j, hj, rfl, HT⟩ := hrel
      by_cases hlt : j < T.length
      · obtain ⟨gb, o, va, vc, hta, hgb, d0, d1, d2, d3, hv, q1, q2, q3⟩ := hT.2 j hlt
        subst hta
        obtain ⟨H', r1, r2, r3⟩ := HT.out
        have e0 := cell_later r3 d0
        have e1 := cell_later r3 d1
        have e2 := cell_later r3 d2
        have e3 := cell_later r3 d3
        have hxw := hTw _ (getD_mem' hlt)
        have HX : Hid (T.take (j + 1) = T.take j ++ [T.getD j v0]) := by
          show _ = _
          rw [List.take_add_one, List.getD_eq_getElem?_getD, List.getElem?_eq_getElem hlt]
          rfl
        have HR := Lib.hid (And.intro r1 (And.intro r2 r3))
        have hv' := hv.below' r3
        have hj1 : (j : Int) < (T.length : Int) := by omega
        generalize T.getD j v0 = x at *
        clear d0 d1 d2 d3 r1 r2 r3 hv HT hT hTw hgb hb0
        go_wp2_with fail
        refine (own_any x va vc _ (hv'.below' ((Below.refl _ _).alloc (Nat.le_refl _) _)) q3 hxw q1 q2).mono ?_
        rintro e w2 ⟨a2, c2, rfl, hvo, hb2⟩
        have hbw : Below wr.heap.size wr w2 := ((Below.refl _ _).alloc (Nat.le_refl _) _).trans (hb2.mono (by simp))
        have hsz := hbw.size
        have hsz0 := HR.out.2.2.size
        have hl6 : H'.length ≤ 1000 := by
          have h1 : (evs H').length = H'.length := List.length_map ..
          rw [HR.out.2.1, List.length_take] at h1
          omega
        have hr2 := HR.out.1.below hbw
        have HV := Lib.hid (And.intro hvo hbw)
        clear hvo hbw hb2 hv' e0 e1 e2 e3
        go_wp2_with (at_builtin; refine stand ?_)
        show wpList _ _ _ _ _ _
        refine wpList_append_own _ rfl _ _ 23 rfl w.heap.size 30 iE _ 4 56 Tryz.underlying23 HI.out.1 HI.out.2.1 HI.out.2.2.1 HI.out.2.2.2 rfl (by decide) u6 H'.length (H'.flatMap cellsE) rfl (hr2.row.alloc _) ⟨w2.heap.size, 0, none⟩ 1 1 (cellsE (x, a2, c2)) rfl rfl (new_cells _ _ _) (by simp [Value.oneCell']) (by unfold maxLen; omega) (by omega) (by simp; omega) ?_
        intro v3 w3 ho3 hg3 hnil
        have hba : Below w2.heap.size w2 (w2.alloc (.cells #[.int .i64 x.rev, .string x.key, .slice a2 x.val.length c2, .bool x.gone] 30)) := (Below.refl _ _).alloc (Nat.le_refl _) _
        have hN := (hr2.below hba).snoc ⟨World.ownsRow.mono (row_turns (S := fun _ => False) HV.out.1.1 (turns_of_below hba) (fun _ _ h => h)) (by simp; omega), HV.out.1.2⟩ hg3 ho3
        have hb3 : Below w.heap.size w w3 := (HR.out.2.2.trans (HV.out.2.mono hsz0)).trans ((hba.mono (by omega)).trans (grown_below hg3 (hr2.row.alloc _) (by simp; omega)))
        clear ho3 hg3 hnil hr2
        go_wp2_with fail
        go_roundw
        case rel => exact ⟨j + 1, by omega, by go_num, H' ++ [(x, a2, c2)], hN, by rw [HX.out, ← HR.out.2.1]; simp [evs], hb3⟩
        case measure => simp [intOf]; omega
      · obtain rfl : j = T.length := by omega
        go_wp2
        exact HP.out _ _ HT.out
end Go.Proofs.YtaleceobkbgcnaaGreat
namespace Go.Proofs.YtaleceobkbgcnaaGreat
open Go.RowKit

theorem step_append_off {P : Program} {w : World} {ops : Array Oper} {o : Oper} {a : Act} {K : Act → World → Prop} {Q : Exit → Act → World → Prop} {E : Prop} (hgd : o.guard = none) (s x : Operand) (t : TypeId)
    (ho : o.op = .call { callee := .builtin .append, args := #[s, x], argTypes := #[t, t] })
    (base : Nat) (e : TypeId) (i : TypeInfo) (z : Value) (size bytes : Nat) (ht : P.underlying t = some (.slice e)) (hi : P.info? e = some i) (hz : i.zero = some z)
    (hsize : i.size = size) (hby : i.bytes = bytes) (hzs : z.cells.size = size) (hsz : 0 < size)
    (v : Value) (n : Nat) (xs : List Value) (hs : a.eval s = v) (hown : OwnsOff w base e size v n xs)
    (ad : Addr) (m c : Nat) (news : List Value) (hx : a.eval x = .slice (some ad) m c) (hl : news.length = m * size) (hnews : ∀ j u, news[j]? = some u → w.cell? (ad.add j) = some u) (h1 : ∀ u ∈ news, u.oneCell' = true)
    (h63 : n + m ≤ maxLen) (hbytes : (n + m) * bytes ≤ 140737488355328) (hbase : base ≤ w.heap.size)
    (h : ∀ v' w', OwnsOff w' base e size v' (n + m) (xs ++ news) → w.grownBy w' v.ownBlock → (v'.ownBlock = v.ownBlock ∨ ∃ k, v'.ownBlock = some k ∧ w.heap.size ≤ k) → K (a.put o.dst v') w') :
    if Region.wanted o (yielded ops a.tmps) = true then Oper.wp P o a w K Q else E := by
  have hw : Region.wanted o (yielded ops a.tmps) = true := by simp [Region.wanted, hgd]
  rw [if_pos hw]
  obtain ⟨v', w', hr, h2, h3, h4⟩ := run_append_off (P := P) w base t o.type e i z size bytes ht hi hz hsize hby hzs hsz v n xs hown ad m c news hl hnews h1 h63 hbytes hbase
  unfold Oper.wp execOp
  simp only [ho, resolve, invoke, builtin, Sem.run_bind, Sem.run_pure, Result.andThen_ok, List.map_toArray, List.map_cons, List.map_nil, hs, hx, hr]
  exact h v' w' h2 h3 h4
/-- What of a list stays above a Rev. -/
abbrev upOf (b : Int) (l : List EvD) : List EvD := l.filter fun x => decide (b < x.rev)
/-- A log into which the first j of a list have gone. -/
def Adds (B G : Nat) (v : Value) (m b last : Int) (l es : List EvD) (w wr : World) (j : Nat) : Prop :=
  ∃ v' H', LogRaw wr B G v' H' m b last ∧ evs H' = upOf b (l ++ es.take j) ∧ Turns (LogS G v) w wr ∧ (v'.ownBlock = v.ownBlock ∨ ∃ k, v'.ownBlock = some k ∧ w.heap.size ≤ k) ∧ ∀ x ∈ H', x.1.val.length ≤ 140737488355328
theorem take_one {es : List EvD} {j : Nat} (hlt : j < es.length) : es.take (j + 1) = es.take j ++ [es.getD j v0] := by
  rw [List.take_add_one, List.getD_eq_getElem?_getD, List.getElem?_eq_getElem hlt]
  rfl
theorem upOf_one (b : Int) (l es : List EvD) {j : Nat} (hlt : j < es.length) : upOf b (l ++ es.take (j + 1)) = upOf b (l ++ es.take j) ++ (if b < (es.getD j v0).rev then [es.getD j v0] else []) := by
  rw [take_one hlt, ← List.append_assoc, upOf, List.filter_append]
  generalize es.getD j v0 = x
  by_cases h : b < x.rev <;> simp [h]
theorem Adds.below {B G : Nat} {v : Value} {m b last : Int} {l es : List EvD} {w wr w' : World} {j : Nat} (h : Adds B G v m b last l es w wr j) (hb : Below wr.heap.size wr w') : Adds B G v m b last l es w w' j := by
  obtain ⟨v', H', h1, h2, h3, h4⟩ := h
  exact ⟨v', H', h1.below hb, h2, h3.trans (turns_of_below hb), h4⟩
theorem Adds.skip {B G : Nat} {v : Value} {m b last : Int} {l es : List EvD} {w wr : World} {j : Nat} (h : Adds B G v m b last l es w wr j) (hlt : j < es.length) (hx : ¬ b < (es.getD j v0).rev) : Adds B G v m b last l es w wr (j + 1) := by
  obtain ⟨v', H', h1, h2, h3⟩ := h
  exact ⟨v', H', h1, by rw [upOf_one _ _ _ hlt, if_neg hx, List.append_nil]; exact h2, h3⟩
theorem adds_len {b : Int} {l es : List EvD} {j : Nat} {H' : List EvH} (h : evs H' = upOf b (l ++ es.take j)) (hl : l.length ≤ 1000) (he : es.length ≤ 1000000) : H'.length ≤ 1001000 := by
  have h1 : (evs H').length = H'.length := List.length_map ..
  have h2 := List.length_filter_le (fun x : EvD => decide (b < x.rev)) (l ++ es.take j)
  rw [← h1, h]
  show (List.filter _ _).length ≤ _
  simp only [List.length_append, List.length_take] at h2
  omega
theorem log_added {W w2 w3 : World} {B G : Nat} {v2 v3 : Value} {H2 : List EvH} {mo bb y : Int} {x : EvD} {a : Option Addr} {c : Nat} (hR : LogRaw W B G v2 H2 mo bb y) (hb : Below W.heap.size W w2) (hvo : ValOwn w2 B x.val a c) (hg : w2.grownBy w3 v2.ownBlock)
    (ho : OwnsOff w3 B 30 4 v3 (H2.length + 1) (H2.flatMap cellsE ++ cellsE (x, a, c))) (hk : v3.ownBlock = v2.ownBlock ∨ ∃ k, v3.ownBlock = some k ∧ w2.heap.size ≤ k) :
    LogRaw (w3.setCell ⟨G, 1, none⟩ v3) B G v3 (H2 ++ [(x, a, c)]) mo bb y ∧ Turns (LogS G v2) W (w3.setCell ⟨G, 1, none⟩ v3) := by
  have h2 := hR.below hb
  have hGl := (Array.getElem?_eq_some_iff.1 h2.obj).1
  have o3 := (hg.block G hGl (Ne.symm h2.ne)).trans h2.obj
  have hne : v3.ownBlock ≠ some G := by
    rcases hk with hk | ⟨k, hk, hlt⟩
    · rw [hk]; exact h2.ne
    · rw [hk]; intro e; cases e; omega
  have ht : Turns (fun k => k = G) w3 (w3.setCell ⟨G, 1, none⟩ v3) := turns_setCell (S := fun k => k = G) ⟨G, 1, none⟩ rfl _
  refine ⟨⟨Nat.le_trans h2.lo (Nat.le_trans hg.size ht.size), obj_setN o3 rfl, (h2.own.snoc hvo hg ho).turns ht (fun k hk e => hne (e ▸ hk)) (fun k hk => ?_)⟩, ?_⟩
  · subst hk
    exact ⟨_, ⟨_, _, o3⟩, by decide⟩
  · exact (turns_of_below hb).trans (Turns.trans (turns_of_grown hg fun k hk => .inr hk) (ht.mono fun k hk => .inl hk))
theorem Adds.more {B G : Nat} {v v2 v3 : Value} {mo bb y : Int} {l es : List EvD} {w wr W w2 w3 : World} {j : Nat} {H2 : List EvH} {a : Option Addr} {c : Nat} (hR : LogRaw wr B G v2 H2 mo bb y) (hev : evs H2 = upOf bb (l ++ es.take j)) (hT : Turns (LogS G v) w wr) (hV : v2.ownBlock = v.ownBlock ∨ ∃ k, v2.ownBlock = some k ∧ w.heap.size ≤ k)
    (hw : ∀ x ∈ H2, x.1.val.length ≤ 140737488355328) (hlt : j < es.length) (hx : bb < (es.getD j v0).rev) (hxw : (es.getD j v0).val.length ≤ 140737488355328) (hbW : Below wr.heap.size wr W) (hb : Below W.heap.size W w2) (hvo : ValOwn w2 B (es.getD j v0).val a c) (hg : w2.grownBy w3 v2.ownBlock)
    (ho : OwnsOff w3 B 30 4 v3 (H2.length + 1) (H2.flatMap cellsE ++ cellsE (es.getD j v0, a, c))) (hk : v3.ownBlock = v2.ownBlock ∨ ∃ k, v3.ownBlock = some k ∧ w2.heap.size ≤ k) :
    Adds B G v mo bb y l es w (w3.setCell ⟨G, 1, none⟩ v3) (j + 1) := by
  obtain ⟨h1, h2⟩ := log_added (hR.below hbW) hb hvo hg ho hk
  have hsz := hT.size
  have hsz2 := (hbW.trans (hb.mono hbW.size)).size
  refine ⟨v3, _, h1, ?_, hT.transN ((turns_of_below hbW).trans h2) (fun k hk => ?_), ?_, fun x hx => ?_⟩
  · show (H2 ++ [(es.getD j v0, a, c)]).map (·.1) = _
    rw [List.map_append, upOf_one _ _ _ hlt, if_pos hx]
    show evs H2 ++ [_] = _
    rw [hev]
  · rcases hk with rfl | hk
    · exact .inl (.inl rfl)
    · rcases hV with hV | ⟨q, hV, hq⟩
      · exact .inl (.inr (hV ▸ hk))
      · rw [hV] at hk; cases hk; exact .inr hq
  · rcases hk with hk | ⟨k, hk, hlt⟩
    · rw [hk]; exact hV
    · exact .inr ⟨k, hk, by omega⟩
  · rcases List.mem_append.1 hx with hx | hx
    · exact hw x hx
    · rw [List.mem_singleton] at hx; subst hx; exact hxw
theorem s5_later {W W' : World} {p0 p1 p2 p3 p4 : Addr} {u0 u1 u2 u3 u4 : Value} (h : W.cell? p0 = some u0 ∧ W.cell? p1 = some u1 ∧ W.cell? p2 = some u2 ∧ W.cell? p3 = some u3 ∧ W.cell? p4 = some u4) (hb : Below W.heap.size W W') :
    W'.cell? p0 = some u0 ∧ W'.cell? p1 = some u1 ∧ W'.cell? p2 = some u2 ∧ W'.cell? p3 = some u3 ∧ W'.cell? p4 = some u4 :=
  ⟨cell_laterA hb h.1, cell_laterA hb h.2.1, cell_laterA hb h.2.2.1, cell_laterA hb h.2.2.2.1, cell_laterA hb h.2.2.2.2⟩
theorem s5_grown {W W' : World} {r : Option Nat} {p0 p1 p2 p3 p4 : Addr} {u0 u1 u2 u3 u4 : Value} (h : W.cell? p0 = some u0 ∧ W.cell? p1 = some u1 ∧ W.cell? p2 = some u2 ∧ W.cell? p3 = some u3 ∧ W.cell? p4 = some u4) (hg : W.grownBy W' r)
    (n0 : some p0.block ≠ r) (n1 : some p1.block ≠ r) (n2 : some p2.block ≠ r) (n3 : some p3.block ≠ r) (n4 : some p4.block ≠ r) :
    W'.cell? p0 = some u0 ∧ W'.cell? p1 = some u1 ∧ W'.cell? p2 = some u2 ∧ W'.cell? p3 = some u3 ∧ W'.cell? p4 = some u4 :=
  ⟨hg.cell h.1 n0, hg.cell h.2.1 n1, hg.cell h.2.2.1 n2, hg.cell h.2.2.2.1 n3, hg.cell h.2.2.2.2 n4⟩
end Go.Proofs.YtaleceobkbgcnaaGreat
namespace Go.Proofs.YtaleceobkbgcnaaGreat
open Go.RowKit

theorem revA_app (l m : List EvD) (k : Nat) : revA k l m = ((l ++ m).getD k v0).rev := by
  unfold revA
  split
  · rename_i h
    rw [List.getD_eq_getElem?_getD, List.getD_eq_getElem?_getD, List.getElem?_append_left h]
  · rename_i h
    rw [List.getD_eq_getElem?_getD, List.getD_eq_getElem?_getD, List.getElem?_append_right (by omega)]
set_option maxRecDepth 100000 in
set_option maxHeartbeats 4000000 in
theorem logAdd_any (B G : Nat) (v : Value) (H : List EvH) (d : LogD) (b : Option Addr) (m : List EvD) (cap : Nat) (w : World) (h : LogAt w B G v H d) (hB : B ≤ w.heap.size)
    (hE : ∀ w', Turns (LogS G v) w w' → AtE w' b m) (hml : m.length ≤ 1000000) (hmv : ∀ x ∈ m, x.val.length ≤ 140737488355328) :
    Calls Tryz.prog 24 #[pt G, .slice b m.length cap] w fun e w' => e = .returned (.bool (followB d.last m)) ∧ LogStep B G v w w' (addD d m) := by
  have hm := hE w (Turns.refl _ _)
  obtain ⟨a, c, rfl, hnc, hcm, hno, hsp⟩ := h.raw.own.row.shape
  have c0 := cell_of_obj h.raw.obj 0
  have c1 := cell_of_obj h.raw.obj 1
  have c3 := cell_of_obj h.raw.obj 3
  simp at c0 c1 c3
  have hF := follow_any d.last b m cap w hm
  have HL := Lib.hid h
  have HE := Lib.hid hE
  have HMV := Lib.hid hmv
  cases hf : followB d.last m with
  | false =>
    have he : addD d m = d := by unfold addD; rw [hf]; rfl
    rw [he]
    rw [hf] at hF
    clear h hE hmv hm
    generalize d.last = y at *
    go_enter Tryz.func24, Tryz.ntmps24
    go_wp2_with fail
    refine hF.mono ?_
    rintro e w1 ⟨rfl, hb1⟩
    go_wp2
    go_ret
    exact ⟨rfl, _, H, HL.out.below hb1, turns_of_below hb1, .inl rfl⟩
  | true =>
    have he : addD d m = ⟨d.most, upOf (baseA d m) (d.evs ++ m), baseA d m, lastA m⟩ := by unfold addD; rw [hf]; rfl
    have hok := addD_ok h.ok m
    rw [he] at hok ⊢
    rw [hf] at hF
    have HOK := Lib.hid hok
    have HF := Lib.hid hf
    have hn : (evs H).length = H.length := List.length_map ..
    have hH := h.len
    have hd : d.evs.length = H.length := by rw [← h.same, hn]
    have hlo := h.ok.lo
    have hhi := h.ok.hi
    have s0 : wrap64 ((H.length : Int) + (m.length : Int)) = (H.length : Int) + (m.length : Int) := IntWalk.wrap64_in _ (by omega)
    have s1 : wrap64 ((H.length : Int) + (m.length : Int) - d.most) = (H.length : Int) + (m.length : Int) - d.most := IntWalk.wrap64_in _ (by omega)
    have HQ := Lib.hid (And.intro hn hd)
    clear h hE hmv hm he hok hf hn hd
    generalize hy : d.last = y at *
    generalize hmo : d.most = mo at *
    go_enter Tryz.func24, Tryz.ntmps24
    go_wp2_with fail
    refine hF.mono ?_
    rintro e w1 ⟨rfl, hb1⟩
    have hL1 := HL.out.below hb1
    have p0 := cell_laterA hb1 c0
    have p1 := cell_laterA hb1 c1
    clear c0 c1 c3 hF
    go_wp2_with fail
    go_quiet (fail)
    have HPS : Hid (0 < m.length) := by
      show 0 < _
      rcases Nat.eq_zero_or_pos m.length with e | e
      · have := HF.out
        rw [List.eq_nil_of_length_eq_zero e] at this
        cases this
      · exact e
    have HD : Hid (d.evs.length ≤ 1000) := by show _ ≤ _; rw [HQ.out.2]; omega
    obtain ⟨iE, hi, hz0, hz1, hz2⟩ := info_parts infoE2
    have HI := Lib.hid (And.intro hi (And.intro hz0 (And.intro hz1 hz2)))
    clear hi hz0 hz1 hz2
    by_cases ho : mo < (H.length : Int) + (m.length : Int)
    · obtain ⟨k, hk⟩ : ∃ k : Nat, (H.length : Int) + (m.length : Int) - mo - 1 = (k : Int) := ⟨((H.length : Int) + (m.length : Int) - mo - 1).toNat, by omega⟩
      have hkl : k < H.length + m.length := by omega
      have hbb : baseA d m = revA k (evs H) m := by
        unfold baseA
        rw [hmo, if_pos (by rw [HQ.out.2]; push_cast; omega), revA_app, ← HL.out.same, HQ.out.1]
        congr 2
        omega
      have HBA := Lib.hid hbb
      have hbd : Below w1.heap.size w1 (w1.drewN nq) := below_drewN (Below.refl _ _) _
      have hLd := hL1.below hbd
      have hra := revAt_any k a (evs H) c b m cap (w1.drewN nq) (hLd.raw.own.at (by omega)) ((HE.out w1 (turns_of_below hb1)).below hbd) (by rw [HQ.out.1]; exact hkl)
      rw [HQ.out.1] at hra
      have s2 : wrap64 ((H.length : Int) + (m.length : Int) - mo - 1) = (k : Int) := by rw [hk]; exact IntWalk.wrap64_in _ (by omega)
      generalize revA k (evs H) m = rv at *
      have hfo := forget_any B G _ H d.most d.base d.last rv (w1.drewN nq) hLd.raw (by rw [hLd.same]; exact hLd.ok.up) (by omega)
      clear hbb hL1
      go_wp2_with fail
      refine hra.mono ?_
      rintro e w2 ⟨rfl, rfl⟩
      clear hra
      go_wp2_with fail
      refine hfo.mono ?_
      rintro e w3 ⟨rfl, v1, hR1, hT1, hV1⟩
      have hA : Hid (Adds B G (.slice a H.length c) mo rv y d.evs m w w3 0) := by
        rw [hmo, hy] at hR1
        refine ⟨v1, _, hR1, ?_, (turns_of_below (hb1.trans (hbd.mono hb1.size))).transN hT1 (fun x hx => .inl hx), .inl hV1, fun x hx => HL.out.few x (List.mem_of_mem_drop hx)⟩
        show (H.drop _).map (·.1) = _
        rw [List.map_drop, drop_upN _ _ (by rw [HL.out.same]; exact HL.out.ok.up), HL.out.same, List.take_zero, List.append_nil]
      clear p0 p1 hR1 hT1 hV1 hfo hLd hbd
      go_wp2_with fail
      go_loopw [46] (fun i wr => ∃ j : Nat, j ≤ m.length ∧ i = .int .i64 j ∧ Hid (Adds B G (.slice a H.length c) mo rv y d.evs m w wr j)) (fun i _ => m.length - (intOf i).toNat)
      case atStart => exact ⟨0, Nat.zero_le _, rfl, hA⟩
      case round =>
        obtain ⟨j, hj, rfl, HA⟩ := hrel
        clear hA
        obtain ⟨v2, H2, hR2, hev, hT2, hV2, hw2⟩ := HA.out
        by_cases hlt : j < m.length
        · obtain ⟨gb, o, va, vc, hta, hgb, d0, d1, d2, d3, hv, q1, q2, q3⟩ := (HE.out wr hT2).2 j hlt
          subst hta
          have hxw := HMV.out _ (getD_mem' hlt)
          have HMO := Lib.hid (fun h : rv < (m.getD j v0).rev => fun w2 w3 W a' c' v3 hbW hb hvo hg ho hk => Adds.more (w2 := w2) (w3 := w3) (W := W) (a := a') (c := c') (v3 := v3) hR2 hev hT2 hV2 hw2 hlt h hxw hbW hb hvo hg ho hk)
          have HSK := Lib.hid (fun (h : ¬ rv < (m.getD j v0).rev) W hb => (HA.out.below (w' := W) hb).skip hlt h)
          have hlen2 := adds_len hev HD.out hml
          have hGl := (Array.getElem?_eq_some_iff.1 hR2.obj).1
          have hj1 : (j : Int) < (m.length : Int) := by omega
          have HRR := Lib.hid hR2
          clear hR2 hev hT2 hV2 hw2 HA
          generalize m.getD j v0 = x at *
          have hbx : Below wr.heap.size wr (wr.alloc (.cells #[.int .i64 x.rev, .string x.key, .slice va x.val.length vc, .bool x.gone] 30)) := (Below.refl _ _).alloc (Nat.le_refl _) _
          have hk0 := heap_alloc_self wr (.cells #[.int .i64 x.rev, .string x.key, .slice va x.val.length vc, .bool x.gone] 30)
          have hv0 := hv.below' hbx
          go_wp2_with fail
          clear d0 d1 d2 d3 hv hgb
          generalize wr.alloc (.cells #[.int .i64 x.rev, .string x.key, .slice va x.val.length vc, .bool x.gone] 30) = W0 at *
          have hR0 := HRR.out.below hbx
          have g2 := cell_of_obj hR0.obj 2
          have x0 := cell_of_obj hk0 0
          simp at g2 x0
          have HB0 := Lib.hid (And.intro hbx (And.intro hk0 (And.intro hv0 hR0)))
          clear hbx hk0 hv0 hR0
          by_cases hx : rv < x.rev
          · have HX := Lib.hid hx
            go_wp2_with fail
            go_quiet (fail)
            go_wp2_with fail
            obtain ⟨W1, hW1⟩ : ∃ W1, W0.drewN nq = W1 := ⟨_, rfl⟩
            have hb01 : Below W0.heap.size W0 W1 := by rw [← hW1]; exact below_drewN (Below.refl _ _) _
            rw [hW1]
            clear hW1 g2 x0 hx
            have hR1 := HB0.out.2.2.2.below hb01
            have hk1 := (hb01.block _ (Array.getElem?_eq_some_iff.1 HB0.out.2.1).1).trans HB0.out.2.1
            have hv1 := HB0.out.2.2.1.below' hb01
            have g1 := cell_of_obj hR1.obj 1
            have x0 := cell_of_obj hk1 0
            have x1 := cell_of_obj hk1 1
            have x2 := cell_of_obj hk1 2
            have x3 := cell_of_obj hk1 3
            simp at g1 x0 x1 x2 x3
            have hO : Calls Tryz.prog 67 #[evV x va vc] W1.drew fun e w' => ∃ a' c', e = .returned (evV x a' c') ∧ ValOwn w' W1.heap.size x.val a' c' ∧ Below W1.heap.size W1 w' ∧ Below W1.drew.heap.size W1.drew w' := by
              refine (own_any x va vc W1.drew (hv1.below' ((Below.refl _ _).drew)) q3 hxw q1 q2).mono ?_
              rintro e w' ⟨a', c', r1, r2, r3⟩
              exact ⟨a', c', r1, r2, ((Below.refl _ W1).drew).trans r3, r3⟩
            have hS0 : W1.drew.cell? ⟨G, 1, none⟩ = some v2 ∧ W1.drew.cell? ⟨wr.heap.size, 0, none⟩ = some (.int .i64 x.rev) ∧ W1.drew.cell? ⟨wr.heap.size, 1, none⟩ = some (.string x.key) ∧ W1.drew.cell? ⟨wr.heap.size, 2, none⟩ = some (.slice va x.val.length vc) ∧ W1.drew.cell? ⟨wr.heap.size, 3, none⟩ = some (.bool x.gone) := ⟨g1, x0, x1, x2, x3⟩
            have hvb : ∀ k, v2.ownBlock = some k → k < wr.heap.size := fun k hk => (HRR.out.own.row.lt k hk).2
            have nG : some G ≠ v2.ownBlock := Ne.symm HRR.out.ne
            have nX : some wr.heap.size ≠ v2.ownBlock := fun e => by have := hvb _ e.symm; omega
            have hs01 : wr.heap.size ≤ W1.heap.size := Nat.le_trans HB0.out.1.size hb01.size
            have HB1 := Lib.hid (And.intro hR1 (HB0.out.1.trans (hb01.mono HB0.out.1.size)))
            clear hR1 hk1 hv1 g1 x0 x1 x2 x3 hvb hb01 HB0
            have hBB : B ≤ W1.heap.size := by have := HB1.out.1.lo; simpa using this
            have g1' : W1.drew.cell? ⟨G, 1, none⟩ = some v2 := hS0.1
            go_region_law
              (first
                | (refine step_append_off rfl _ _ 23 rfl B 30 iE _ 4 56 Tryz.underlying23 HI.out.1 HI.out.2.1 HI.out.2.2.1 HI.out.2.2.2 rfl (by decide) v2 H2.length (H2.flatMap cellsE) rfl hRa.own.row ⟨_, 0, none⟩ 1 1 (cellsE (x, a2, c2)) rfl rfl (new_cells _ _ _) (by simp [Value.oneCell']) (by unfold maxLen; omega) (by omega) hBa ?_
                   intro v3 w3 ho3 hg3 hk3
                   obtain ⟨a3, c3, rfl, _⟩ := ho3.shape
                   have ho3' := (hg3.block G hGa nG).trans hRa.obj
                   have f3 := free_of_obj ho3' 1
                   have g3 := cell_of_obj ho3' 1
                   simp at g3)
                | (go_simp
                   go_at_call 67
                   refine hO.mono ?_
                   rintro e w2 ⟨a2, c2, rfl, hvo, hb2, hb2'⟩
                   have hba : Below w2.heap.size w2 (w2.alloc (.cells #[.int .i64 x.rev, .string x.key, .slice a2 x.val.length c2, .bool x.gone] 30)) := (Below.refl _ _).alloc (Nat.le_refl _) _
                   have hRw := HB1.out.1.below hb2
                   have hRa := hRw.below hba
                   have hGa := (Array.getElem?_eq_some_iff.1 hRa.obj).1
                   have g1a := cell_of_obj hRw.obj 1
                   have g1b := cell_of_obj hRa.obj 1
                   simp at g1a g1b
                   have hBa : B ≤ (w2.alloc (.cells #[.int .i64 x.rev, .string x.key, .slice a2 x.val.length c2, .bool x.gone] 30)).heap.size := by have := hb2.size; simp; omega))
            all_goals
              have HM := Lib.hid (HMO.out HX.out _ _ _ _ _ _ HB1.out.2 (hb2.trans (hba.mono hb2.size)) ⟨World.ownsRow.mono (row_turns (S := fun _ => False) hvo.1 (turns_of_below hba) (fun _ _ h => h)) hBB, hvo.2⟩ hg3 ho3 hk3)
              clear hRa hRw ho3 hg3 hk3 ho3' hvo hO
              go_wp2_with fail
              go_roundw
              case rel => exact ⟨j + 1, by omega, by go_num, HM.out⟩
              case measure => simp [intOf]; omega
          · have HX := Lib.hid (HSK.out (by omega))
            have hx2 : x.rev ≤ rv := by omega
            go_wp2_with fail
            go_quiet (fail)
            go_wp2_with fail
            go_roundw
            case rel => exact ⟨j + 1, by omega, by go_num, HX.out _ (HB0.out.1.trans ((below_drewN (Below.refl _ _) _).mono HB0.out.1.size))⟩
            case measure => simp [intOf]; omega
        · obtain rfl : j = m.length := by omega
          obtain ⟨q, hq⟩ : ∃ q, q = m.length - 1 := ⟨_, rfl⟩
          have hpos : 0 < m.length := HPS.out
          obtain ⟨gb, o, va, vc, hta, hgb, d0, _⟩ := (HE.out wr hT2).2 q (by omega)
          subst hta
          have g3 := cell_of_obj hR2.obj 3
          simp at g3
          have f3 := free_of_obj hR2.obj 3
          have HLA : Hid ((m.getD q v0).rev = lastA m) := by show _ = _; rw [hq]; rfl
          generalize (m.getD q v0).rev = z at *
          have hw1 : wrap64 ((m.length : Int) - 1) = (q : Int) := by rw [IntWalk.wrap64_in _ (by omega)]; omega
          have hw2' : IntKind.i64.wrap ((m.length : Int) - 1) = (q : Int) := by rw [IntWalk.i64_in _ (by omega)]; omega
          have q0 : (0 : Int) ≤ (q : Int) := by omega
          have q1 : (q : Int) < (m.length : Int) := by omega
          have HZ := Lib.hid (And.intro hR2 (And.intro hev (And.intro hT2 (And.intro hV2 hw2))))
          clear hR2 hev hT2 hV2 hw2 HA hq
          go_wp2_with fail
          go_ret
          refine ⟨rfl, v2, H2, ⟨⟨Nat.le_trans HZ.out.1.lo (turns_setCell (S := fun _ => True) _ trivial _).size, ?_, ?_⟩, ?_, HOK.out, HZ.out.2.2.2.2⟩, ?_, HZ.out.2.2.2.1⟩
          · have := obj_setN (j := 3) (v := .int .i64 z) HZ.out.1.obj rfl
            dsimp only
            rw [HBA.out, ← HLA.out]
            exact this
          · refine HZ.out.1.own.turns (turns_setCell (S := fun k => k = G) ⟨G, 3, none⟩ rfl _) (fun k hk e => HZ.out.1.ne (e ▸ hk)) (fun k hk => ?_)
            subst hk
            exact ⟨_, ⟨_, _, HZ.out.1.obj⟩, by decide⟩
          · rw [HZ.out.2.1, List.take_length, HBA.out]
          · exact HZ.out.2.2.1.trans (turns_setCell (S := LogS G _) ⟨G, 3, none⟩ (.inl rfl) _)
    · have hbb : baseA d m = d.base := by unfold baseA; rw [hmo, if_neg (by rw [HQ.out.2]; push_cast; omega)]
      have HBA := Lib.hid hbb
      clear hbb
      have ho2 : (H.length : Int) + (m.length : Int) ≤ mo := by omega
      generalize hbs : d.base = bs at *
      have hA : Hid (Adds B G (.slice a H.length c) mo bs y d.evs m w (w1.drewN nq) 0) := by
        have hbd : Below w1.heap.size w1 (w1.drewN nq) := below_drewN (Below.refl _ _) _
        have hr := (hL1.below hbd).raw
        rw [hmo, hy, hbs] at hr
        refine ⟨_, H, hr, ?_, turns_of_below (hb1.trans (hbd.mono hb1.size)), .inl rfl, HL.out.few⟩
        rw [List.take_zero, List.append_nil, HL.out.same, ← hbs]
        exact (kept_same HL.out.ok).symm
      clear p0 p1 hL1
      go_wp2_with fail
      go_loopw [46] (fun i wr => ∃ j : Nat, j ≤ m.length ∧ i = .int .i64 j ∧ Hid (Adds B G (.slice a H.length c) mo bs y d.evs m w wr j)) (fun i _ => m.length - (intOf i).toNat)
      case atStart => exact ⟨0, Nat.zero_le _, rfl, hA⟩
      case round =>
        obtain ⟨j, hj, rfl, HA⟩ := hrel
        clear hA
        obtain ⟨v2, H2, hR2, hev, hT2, hV2, hw2⟩ := HA.out
        by_cases hlt : j < m.length
        · obtain ⟨gb, o, va, vc, hta, hgb, d0, d1, d2, d3, hv, q1, q2, q3⟩ := (HE.out wr hT2).2 j hlt
          subst hta
          have hxw := HMV.out _ (getD_mem' hlt)
          have HMO := Lib.hid (fun h : bs < (m.getD j v0).rev => fun w2 w3 W a' c' v3 hbW hb hvo hg ho hk => Adds.more (w2 := w2) (w3 := w3) (W := W) (a := a') (c := c') (v3 := v3) hR2 hev hT2 hV2 hw2 hlt h hxw hbW hb hvo hg ho hk)
          have HSK := Lib.hid (fun (h : ¬ bs < (m.getD j v0).rev) W hb => (HA.out.below (w' := W) hb).skip hlt h)
          have hlen2 := adds_len hev HD.out hml
          have hGl := (Array.getElem?_eq_some_iff.1 hR2.obj).1
          have hj1 : (j : Int) < (m.length : Int) := by omega
          have HRR := Lib.hid hR2
          clear hR2 hev hT2 hV2 hw2 HA
          generalize m.getD j v0 = x at *
          have hbx : Below wr.heap.size wr (wr.alloc (.cells #[.int .i64 x.rev, .string x.key, .slice va x.val.length vc, .bool x.gone] 30)) := (Below.refl _ _).alloc (Nat.le_refl _) _
          have hk0 := heap_alloc_self wr (.cells #[.int .i64 x.rev, .string x.key, .slice va x.val.length vc, .bool x.gone] 30)
          have hv0 := hv.below' hbx
          go_wp2_with fail
          clear d0 d1 d2 d3 hv hgb
          generalize wr.alloc (.cells #[.int .i64 x.rev, .string x.key, .slice va x.val.length vc, .bool x.gone] 30) = W0 at *
          have hR0 := HRR.out.below hbx
          have g2 := cell_of_obj hR0.obj 2
          have x0 := cell_of_obj hk0 0
          simp at g2 x0
          have HB0 := Lib.hid (And.intro hbx (And.intro hk0 (And.intro hv0 hR0)))
          clear hbx hk0 hv0 hR0
          by_cases hx : bs < x.rev
          · have HX := Lib.hid hx
            go_wp2_with fail
            go_quiet (fail)
            go_wp2_with fail
            obtain ⟨W1, hW1⟩ : ∃ W1, W0.drewN nq = W1 := ⟨_, rfl⟩
            have hb01 : Below W0.heap.size W0 W1 := by rw [← hW1]; exact below_drewN (Below.refl _ _) _
            rw [hW1]
            clear hW1 g2 x0 hx
            have hR1 := HB0.out.2.2.2.below hb01
            have hk1 := (hb01.block _ (Array.getElem?_eq_some_iff.1 HB0.out.2.1).1).trans HB0.out.2.1
            have hv1 := HB0.out.2.2.1.below' hb01
            have g1 := cell_of_obj hR1.obj 1
            have x0 := cell_of_obj hk1 0
            have x1 := cell_of_obj hk1 1
            have x2 := cell_of_obj hk1 2
            have x3 := cell_of_obj hk1 3
            simp at g1 x0 x1 x2 x3
            have hO : Calls Tryz.prog 67 #[evV x va vc] W1.drew fun e w' => ∃ a' c', e = .returned (evV x a' c') ∧ ValOwn w' W1.heap.size x.val a' c' ∧ Below W1.heap.size W1 w' ∧ Below W1.drew.heap.size W1.drew w' := by
              refine (own_any x va vc W1.drew (hv1.below' ((Below.refl _ _).drew)) q3 hxw q1 q2).mono ?_
              rintro e w' ⟨a', c', r1, r2, r3⟩
              exact ⟨a', c', r1, r2, ((Below.refl _ W1).drew).trans r3, r3⟩
            have hS0 : W1.drew.cell? ⟨G, 1, none⟩ = some v2 ∧ W1.drew.cell? ⟨wr.heap.size, 0, none⟩ = some (.int .i64 x.rev) ∧ W1.drew.cell? ⟨wr.heap.size, 1, none⟩ = some (.string x.key) ∧ W1.drew.cell? ⟨wr.heap.size, 2, none⟩ = some (.slice va x.val.length vc) ∧ W1.drew.cell? ⟨wr.heap.size, 3, none⟩ = some (.bool x.gone) := ⟨g1, x0, x1, x2, x3⟩
            have hvb : ∀ k, v2.ownBlock = some k → k < wr.heap.size := fun k hk => (HRR.out.own.row.lt k hk).2
            have nG : some G ≠ v2.ownBlock := Ne.symm HRR.out.ne
            have nX : some wr.heap.size ≠ v2.ownBlock := fun e => by have := hvb _ e.symm; omega
            have hs01 : wr.heap.size ≤ W1.heap.size := Nat.le_trans HB0.out.1.size hb01.size
            have HB1 := Lib.hid (And.intro hR1 (HB0.out.1.trans (hb01.mono HB0.out.1.size)))
            clear hR1 hk1 hv1 g1 x0 x1 x2 x3 hvb hb01 HB0
            have hBB : B ≤ W1.heap.size := by have := HB1.out.1.lo; simpa using this
            have g1' : W1.drew.cell? ⟨G, 1, none⟩ = some v2 := hS0.1
            go_region_law
              (first
                | (refine step_append_off rfl _ _ 23 rfl B 30 iE _ 4 56 Tryz.underlying23 HI.out.1 HI.out.2.1 HI.out.2.2.1 HI.out.2.2.2 rfl (by decide) v2 H2.length (H2.flatMap cellsE) rfl hRa.own.row ⟨_, 0, none⟩ 1 1 (cellsE (x, a2, c2)) rfl rfl (new_cells _ _ _) (by simp [Value.oneCell']) (by unfold maxLen; omega) (by omega) hBa ?_
                   intro v3 w3 ho3 hg3 hk3
                   obtain ⟨a3, c3, rfl, _⟩ := ho3.shape
                   have ho3' := (hg3.block G hGa nG).trans hRa.obj
                   have f3 := free_of_obj ho3' 1
                   have g3 := cell_of_obj ho3' 1
                   simp at g3)
                | (go_simp
                   go_at_call 67
                   refine hO.mono ?_
                   rintro e w2 ⟨a2, c2, rfl, hvo, hb2, hb2'⟩
                   have hba : Below w2.heap.size w2 (w2.alloc (.cells #[.int .i64 x.rev, .string x.key, .slice a2 x.val.length c2, .bool x.gone] 30)) := (Below.refl _ _).alloc (Nat.le_refl _) _
                   have hRw := HB1.out.1.below hb2
                   have hRa := hRw.below hba
                   have hGa := (Array.getElem?_eq_some_iff.1 hRa.obj).1
                   have g1a := cell_of_obj hRw.obj 1
                   have g1b := cell_of_obj hRa.obj 1
                   simp at g1a g1b
                   have hBa : B ≤ (w2.alloc (.cells #[.int .i64 x.rev, .string x.key, .slice a2 x.val.length c2, .bool x.gone] 30)).heap.size := by have := hb2.size; simp; omega))
            all_goals
              have HM := Lib.hid (HMO.out HX.out _ _ _ _ _ _ HB1.out.2 (hb2.trans (hba.mono hb2.size)) ⟨World.ownsRow.mono (row_turns (S := fun _ => False) hvo.1 (turns_of_below hba) (fun _ _ h => h)) hBB, hvo.2⟩ hg3 ho3 hk3)
              clear hRa hRw ho3 hg3 hk3 ho3' hvo hO
              go_wp2_with fail
              go_roundw
              case rel => exact ⟨j + 1, by omega, by go_num, HM.out⟩
              case measure => simp [intOf]; omega
          · have HX := Lib.hid (HSK.out (by omega))
            have hx2 : x.rev ≤ bs := by omega
            go_wp2_with fail
            go_quiet (fail)
            go_wp2_with fail
            go_roundw
            case rel => exact ⟨j + 1, by omega, by go_num, HX.out _ (HB0.out.1.trans ((below_drewN (Below.refl _ _) _).mono HB0.out.1.size))⟩
            case measure => simp [intOf]; omega
        · obtain rfl : j = m.length := by omega
          obtain ⟨q, hq⟩ : ∃ q, q = m.length - 1 := ⟨_, rfl⟩
          have hpos : 0 < m.length := HPS.out
          obtain ⟨gb, o, va, vc, hta, hgb, d0, _⟩ := (HE.out wr hT2).2 q (by omega)
          subst hta
          have g3 := cell_of_obj hR2.obj 3
          simp at g3
          have f3 := free_of_obj hR2.obj 3
          have HLA : Hid ((m.getD q v0).rev = lastA m) := by show _ = _; rw [hq]; rfl
          generalize (m.getD q v0).rev = z at *
          have hw1 : wrap64 ((m.length : Int) - 1) = (q : Int) := by rw [IntWalk.wrap64_in _ (by omega)]; omega
          have hw2' : IntKind.i64.wrap ((m.length : Int) - 1) = (q : Int) := by rw [IntWalk.i64_in _ (by omega)]; omega
          have q0 : (0 : Int) ≤ (q : Int) := by omega
          have q1 : (q : Int) < (m.length : Int) := by omega
          have HZ := Lib.hid (And.intro hR2 (And.intro hev (And.intro hT2 (And.intro hV2 hw2))))
          clear hR2 hev hT2 hV2 hw2 HA hq
          go_wp2_with fail
          go_ret
          refine ⟨rfl, v2, H2, ⟨⟨Nat.le_trans HZ.out.1.lo (turns_setCell (S := fun _ => True) _ trivial _).size, ?_, ?_⟩, ?_, HOK.out, HZ.out.2.2.2.2⟩, ?_, HZ.out.2.2.2.1⟩
          · have := obj_setN (j := 3) (v := .int .i64 z) HZ.out.1.obj rfl
            dsimp only
            rw [HBA.out, ← HLA.out]
            exact this
          · refine HZ.out.1.own.turns (turns_setCell (S := fun k => k = G) ⟨G, 3, none⟩ rfl _) (fun k hk e => HZ.out.1.ne (e ▸ hk)) (fun k hk => ?_)
            subst hk
            exact ⟨_, ⟨_, _, HZ.out.1.obj⟩, by decide⟩
          · rw [HZ.out.2.1, List.take_length, HBA.out]
          · exact HZ.out.2.2.1.trans (turns_setCell (S := LogS G _) ⟨G, 3, none⟩ (.inl rfl) _)
end Go.Proofs.YtaleceobkbgcnaaGreat
