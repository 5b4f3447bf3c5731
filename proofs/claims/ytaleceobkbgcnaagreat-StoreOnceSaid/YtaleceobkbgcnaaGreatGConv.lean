/-
  A string of a slice's bytes. No conditions beyond what is written in each statement.
-/
import Derived.Test.YtaleceobkbgcnaaGreatGGetA
import Derived.Laws.BytesArg
set_option linter.unusedSimpArgs false
set_option linter.unusedVariables false
namespace Go.Proofs.YtaleceobkbgcnaaGreat
open Go.RowKit

def PlainA (a : Option Addr) : Prop := a = none ∨ ∃ b off, a = some ⟨b, off, none⟩
theorem conv_b (w : World) (a : Option Addr) (l : List Int) (n cap : Nat) (hn : l.length = n) (hp : PlainA a) (h : AtB w a l) : (convert 28 9 (.slice a n cap)).run Tryz.prog w = .ok (.string (strOfNums l)) w := by
  subst hn
  rcases hp with rfl | ⟨b, off, rfl⟩
  · have hl : l = [] := by
      cases l with
      | nil => rfl
      | cons x r =>
        obtain ⟨b, off, e, _⟩ := h 0 (by simp)
        cases e
    subst hl
    exact run_convert_bytes_nil w _ 5 Tryz.underlying28 Tryz.underlying5 _ _ _ Tryz.underlying9
  · exact run_convert_bytes_arg w _ 5 Tryz.underlying28 Tryz.underlying5 b off l.length cap l rfl (fun i hi => by
      obtain ⟨b', off', e, _, hc, _⟩ := h i hi
      cases e
      exact hc) _ Tryz.underlying9
end Go.Proofs.YtaleceobkbgcnaaGreat
namespace Go.Proofs.YtaleceobkbgcnaaGreat
open Go.RowKit

/-- A guard: its key, its revision, whether it is of all that begins so. -/
abbrev Gd := ByteArray × Int × Bool
structure Wr where
  key : ByteArray
  val : List Int
  gone : Bool
def g0 : Gd := (⟨#[]⟩, 0, false)
def r0 : Wr := ⟨⟨#[]⟩, [], false⟩
def AtG (w : World) (a : Option Addr) (l : List Gd) : Prop :=
  l.length ≤ 9223372036854775807 ∧ ∀ i, i < l.length → ∃ b off, a = some ⟨b, off, none⟩ ∧ b < w.heap.size ∧ w.cell? ⟨b, off + i * 3, none⟩ = some (.string (l.getD i g0).1) ∧ w.cell? ⟨b, off + i * 3 + 1, none⟩ = some (.int .i64 (l.getD i g0).2.1) ∧ w.cell? ⟨b, off + i * 3 + 2, none⟩ = some (.bool (l.getD i g0).2.2)
theorem AtG.below {w w1 : World} {a : Option Addr} {l : List Gd} (h : AtG w a l) (hb : Below w.heap.size w w1) : AtG w1 a l := ⟨h.1, fun i hi => by
  obtain ⟨b, off, ha, hlt, c0, c1, c2⟩ := h.2 i hi
  exact ⟨b, off, ha, Nat.lt_of_lt_of_le hlt hb.size, cell_later hb c0, cell_later hb c1, cell_later hb c2⟩⟩
theorem AtB.below' {w w1 : World} {a : Option Addr} {l : List Int} (h : AtB w a l) (hb : Below w.heap.size w w1) : AtB w1 a l := fun i hi => by
  obtain ⟨b, off, ha, hlt, c, h0⟩ := h i hi
  exact ⟨b, off, ha, Nat.lt_of_lt_of_le hlt hb.size, cell_later hb c, h0⟩
def AtW (w : World) (a : Option Addr) (l : List Wr) : Prop :=
  l.length ≤ 9223372036854775807 ∧ ∀ i, i < l.length → ∃ b off va vc, a = some ⟨b, off, none⟩ ∧ b < w.heap.size ∧ w.cell? ⟨b, off + i * 3, none⟩ = some (.string (l.getD i r0).key) ∧ w.cell? ⟨b, off + i * 3 + 1, none⟩ = some (.slice va (l.getD i r0).val.length vc) ∧ w.cell? ⟨b, off + i * 3 + 2, none⟩ = some (.bool (l.getD i r0).gone)
    ∧ AtB w va (l.getD i r0).val ∧ (l.getD i r0).val.length ≤ vc ∧ vc ≤ maxLen ∧ (va = none → vc = 0)
theorem AtW.below {w w1 : World} {a : Option Addr} {l : List Wr} (h : AtW w a l) (hb : Below w.heap.size w w1) : AtW w1 a l := ⟨h.1, fun i hi => by
  obtain ⟨b, off, va, vc, ha, hlt, c0, c1, c2, hv, k1, k2, k3⟩ := h.2 i hi
  exact ⟨b, off, va, vc, ha, Nat.lt_of_lt_of_le hlt hb.size, cell_later hb c0, cell_later hb c1, cell_later hb c2, hv.below' hb, k1, k2, k3⟩⟩
/-- A call, and where its lists lie. -/
structure CallD where
  frm : Int
  id : Int
  kind : Int
  key : ByteArray
  rev : Int
  gs : List Gd
  ws : List Wr
structure CallH where
  ga : Option Addr
  gc : Nat
  wa : Option Addr
  wc : Nat
abbrev callC (c : CallD) (h : CallH) : Array Value := #[.int .i64 c.frm, .int .i64 c.id, .int .i64 c.kind, .string c.key, .int .i64 c.rev, .slice h.ga c.gs.length h.gc, .slice h.wa c.ws.length h.wc]
abbrev callV (c : CallD) (h : CallH) : Value := .agg (callC c h)
structure CallAt (w : World) (c : CallD) (h : CallH) : Prop where
  gs : AtG w h.ga c.gs
  ws : AtW w h.wa c.ws
theorem CallAt.below {w w1 : World} {c : CallD} {h : CallH} (hc : CallAt w c h) (hb : Below w.heap.size w w1) : CallAt w1 c h := ⟨hc.gs.below hb, hc.ws.below hb⟩

def keyB (s : ByteArray) : Bool := decide (1 ≤ s.size) && decide (s.size ≤ 20)
def revB (x : Int) : Bool := decide (0 ≤ x) && decide (x ≤ 1099511627776)
def gdB (g : Gd) : Bool := keyB g.1 && revB g.2.1
def wrB (x : Wr) : Bool := keyB x.key && decide (x.val.length ≤ 4000)
def txnB (gs : List Gd) (ws : List Wr) : Bool := decide (gs.length ≤ 20) && decide (ws.length ≤ 64) && gs.all gdB && ws.all wrB
def noneB (gs : List Gd) (ws : List Wr) : Bool := decide (gs.length = 0) && decide (ws.length = 0)
def callB (c : CallD) : Bool := decide (0 ≤ c.frm) && decide (c.frm ≤ 7) && decide (1 ≤ c.id) && decide (c.id ≤ 1099511627776) &&
  (if c.kind = 1 then keyB c.key && decide (c.rev = 0) && noneB c.gs c.ws else if c.kind = 2 then decide (c.key.size = 0) && decide (c.rev = 0) && noneB c.gs c.ws
   else if c.kind = 3 then decide (c.key.size = 0) && revB c.rev && noneB c.gs c.ws else if c.kind = 4 then decide (c.key.size = 0) && decide (c.rev = 0) && txnB c.gs c.ws else false)
theorem size_nil {s : ByteArray} : s.toList = [] ↔ s.size = 0 := by
  rw [ByteArray.toList_eq, Array.toList_eq_nil_iff, ← Array.size_eq_zero_iff]
  rfl
theorem heap_new (W : World) (o : Obj) : (W.alloc o).heap[W.heap.size]? = some o := by
  show (W.heap.push o)[W.heap.size]? = some o
  simp
theorem heap_older' {Y : World} {x : Obj} {N : Nat} (h : Y.heap[N]? = some x) (o : Obj) : (Y.alloc o).heap[N]? = some x := by
  have hlt : N < Y.heap.size := (Array.getElem?_eq_some_iff.1 h).1
  rw [Below.heap_alloc _ _ _ hlt]; exact h
theorem callKey_any (s : ByteArray) (w : World) : Calls Tryz.prog 122 #[.string s] w fun e w' => e = .returned (.bool (keyB s)) ∧ w' = w := by
  go_enter Tryz.func122, Tryz.ntmps122
  go_wp2_with fail
  · go_ret
    exact ⟨ret_bool (by unfold keyB; rw [decide_eq_true (show 1 ≤ s.size by omega), Bool.true_and]; exact decide_eq_decide.2 (by omega)), rfl⟩
  · go_ret
    exact ⟨ret_bool (by unfold keyB; rw [decide_eq_false (show ¬ 1 ≤ s.size by omega)]; rfl), rfl⟩
theorem callRev_any (x : Int) (w : World) : Calls Tryz.prog 124 #[.int .i64 x] w fun e w' => e = .returned (.bool (revB x)) ∧ w' = w := by
  go_enter Tryz.func124, Tryz.ntmps124
  go_wp2_with fail
  · go_ret
    exact ⟨ret_bool (by unfold revB; rw [decide_eq_true (show 0 ≤ x by omega), Bool.true_and]), rfl⟩
  · go_ret
    exact ⟨ret_bool (by unfold revB; rw [decide_eq_false (show ¬ 0 ≤ x by omega)]; rfl), rfl⟩
theorem callNone_any (ga : Option Addr) (gs : List Gd) (gc : Nat) (wa : Option Addr) (ws : List Wr) (wc : Nat) (w : World) :
    Calls Tryz.prog 123 #[.agg #[.slice ga gs.length gc, .slice wa ws.length wc]] w fun e w' => e = .returned (.bool (noneB gs ws)) ∧ Below w.heap.size w w' := by
  go_enter Tryz.func123, Tryz.ntmps123
  go_wp2_with fail
  all_goals
    go_ret
    refine ⟨ret_bool ?_, (by (repeat (with_reducible first | exact Below.refl _ _ | refine Below.alloc ?_ ?_ _ | refine Below.setCell ?_ ?_ _ | refine Below.drew ?_ | refine below_drewN ?_ _)); all_goals (simp <;> omega))⟩
    unfold noneB
    simp_all
    try (rw [Bool.eq_iff_iff]; simp [List.length_eq_zero_iff])
set_option maxRecDepth 100000 in
set_option maxHeartbeats 2000000 in
theorem callTxn_any (ga : Option Addr) (gs : List Gd) (gc : Nat) (wa : Option Addr) (ws : List Wr) (wc : Nat) (w : World) (hg : AtG w ga gs) (hw : AtW w wa ws) :
    Calls Tryz.prog 125 #[.agg #[.slice ga gs.length gc, .slice wa ws.length wc]] w fun e w' => e = .returned (.bool (txnB gs ws)) ∧ Below w.heap.size w w' := by
  have kB := heap_new w (.cells #[.slice ga gs.length gc, .slice wa ws.length wc] 57)
  have hb0 : Below w.heap.size w (w.alloc (.cells #[.slice ga gs.length gc, .slice wa ws.length wc] 57)) := (Below.refl _ _).alloc (Nat.le_refl _) _
  have HB0 := Lib.hid (And.intro hb0 kB)
  have HG := Lib.hid hg
  have HW := Lib.hid hw
  have gm := hg.1
  have wm := hw.1
  clear hb0 hg hw kB
  by_cases h20 : (gs.length : Int) ≤ 20
  · by_cases h64 : (ws.length : Int) ≤ 64
    · have e20 : decide (gs.length ≤ 20) = true := decide_eq_true (by omega)
      have e64 : decide (ws.length ≤ 64) = true := decide_eq_true (by omega)
      have HT : Hid (txnB gs ws = (gs.all gdB && ws.all wrB)) := by show _ = _; unfold txnB; rw [e20, e64]; rfl
      clear e20 e64
      go_enter Tryz.func125, Tryz.ntmps125
      go_wp2_with fail
      go_loopw [20] (fun i wr => ∃ k : Nat, k ≤ gs.length ∧ i = .int .i64 k ∧ Hid (txnB gs ws = ((gs.drop k).all gdB && ws.all wrB)) ∧ Hid (Below w.heap.size w wr ∧ wr.heap[w.heap.size]? = some (.cells #[.slice ga gs.length gc, .slice wa ws.length wc] 57))) (fun i _ => gs.length - (intOf i).toNat)
      case atStart => exact ⟨0, Nat.zero_le _, rfl, HT, HB0⟩
      case round =>
        clear HT HB0
        obtain ⟨k, hk, rfl, HT, HB⟩ := hrel
        by_cases hlt : k < gs.length
        · obtain ⟨b, off, ha, hb, d0, d1, d2⟩ := HG.out.2 k hlt
          have c0 := cell_later HB.out.1 d0
          have c1 := cell_later HB.out.1 d1
          have c2 := cell_later HB.out.1 d2
          have hdrop := Lib.hid (all_drop (d := g0) gdB hlt)
          clear d0 d1 d2 HG HW
          subst ha
          generalize hq : gs.getD k g0 = q at c0 c1 c2 hdrop
          obtain ⟨q0, q1, q2⟩ := q
          simp only at c0 c1 c2
          clear hq
          have hle := HB.out.1.size
          have kH := heap_older' HB.out.2
          cases x0 : keyB q0
          · go_wp2_with (first | (go_at_call 122; refine (callKey_any _ _).mono ?_; rintro e w1 ⟨rfl, rfl⟩) | (go_at_call 124; refine (callRev_any _ _).mono ?_; rintro e w1 ⟨rfl, rfl⟩))
            go_ret
            exact ⟨ret_bool (by rw [HT.out, hdrop.out]; unfold gdB; rw [x0]; rfl), HB.out.1.alloc hle _⟩
          · cases x1 : revB q1
            · go_wp2_with (first | (go_at_call 122; refine (callKey_any _ _).mono ?_; rintro e w1 ⟨rfl, rfl⟩) | (go_at_call 124; refine (callRev_any _ _).mono ?_; rintro e w1 ⟨rfl, rfl⟩))
              go_ret
              exact ⟨ret_bool (by rw [HT.out, hdrop.out]; unfold gdB; rw [x0, x1]; rfl), HB.out.1.alloc hle _⟩
            · go_wp2_with (first | (go_at_call 122; refine (callKey_any _ _).mono ?_; rintro e w1 ⟨rfl, rfl⟩) | (go_at_call 124; refine (callRev_any _ _).mono ?_; rintro e w1 ⟨rfl, rfl⟩))
              go_roundw
              case rel => exact ⟨k + 1, by omega, by go_num, by show _ = _; rw [HT.out, hdrop.out]; unfold gdB; rw [x0, x1]; rfl, HB.out.1.alloc hle _, kH _⟩
              case measure => simp [intOf]; omega
        · have HT2 : Hid (txnB gs ws = ws.all wrB) := by show _ = _; rw [HT.out, List.drop_eq_nil_of_le (by omega)]; rfl
          have cT := fun o => cell_of_obj HB.out.2 o
          clear HT HG
          go_wp2_with fail
          clear cT
          go_loopw [38] (fun i wr => ∃ k : Nat, k ≤ ws.length ∧ i = .int .i64 k ∧ Hid (txnB gs ws = (ws.drop k).all wrB) ∧ Hid (Below w.heap.size w wr)) (fun i _ => ws.length - (intOf i).toNat)
          case atStart => exact ⟨0, Nat.zero_le _, rfl, HT2, HB.out.1⟩
          case round =>
            clear HT2 HB hlt hk
            obtain ⟨k, hk, rfl, HT, HB⟩ := hrel
            by_cases hlt : k < ws.length
            · obtain ⟨b, off, va, vc, ha, hb, d0, d1, d2, _, _, _, _⟩ := HW.out.2 k hlt
              have c0 := cell_later HB.out d0
              have c1 := cell_later HB.out d1
              have c2 := cell_later HB.out d2
              have hdrop := Lib.hid (all_drop (d := r0) wrB hlt)
              clear d0 d1 d2 HW
              subst ha
              generalize hq : ws.getD k r0 = q at c0 c1 c2 hdrop
              obtain ⟨q0, q1, q2⟩ := q
              simp only at c0 c1 c2
              clear hq
              have hle := HB.out.size
              cases x0 : keyB q0
              · go_wp2_with (go_at_call 122; refine (callKey_any _ _).mono ?_; rintro e w1 ⟨rfl, rfl⟩)
                go_ret
                exact ⟨ret_bool (by rw [HT.out, hdrop.out]; unfold wrB; rw [x0]; rfl), HB.out.alloc hle _⟩
              · by_cases x1 : (q1.length : Int) ≤ 4000
                · have e1 : decide (q1.length ≤ 4000) = true := decide_eq_true (by omega)
                  have HE : Hid (wrB ⟨q0, q1, q2⟩ = true) := by show _ = _; unfold wrB; rw [x0, e1]; rfl
                  clear e1
                  go_wp2_with (go_at_call 122; refine (callKey_any _ _).mono ?_; rintro e w1 ⟨rfl, rfl⟩)
                  go_roundw
                  case rel => exact ⟨k + 1, by omega, by go_num, by show _ = _; rw [HT.out, hdrop.out, HE.out]; rfl, HB.out.alloc hle _⟩
                  case measure => simp [intOf]; omega
                · have e1 : decide (q1.length ≤ 4000) = false := decide_eq_false (by omega)
                  have HE : Hid (wrB ⟨q0, q1, q2⟩ = false) := by show _ = _; unfold wrB; rw [x0, e1]; rfl
                  clear e1
                  go_wp2_with (go_at_call 122; refine (callKey_any _ _).mono ?_; rintro e w1 ⟨rfl, rfl⟩)
                  go_ret
                  exact ⟨ret_bool (by rw [HT.out, hdrop.out, HE.out]; rfl), HB.out.alloc hle _⟩
            · go_wp2
              go_ret
              exact ⟨ret_bool (by rw [HT.out, List.drop_eq_nil_of_le (by omega)]; rfl), HB.out⟩
    · go_enter Tryz.func125, Tryz.ntmps125
      go_wp2_with fail
      go_ret
      exact ⟨ret_bool (by unfold txnB; rw [decide_eq_false (show ¬ ws.length ≤ 64 by omega)]; simp), HB0.out.1⟩
  · go_enter Tryz.func125, Tryz.ntmps125
    go_wp2_with fail
    go_ret
    exact ⟨ret_bool (by unfold txnB; rw [decide_eq_false (show ¬ gs.length ≤ 20 by omega)]; simp), HB0.out.1⟩
set_option maxRecDepth 100000 in
set_option maxHeartbeats 4000000 in
theorem callMay_any (c : CallD) (h : CallH) (w : World) (hc : CallAt w c h) :
    Calls Tryz.prog 71 #[callV c h] w fun e w' => e = .returned (.bool (callB c)) ∧ Below w.heap.size w w' := by
  have hb0 : Below w.heap.size w (w.alloc (.cells (callC c h) 59)) := (Below.refl _ _).alloc (Nat.le_refl _) _
  have HB := Lib.hid (And.intro hb0 (hc.below hb0))
  clear hb0 hc
  obtain ⟨frm, id, kind, key, rev, gs, ws⟩ := c
  obtain ⟨ga, gc, wa, wc⟩ := h
  by_cases h1 : 0 ≤ frm ∧ frm ≤ 7 ∧ 1 ≤ id ∧ id ≤ 1099511627776
  · obtain ⟨f1, f2, f3, f4⟩ := h1
    have HA : Hid (∀ k, callB ⟨frm, id, k, key, rev, gs, ws⟩ = (if k = 1 then keyB key && decide (rev = 0) && noneB gs ws else if k = 2 then decide (key.size = 0) && decide (rev = 0) && noneB gs ws
      else if k = 3 then decide (key.size = 0) && revB rev && noneB gs ws else if k = 4 then decide (key.size = 0) && decide (rev = 0) && txnB gs ws else false)) := by
      intro k
      unfold callB
      rw [decide_eq_true f1, decide_eq_true f2, decide_eq_true f3, decide_eq_true f4]
      rfl
    by_cases k1 : kind = 1
    · subst k1
      have HK : Hid (callB ⟨frm, id, 1, key, rev, gs, ws⟩ = (keyB key && decide (rev = 0) && noneB gs ws)) := HA.out 1
      clear HA
      cases x0 : keyB key
      · as_aux_lemma =>
          go_enter Tryz.func71, Tryz.ntmps71
          go_wp2_with (go_at_call 122; refine (callKey_any _ _).mono ?_; rintro e w1 ⟨rfl, rfl⟩)
          go_ret
          exact ⟨ret_bool (by rw [HK.out, x0]; rfl), HB.out.1⟩
      · by_cases x1 : rev = 0
        · subst x1
          as_aux_lemma =>
            go_enter Tryz.func71, Tryz.ntmps71
            go_wp2_with (first | (go_at_call 122; refine (callKey_any _ _).mono ?_; rintro e w1 ⟨rfl, rfl⟩) | (go_at_call 123; refine (callNone_any _ _ _ _ _ _ _).mono ?_; rintro e w1 ⟨rfl, hb1⟩))
            go_ret
            exact ⟨ret_bool (by rw [HK.out, x0]; simp), HB.out.1.trans (hb1.mono HB.out.1.size)⟩
        · as_aux_lemma =>
            go_enter Tryz.func71, Tryz.ntmps71
            go_wp2_with (go_at_call 122; refine (callKey_any _ _).mono ?_; rintro e w1 ⟨rfl, rfl⟩)
            go_ret
            exact ⟨ret_bool (by rw [HK.out, x0, decide_eq_false x1]; rfl), HB.out.1⟩
    · by_cases k2 : kind = 2
      · subst k2
        have HK : Hid (callB ⟨frm, id, 2, key, rev, gs, ws⟩ = (decide (key.size = 0) && decide (rev = 0) && noneB gs ws)) := HA.out 2
        clear HA
        by_cases x0 : key.toList = []
        · have e0 : decide (key.size = 0) = true := decide_eq_true (size_nil.1 x0)
          by_cases x1 : rev = 0
          · subst x1
            as_aux_lemma =>
              go_enter Tryz.func71, Tryz.ntmps71
              go_wp2_with (go_at_call 123; refine (callNone_any _ _ _ _ _ _ _).mono ?_; rintro e w1 ⟨rfl, hb1⟩)
              go_ret
              exact ⟨ret_bool (by rw [HK.out, e0]; simp), HB.out.1.trans (hb1.mono HB.out.1.size)⟩
          · as_aux_lemma =>
              go_enter Tryz.func71, Tryz.ntmps71
              go_wp2_with fail
              go_ret
              exact ⟨ret_bool (by rw [HK.out, decide_eq_false x1]; simp), HB.out.1⟩
        · have e0 : decide (key.size = 0) = false := decide_eq_false (fun e => x0 (size_nil.2 e))
          as_aux_lemma =>
            go_enter Tryz.func71, Tryz.ntmps71
            go_wp2_with fail
            go_ret
            exact ⟨ret_bool (by rw [HK.out, e0]; simp), HB.out.1⟩
      · by_cases k3 : kind = 3
        · subst k3
          have HK : Hid (callB ⟨frm, id, 3, key, rev, gs, ws⟩ = (decide (key.size = 0) && revB rev && noneB gs ws)) := HA.out 3
          clear HA
          by_cases x0 : key.toList = []
          · have e0 : decide (key.size = 0) = true := decide_eq_true (size_nil.1 x0)
            cases x1 : revB rev
            · as_aux_lemma =>
                go_enter Tryz.func71, Tryz.ntmps71
                go_wp2_with (go_at_call 124; refine (callRev_any _ _).mono ?_; rintro e w1 ⟨rfl, rfl⟩)
                go_ret
                exact ⟨ret_bool (by rw [HK.out, e0, x1]; rfl), HB.out.1⟩
            · as_aux_lemma =>
                go_enter Tryz.func71, Tryz.ntmps71
                go_wp2_with (first | (go_at_call 124; refine (callRev_any _ _).mono ?_; rintro e w1 ⟨rfl, rfl⟩) | (go_at_call 123; refine (callNone_any _ _ _ _ _ _ _).mono ?_; rintro e w1 ⟨rfl, hb1⟩))
                go_ret
                exact ⟨ret_bool (by rw [HK.out, e0, x1]; simp), HB.out.1.trans (hb1.mono HB.out.1.size)⟩
          · have e0 : decide (key.size = 0) = false := decide_eq_false (fun e => x0 (size_nil.2 e))
            as_aux_lemma =>
              go_enter Tryz.func71, Tryz.ntmps71
              go_wp2_with fail
              go_ret
              exact ⟨ret_bool (by rw [HK.out, e0]; simp), HB.out.1⟩
        · by_cases k4 : kind = 4
          · subst k4
            have HK : Hid (callB ⟨frm, id, 4, key, rev, gs, ws⟩ = (decide (key.size = 0) && decide (rev = 0) && txnB gs ws)) := HA.out 4
            clear HA
            by_cases x0 : key.toList = []
            · have e0 : decide (key.size = 0) = true := decide_eq_true (size_nil.1 x0)
              by_cases x1 : rev = 0
              · subst x1
                as_aux_lemma =>
                  go_enter Tryz.func71, Tryz.ntmps71
                  go_wp2_with (go_at_call 125; refine (callTxn_any _ _ _ _ _ _ _ HB.out.2.gs HB.out.2.ws).mono ?_; rintro e w1 ⟨rfl, hb1⟩)
                  go_ret
                  exact ⟨ret_bool (by rw [HK.out, e0]; simp), HB.out.1.trans (hb1.mono HB.out.1.size)⟩
              · as_aux_lemma =>
                  go_enter Tryz.func71, Tryz.ntmps71
                  go_wp2_with fail
                  go_ret
                  exact ⟨ret_bool (by rw [HK.out, decide_eq_false x1]; simp), HB.out.1⟩
            · have e0 : decide (key.size = 0) = false := decide_eq_false (fun e => x0 (size_nil.2 e))
              as_aux_lemma =>
                go_enter Tryz.func71, Tryz.ntmps71
                go_wp2_with fail
                go_ret
                exact ⟨ret_bool (by rw [HK.out, e0]; simp), HB.out.1⟩
          · have HK : Hid (callB ⟨frm, id, kind, key, rev, gs, ws⟩ = false) := by
              show _ = _
              rw [HA.out, if_neg k1, if_neg k2, if_neg k3, if_neg k4]
            clear HA
            go_enter Tryz.func71, Tryz.ntmps71
            go_wp2_with fail
            go_ret
            exact ⟨ret_bool (by rw [HK.out]), HB.out.1⟩
  · go_enter Tryz.func71, Tryz.ntmps71
    go_wp2_with fail
    all_goals
      go_ret
      refine ⟨ret_bool ?_, HB.out.1⟩
      unfold callB
      by_cases g1 : 0 ≤ frm
      · by_cases g2 : frm ≤ 7
        · by_cases g3 : 1 ≤ id
          · have g4 : ¬ id ≤ 1099511627776 := fun g4 => h1 ⟨g1, g2, g3, g4⟩
            rw [decide_eq_false g4]; simp
          · rw [decide_eq_false g3]; simp
        · rw [decide_eq_false g2]; simp
      · rw [decide_eq_false g1]; simp
end Go.Proofs.YtaleceobkbgcnaaGreat
