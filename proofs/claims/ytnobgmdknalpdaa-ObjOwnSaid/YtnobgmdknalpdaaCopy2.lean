/-
  The contract of obj's copy of a list of terms. Its conditions: how many bytes the lists take.
-/
import Derived.Test.YtnobgmdknalpdaaCopy1
set_option linter.unusedSimpArgs false
set_option linter.unusedVariables false
namespace Go.Proofs.Ytnobgmdknalpdaa
open Go.RowKit

def AtTH (w : World) (a : Option Addr) (L : List TrmH) : Prop := ∀ b, a = some b → ∀ j u, (L.flatMap cellsT)[j]? = some u → w.cell? (b.add j) = some u
theorem newsTH {w : World} {a : Option Addr} {L : List TrmH} (h : AtTH w a L) : ∀ b, a = some b → ∀ j u, (L.flatMap cellsT)[j]? = some u → w.cell? (b.add j) = some u := h
set_option maxHeartbeats 1000000 in
theorem copyT_any (a : Option Addr) (l : List TrmH) (cap : Nat) (w : World) (hl : AtTH w a l) (hc : CapOk a l.length cap) (hb : l.length * 48 ≤ 140737488355328) :
    Calls Try.prog 82 #[.slice a l.length cap] w fun e w' => ∃ a' c', e = .returned (.slice a' l.length c') ∧ w'.ownsRow w.heap.size 40 3 (.slice a' l.length c') l.length (l.flatMap cellsT) ∧ Below w.heap.size w w' := by
  obtain ⟨iX, h0, h1, h2, h3⟩ := info_parts infoT2
  have hm : l.length ≤ maxLen := Nat.le_trans hc.1 hc.2.1
  go_enter Try.func82, Try.ntmps82
  go_wp2_with (at_builtin; refine stand ?_)
  show wpList _ _ _ _ _ _
  refine wpList_append_opt rfl _ _ 26 rfl w.heap.size 40 iX _ 3 48 Try.underlying26 h0 h1 h2 h3 rfl (by decide) (.slice none 0 0) 0 [] rfl (World.ownsRow_nil _ _ 40 3) a l.length cap (l.flatMap cellsT) rfl (fun h => by have := hc.2.2 h; have := hc.1; omega) (by rw [flat_len (sz := 3) (fun _ => rfl)]) (newsTH hl) (oneT _) (by rw [Nat.zero_add]; exact hm) (by rw [Nat.zero_add]; exact hb) (Nat.le_refl _) ?_
  intro v' w' o' g'
  rw [Nat.zero_add, List.nil_append] at o'
  obtain ⟨a', c', rfl, _, _, _⟩ := own_len o'
  go_wp2
  go_ret
  exact ⟨a', c', rfl, o', grown_below g' (World.ownsRow_nil _ _ 40 3) (Nat.le_refl _)⟩

/-- Terms with where their Vals lie, and how many bytes these may take. -/
def HeldC (w : World) (L : List TrmH) : Prop := ∀ i, i < L.length → At1 w (L.getD i (t0, none, 0)).2.1 (L.getD i (t0, none, 0)).1.vals ∧ CapOk (L.getD i (t0, none, 0)).2.1 (L.getD i (t0, none, 0)).1.vals.length (L.getD i (t0, none, 0)).2.2 ∧ (L.getD i (t0, none, 0)).1.vals.length * 16 ≤ 140737488355328
/-- The copy of a list of terms whose first few have Vals of their own. -/
structure CopyAt (N : Nat) (w : World) (a : Option Addr) (c : Nat) (L : List TrmH) (k : Nat) (D : List TrmH) : Prop where
  len : D.length = k
  same : D.map (·.1) = (L.take k).map (·.1)
  row : w.ownsRow N 40 3 (.slice a L.length c) L.length ((D ++ L.drop k).flatMap cellsT)
  vals : ∀ x ∈ D, OwnV w N x
  apart : D.Pairwise (fun x y => ∀ g g', (Value.slice x.2.1 x.1.vals.length x.2.2).ownBlock = some g → (Value.slice y.2.1 y.1.vals.length y.2.2).ownBlock = some g' → g < g')
theorem CopyAt.cell {N : Nat} {w : World} {a : Option Addr} {c : Nat} {L : List TrmH} {k : Nat} {D : List TrmH} (h : CopyAt N w a c L k D) (hlt : k < L.length) : ∃ b, a = some ⟨b, 0, none⟩ ∧ b < w.heap.size ∧ w.cell? ⟨b, k * 3 + 2, none⟩ = some (.slice (L.getD k (t0, none, 0)).2.1 (L.getD k (t0, none, 0)).1.vals.length (L.getD k (t0, none, 0)).2.2) ∧ ∀ o, w.frozen? ⟨b, o, none⟩ = false := by
  obtain ⟨b, rfl, hb, hc⟩ := owned_cells h.row (j := 2) hlt (by show 2 < 3; omega)
  refine ⟨b, rfl, hb, ?_, fun o => h.row.frozenAt o⟩
  have hl : (D ++ L.drop k).length = L.length := by simp [h.len]; omega
  rw [flat_at (f := cellsT) (sz := 3) (j := 2) (d := (t0, none, 0)) (fun _ => rfl) (by omega) (by decide)] at hc
  have hg : (D ++ L.drop k).getD k (t0, none, 0) = L.getD k (t0, none, 0) := by
    rw [List.getD_eq_getElem?_getD, List.getElem?_append_right (by rw [h.len]; exact Nat.le_refl _), h.len, List.getElem?_drop]
    simp [List.getD_eq_getElem?_getD]
  rw [hg, Nat.zero_add] at hc
  exact hc
theorem set_flat {L D : List TrmH} {k : Nat} {t : Trm} {va a2 : Option Addr} {vc c2 : Nat} (hD : D.length = k) (hlt : k < L.length) (hq : L.getD k (t0, none, 0) = (t, va, vc)) : ((D ++ L.drop k).flatMap cellsT).set (k * 3 + 2) (.slice a2 t.vals.length c2) = ((D ++ [(t, a2, c2)]) ++ L.drop (k + 1)).flatMap cellsT := by
  have hd : L.drop k = (t, va, vc) :: L.drop (k + 1) := by
    rw [List.drop_eq_getElem_cons hlt, ← hq, List.getD_eq_getElem?_getD, List.getElem?_eq_getElem hlt]; rfl
  have hf : (D.flatMap cellsT).length = k * 3 := by rw [flat_len (sz := 3) (fun _ => rfl), hD]
  rw [hd, List.flatMap_append, List.set_append_right _ _ (by omega), hf, List.flatMap_append, List.flatMap_append, List.append_assoc]
  congr 1
  rw [show k * 3 + 2 - k * 3 = 2 by omega]
  rfl
theorem CopyAt.step {N : Nat} {w w2 : World} {b c : Nat} {L : List TrmH} {k : Nat} {D : List TrmH} (h : CopyAt N w (some ⟨b, 0, none⟩) c L k D) (hlt : k < L.length) {t : Trm} {va a2 : Option Addr} {vc c2 : Nat} (hq : L.getD k (t0, none, 0) = (t, va, vc)) (hb : b < w.heap.size) (hN : N ≤ w.heap.size)
    (ho : w2.ownsRow w.heap.size 9 1 (.slice a2 t.vals.length c2) t.vals.length (t.vals.flatMap cellsS)) (hb2 : Below w.heap.size w w2) : CopyAt N (w2.setCell ⟨b, k * 3 + 2, none⟩ (.slice a2 t.vals.length c2)) (some ⟨b, 0, none⟩) c L (k + 1) (D ++ [(t, a2, c2)]) := by
  have r2 := own_below h.row hb2
  have r3 := r2.stored (k * 3 + 2) (.slice a2 t.vals.length c2)
  refine ⟨by simp [h.len], ?_, ?_, ?_, ?_⟩
  · rw [List.map_append, h.same, List.take_add_one, List.map_append]
    have : L[k]? = some (t, va, vc) := by rw [← hq, List.getD_eq_getElem?_getD, List.getElem?_eq_getElem hlt]; rfl
    rw [this]; rfl
  · have := r3.1
    rw [set_flat h.len hlt hq] at this
    exact this
  · intro x hx
    rcases List.mem_append.1 hx with hx | hx
    · have hv := own_below (h.vals x hx) hb2
      exact World.ownsRow.kept hv r3.2 (own_apart hv r2 (by decide))
    · rw [List.mem_singleton] at hx
      subst hx
      have hv := own_setc ho hb (k * 3 + 2) (.slice a2 t.vals.length c2)
      unfold OwnV
      have e : strCells t.vals = t.vals.flatMap cellsS := by unfold strCells; rfl
      rw [e]
      exact World.ownsRow.mono hv hN
  · rw [List.pairwise_append]
    refine ⟨h.apart, List.pairwise_singleton _ _, fun x hx y hy g g' hg hg' => ?_⟩
    rw [List.mem_singleton] at hy
    subst hy
    have l1 := ((h.vals x hx).lt g hg).2
    have l2 := (ho.lt g' hg').1
    omega
theorem CopyAt.frozen2 {N : Nat} {w w2 : World} {b c : Nat} {L : List TrmH} {k : Nat} {D : List TrmH} (h : CopyAt N w (some ⟨b, 0, none⟩) c L k D) (hb2 : Below w.heap.size w w2) : ∀ o, w2.frozen? ⟨b, o, none⟩ = false := fun o => (own_below h.row hb2).frozenAt o
set_option maxRecDepth 100000 in
set_option maxHeartbeats 4000000 in
theorem copyTerms_any (a : Option Addr) (L : List TrmH) (cap : Nat) (w : World) (hl : AtTH w a L) (hc : CapOk a L.length cap) (hb : L.length * 48 ≤ 140737488355328) (hv : HeldC w L) :
    Calls Try.prog 30 #[.slice a L.length cap] w fun e w' => ∃ a' c' L', e = .returned (.slice a' L.length c') ∧ L'.map (·.1) = L.map (·.1) ∧ (rowT a' c' L').In w' w.heap.size ∧ (∀ x ∈ L', OwnV w' w.heap.size x) ∧ L'.Pairwise (fun x y => ∀ g g', (Value.slice x.2.1 x.1.vals.length x.2.2).ownBlock = some g → (Value.slice y.2.1 y.1.vals.length y.2.2).ownBlock = some g' → g < g') ∧ Below w.heap.size w w' := by
  go_enter Try.func30, Try.ntmps30
  go_wp2_with fail
  refine Calls.mono (copyT_any a L cap _ hl hc hb) ?_
  rintro e w1 ⟨a1, c1, rfl, o1, hb1⟩
  have K1 := Lib.hid (And.intro o1 hb1)
  clear o1 hb1 hl hc hb
  go_wp2
  go_loopw [8] (fun i wr => ∃ k : Nat, k ≤ L.length ∧ i = .int .i64 k ∧ ∃ D : List TrmH, Hid (CopyAt w.heap.size wr a1 c1 L k D) ∧ Below w.heap.size w wr) (fun i _ => L.length - (intOf i).toNat)
  case atStart => exact ⟨0, Nat.zero_le _, rfl, [], ⟨rfl, rfl, K1.out.1, fun _ h => by simp at h, List.Pairwise.nil⟩, K1.out.2⟩
  case round =>
    obtain ⟨k, hk, rfl, D, HC, hbel⟩ := hrel
    have hmx : L.length ≤ 9223372036854775807 := owned_le K1.out.1
    by_cases hlt : k < L.length
    · obtain ⟨b, rfl, hb, c2, fz⟩ := HC.out.cell hlt
      obtain ⟨v1, v2, v3⟩ := hv k hlt
      generalize hq : L.getD k (t0, none, 0) = q at *
      have v1 := v1.below hbel
      have HQ := Lib.hid hq
      clear hv hq K1
      obtain ⟨t, va, vc⟩ := q
      simp only at c2 v1 v2 v3
      go_wp2_with fail
      refine Calls.mono (copyS_any va t.vals vc _ v1 v2 v3) ?_
      rintro e w2 ⟨a2, c2', rfl, o2, hb2⟩
      have HD := HC.out.step hlt HQ.out hb hbel.size o2 hb2
      have f2 : ∀ o, w2.frozen? ⟨b, o, none⟩ = false := HC.out.frozen2 hb2
      have cc := cell_later hb2 c2
      have hbe : Below w.heap.size w (w2.setCell ⟨b, k * 3 + 2, none⟩ (.slice a2 t.vals.length c2')) := (hbel.trans (hb2.mono hbel.size)).setCell (HC.out.row.lt b rfl).1 _
      have HH := Lib.hid (And.intro HD hbe)
      clear HC hbel c2 fz v1 v2 v3 o2 hb2 HD hbe HQ
      go_wp2
      go_roundw
      case rel => exact ⟨k + 1, by omega, by go_num, _, HH.out.1, HH.out.2⟩
      case measure => simp [intOf]; omega
    · go_wp2
      go_ret
      have hkk : k = L.length := by omega
      subst hkk
      obtain ⟨d1, d2, d3, d4, d5⟩ := HC.out
      rw [List.drop_length, List.append_nil] at d3
      exact ⟨_, _, D, rfl, by rw [d2, List.take_length], by unfold rowT; rw [d1]; exact d3, d4, d5, hbel⟩
end Go.Proofs.Ytnobgmdknalpdaa
