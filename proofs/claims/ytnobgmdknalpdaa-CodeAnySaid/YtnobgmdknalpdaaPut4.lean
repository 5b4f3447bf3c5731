/-
  The contracts of package code: how terms, amounts and whole objects are written. No conditions beyond what is written in each statement.
-/
import Derived.Test.YtnobgmdknalpdaaPut3
set_option linter.unusedSimpArgs false
set_option linter.unusedVariables false
namespace Go.Proofs.Ytnobgmdknalpdaa
open Go.RowKit

def rbytes (t : Trm) : List Value := (nbytes t.key ++ wbytes t.kind.toNat) ++ lbytes nbytes t.vals
def okTrm (t : Trm) : Prop := okName t.key ∧ okInt t.kind ∧ t.vals.length ≤ 1000000 ∧ ∀ v ∈ t.vals, okName v
theorem nbytes_len (x : ByteArray) : (nbytes x).length = 8 := by simp [nbytes, wbytes_len]

set_option maxRecDepth 100000 in
set_option maxHeartbeats 1000000 in
theorem putTerm_any (t : Trm) (va : Option Addr) (vcap : Nat) (v : Value) (n : Nat) (xs : List Value) (w0 w : World) (h0 : Below w0.heap.size w0 w) (hv : At1 w0 va t.vals) (hok : okTrm t)
    (ho : w.ownsRow w0.heap.size 5 1 v n xs) (hn : n + (rbytes t).length ≤ 1000000) :
    Calls Try.prog 46 #[v, trm t.key t.kind va t.vals.length vcap] w (PutPost w0.heap.size w (n + (rbytes t).length) (xs ++ rbytes t)) := by
  obtain ⟨hk, hi, hm, hvs⟩ := hok
  have hB := h0.size
  have HN := Lib.hid hn
  have hn2 : n + 8 + 8 + (lbytes nbytes t.vals).length ≤ 1000000 := by
    simp only [rbytes, List.length_append, nbytes_len, wbytes_len] at hn; omega
  clear hn
  go_enter Try.func46, Try.ntmps46
  go_wp2_with fail
  refine (putName_any t.key v n xs w0.heap.size _ hk.1 hk.2 (ho.alloc _) (by simp; omega) (by omega)).mono ?_
  rintro e w1 ⟨v1, rfl, ho1, hp1⟩
  have hx1 := fun o => hp1.cell (heap_alloc_self w _) (by decide) o
  have hB1 := hp1.below.size
  simp at hB1
  go_wp2_with fail
  refine (putNumI_any t.kind v1 (n + 8) _ w0.heap.size w1 hi.1 hi.2 ho1 (by omega) (by omega)).mono ?_
  rintro e w2 ⟨v2, rfl, ho2, hp2⟩
  have hx2 := fun o => (hp1.trans hp2).cell (heap_alloc_self w _) (by decide) o
  have hB2 := hp2.below.size
  have hp := (((Puts.refl w0.heap.size w).alloc hB _).trans hp1).trans hp2
  clear hp1 hp2 hx1
  go_wp2_with fail
  refine (putListS_any va t.vals vcap v2 (n + 8 + 8) _ w0 w2 hv hm hvs (h0.trans hp.below) ho2 hn2).mono ?_
  rintro e w3 ⟨v3, rfl, ho3, hp3⟩
  go_wp2
  go_ret
  refine ⟨v3, rfl, ?_, hp.trans hp3⟩
  unfold rbytes
  rw [← List.append_assoc, ← List.append_assoc, List.length_append, List.length_append, nbytes_len, wbytes_len, ← Nat.add_assoc, ← Nat.add_assoc]
  exact ho3

set_option maxRecDepth 100000 in
set_option maxHeartbeats 1000000 in
theorem putListT_any (a : Option Addr) (l : List Trm) (cap : Nat) (v : Value) (n : Nat) (xs : List Value) (w0 w : World) (hl : AtT w0 a l) (hm : l.length ≤ 1000000) (hok : ∀ x ∈ l, okTrm x) (h0 : Below w0.heap.size w0 w)
    (ho : w.ownsRow w0.heap.size 5 1 v n xs) (hn : n + (lbytes rbytes l).length ≤ 1000000) :
    Calls Try.prog 45 #[v, .slice a l.length cap, .func (.func 46) #[] #[]] w (PutPost w0.heap.size w (n + (lbytes rbytes l).length) (xs ++ lbytes rbytes l)) := by
  have hB := h0.size
  have HN := Lib.hid hn
  have hn1 : n ≤ 1000000 := by omega
  clear hn
  go_enter Try.func45, Try.ntmps45
  go_wp2_with fail
  refine (putNumI_any (l.length : Int) v n xs w0.heap.size w (by omega) (by show _ < (9223372036854775808 : Int); omega) ho hB hn1).mono ?_
  rintro e w1 ⟨v1, rfl, ho1, hp1⟩
  rw [Int.toNat_natCast] at ho1
  go_wp2
  go_loopw [0, 15] (fun u i wr => ∃ k : Nat, k ≤ l.length ∧ i = .int .i64 k ∧ wr.ownsRow w0.heap.size 5 1 u (n + (wbytes l.length ++ (l.take k).flatMap rbytes).length) (xs ++ (wbytes l.length ++ (l.take k).flatMap rbytes)) ∧ Puts w0.heap.size w wr) (fun _ i _ => l.length - (intOf i).toNat)
  case atStart => exact ⟨0, Nat.zero_le _, rfl, by simpa [wbytes_len] using ho1, hp1⟩
  case round =>
    obtain ⟨k, hk, rfl, hown, hput⟩ := hrel
    have hbel := h0.trans hput.below
    by_cases hlt : k < l.length
    · have hsu := Lib.hid (flatMap_succ (d := t0) rbytes hlt)
      have hkok := hok (l.getD k t0) (getD_mem hlt)
      have hlen : Hid (n + ((wbytes l.length ++ (l.take k).flatMap rbytes) ++ rbytes (l.getD k t0)).length ≤ 1000000) := by
        show _ ≤ _
        have h := HN.out
        rw [lbytes_split (d := t0) rbytes hlt] at h
        simp only [List.length_append] at h ⊢
        omega
      obtain ⟨b, off, va, vcap, ha, hb, d0, d1, d2, hv⟩ := hl.2 k hlt; have c0 := cell_later hbel d0; have c1 := cell_later hbel d1; have c2 := cell_later hbel d2; clear d0 d1 d2 hl; subst ha
      clear hok
      generalize hq : l.getD k t0 = q at *
      clear hq
      obtain ⟨q0, q1, q2⟩ := q; simp only at c0 c1 c2 hv; go_wp2_with fail; refine (putTerm_any ⟨q0, q1, q2⟩ va vcap _ _ _ w0 _ (hbel.alloc hbel.size _) hv hkok (hown.alloc _) (by have := hlen.out; simp only [List.length_append] at this ⊢; omega)).mono ?_
      rintro e w2 ⟨v2, rfl, ho2, hp2⟩
      go_wp2
      go_roundw
      case rel =>
        refine ⟨k + 1, by omega, by go_num, ?_, hput.trans (((Puts.refl _ wr).alloc hbel.size _).trans hp2)⟩
        rw [hsu.out, ← List.append_assoc (wbytes l.length), ← List.append_assoc xs, List.length_append (bs := rbytes _), ← Nat.add_assoc]
        exact ho2
      case measure => simp [intOf]; omega
    · go_wp2
      go_ret
      have hk2 : l.take k = l := List.take_of_length_le (by omega)
      rw [hk2] at hown
      exact ⟨_, rfl, hown, hput⟩

def resBytes (a b c : Int) : List Value := (wbytes a.toNat ++ wbytes b.toNat) ++ wbytes c.toNat

set_option maxRecDepth 100000 in
set_option maxHeartbeats 1000000 in
theorem putRes_any (a b c : Int) (v : Value) (n : Nat) (xs : List Value) (B : Nat) (w : World) (ha : okInt a) (hb : okInt b) (hc : okInt c) (ho : w.ownsRow B 5 1 v n xs) (hB : B ≤ w.heap.size) (hn : n + 16 ≤ 1000000) :
    Calls Try.prog 41 #[v, res a b c] w (PutPost B w (n + 24) (xs ++ resBytes a b c)) := by
  have i0 := ix0 a b c
  have i1 := ix1 a b c
  have i2 := ix2 a b c
  have HA := Lib.hid (And.intro ha (And.intro hb hc))
  clear ha hb hc
  go_enter Try.func41, Try.ntmps41
  go_wp2
  refine wp_loop_rounds 4 ?_
  rw [rounds_succ]
  go_wp2_with fail
  refine (putNumL_any a v n xs B _ HA.out.1.1 HA.out.1.2 (ho.alloc _) (by simp; omega) (by omega)).mono ?_
  rintro e w1 ⟨v1, rfl, ho1, hp1⟩
  have hB1 := hp1.below.size
  simp at hB1
  go_wp2_with fail
  rw [rounds_succ]
  go_wp2_with fail
  refine (putNumL_any b v1 (n + 8) _ B w1 HA.out.2.1.1 HA.out.2.1.2 ho1 (by omega) (by omega)).mono ?_
  rintro e w2 ⟨v2, rfl, ho2, hp2⟩
  have hB2 := hp2.below.size
  go_wp2_with fail
  rw [rounds_succ]
  go_wp2_with fail
  refine (putNumL_any c v2 (n + 8 + 8) _ B w2 HA.out.2.2.1 HA.out.2.2.2 ho2 (by omega) (by omega)).mono ?_
  rintro e w3 ⟨v3, rfl, ho3, hp3⟩
  go_wp2_with fail
  rw [rounds_succ]
  go_wp2
  go_ret
  refine ⟨v3, rfl, ?_, ((((Puts.refl B w).alloc hB _).trans hp1).trans hp2).trans hp3⟩
  unfold resBytes
  rw [← List.append_assoc, ← List.append_assoc]
  exact ho3
end Go.Proofs.Ytnobgmdknalpdaa
