/-
  Bytes of which there is a node, a lease, are that one's. No conditions beyond what is written in each statement.
-/
import Derived.Test.YtnobgmdknalpdaaBack
import Derived.Test.YtnobgmdknalpdaaGetN
import Derived.Test.YtnobgmdknalpdaaLease
set_option linter.unusedSimpArgs false
set_option linter.unusedVariables false
namespace Go.Proofs.Ytnobgmdknalpdaa
open Go.RowKit

theorem open_bytes {kind : Int} {l : List Int} (hb : Bytes l) : Bytes (gOpen kind l).1 := by
  unfold gOpen
  split
  · exact sf_num.bytes (st := (l, false)) hb
  · exact sf_num.bytes (st := (l, false)) hb
theorem iv_node (st : RS) (hb : Bytes st.1) (h : (gNode st).2.2 = false) (ok : nodeB (gNode st).1 = true) : st.2 = false ∧ vI (wbytes 2) ++ st.1 = vI (nodeBytes (gNode st).1) ++ (gNode st).2.1 := by
  obtain ⟨h1, h6, h8, h9⟩ := nodeB_parts ok
  obtain ⟨r1, r2, r3⟩ := withinB_ok h6 (by decide)
  have n1 := okName_of h1
  have p2 := (mayL_ok h8).2
  have p3 := (mayL_ok h9).2
  clear h1 h6 h8 h9 ok
  unfold gNode at *
  simp only at *
  generalize e1 : gName st = t1 at *
  have c1 : Bytes t1.2.1 := by rw [← e1]; exact sf_name.bytes hb
  generalize e4 : gRes t1.2 = t4 at *
  have c4 : Bytes t4.2.1 := by
    obtain ⟨n, e⟩ := sf_res t1.2
    rw [← e4, e]; exact fun x hx => c1 x (List.mem_of_mem_drop hx)
  generalize e5 : gList gPair t4.2 = t5 at *
  have c5 : Bytes t5.2.1 := by rw [← e5]; exact (sf_list sf_pair).bytes c4
  generalize e6 : gList gPair t5.2 = t6 at *
  obtain ⟨k6, b6⟩ := iv_list sf_pair iv_pair t5.2 c5 (by rw [e6]; exact h) (by rw [e6]; exact p3)
  obtain ⟨k5, b5⟩ := iv_list sf_pair iv_pair t4.2 c4 (by rw [e5]; exact k6) (by rw [e5]; exact p2)
  obtain ⟨k4, b4⟩ := iv_res t1.2 c1 (by rw [e4]; exact k5) (by rw [e4]; exact r1) (by rw [e4]; exact r2) (by rw [e4]; exact r3)
  obtain ⟨k1, b1⟩ := iv_name st hb (by rw [e1]; exact k4) (by rw [e1]; exact n1)
  refine ⟨k1, ?_⟩
  rw [e1] at b1
  rw [e4] at b4
  rw [e5] at b5
  rw [e6] at b6
  unfold nodeBytes
  simp only [vI_app, List.append_assoc]
  rw [← b6, ← b5, ← b4, ← b1]
theorem node_inv {l : List Int} (hb : Bytes l) {q : NodeD} (h : getNodeR l = some q) : nodeB q = true ∧ l = vI (nodeBytes q) := by
  unfold getNodeR at h
  split at h
  · next hc =>
    simp only [Option.some.injEq] at h
    subst h
    simp only [Bool.and_eq_true, Bool.not_eq_true', decide_eq_true_eq] at hc
    obtain ⟨⟨h1, h2⟩, h3⟩ := hc
    obtain ⟨k, b⟩ := iv_node (gOpen 2 l) (open_bytes hb) h1 h3
    have o := (iv_open (kind := 2) (by decide) hb k).1
    refine ⟨h3, ?_⟩
    rw [List.eq_nil_of_length_eq_zero h2, List.append_nil] at b
    rw [← b]
    exact o
  · cases h
theorem lease_inv {l : List Int} (hb : Bytes l) {x y : Int} (h : getLeaseR l = some (x, y)) : leaseB x y = true ∧ l = vI (wbytes 3 ++ wbytes x.toNat ++ wbytes y.toNat) := by
  unfold getLeaseR at h
  split at h
  · next hc =>
    simp only [Option.some.injEq] at h
    simp only [Bool.and_eq_true, Bool.not_eq_true', decide_eq_true_eq] at hc
    obtain ⟨⟨h1, h2⟩, h3⟩ := hc
    have hx : (gLease (gOpen 3 l)).1.1 = x := by rw [h]
    have hy : (gLease (gOpen 3 l)).1.2 = y := by rw [h]
    rw [hx, hy] at h3
    refine ⟨h3, ?_⟩
    unfold leaseB at h3
    simp only [decide_eq_true_eq] at h3
    have c0 := open_bytes (kind := 3) hb
    unfold gLease at h1 h2 hx hy
    simp only at h1 h2 hx hy
    have c1 := sf_num.bytes c0
    obtain ⟨k2, b2⟩ := iv_num (gNum (gOpen 3 l)).2 c1 h1 (by rw [hy]; exact ⟨by omega, by omega⟩)
    obtain ⟨k1, b1⟩ := iv_num (gOpen 3 l) c0 k2 (by rw [hx]; exact ⟨by omega, by omega⟩)
    have o := (iv_open (kind := 3) (by decide) hb k1).1
    unfold ibytes at b1 b2
    rw [hx] at b1
    rw [hy, List.eq_nil_of_length_eq_zero h2, List.append_nil] at b2
    rw [b2] at b1
    rw [vI_app, vI_app, List.append_assoc, ← b1]
    exact o
  · cases h
end Go.Proofs.Ytnobgmdknalpdaa
