/-
  The contracts of package obj: which pods and nodes may be. No conditions beyond what is written in each statement.
-/
import Derived.Test.YtaleceobkbgcnaaGreatGLabel
import Derived.Test.YtaleceobkbgcnaaGreatGQty
set_option linter.unusedSimpArgs false
set_option linter.unusedVariables false
namespace Go.Proofs.YtaleceobkbgcnaaGreat
open Go.RowKit

/-- A slice's address leads to a list of integers, one cell each, in old memory. -/
def AtI (w : World) (a : Option Addr) (l : List Int) : Prop :=
  l.length ≤ 9223372036854775807 ∧ ∀ i, i < l.length → ∃ b off, a = some ⟨b, off, none⟩ ∧ b < w.heap.size ∧ w.cell? ⟨b, off + i, none⟩ = some (.int .i64 (l.getD i 0))
theorem AtI.below {w w1 : World} {a : Option Addr} {l : List Int} (h : AtI w a l) (hb : Below w.heap.size w w1) : AtI w1 a l := ⟨h.1, fun i hi => by
  obtain ⟨b, off, ha, hlt, c0⟩ := h.2 i hi
  exact ⟨b, off, ha, Nat.lt_of_lt_of_le hlt hb.size, cell_later hb c0⟩⟩

def portsFrom : Int → List Int → Bool
  | _, [] => true
  | last, x :: r => decide (last < x ∧ x ≤ 65535) && portsFrom x r
theorem portsFrom_drop {l : List Int} {k : Nat} (h : k < l.length) (last : Int) : portsFrom last (l.drop k) = (decide (last < l.getD k 0 ∧ l.getD k 0 ≤ 65535) && portsFrom (l.getD k 0) (l.drop (k + 1))) := by
  rw [List.drop_eq_getElem_cons h, List.getD_eq_getElem?_getD, List.getElem?_eq_getElem h]; rfl
def portsB (l : List Int) : Bool := decide (l.length ≤ 6) && portsFrom 0 l

set_option maxHeartbeats 400000 in
theorem mayPorts_any (a : Option Addr) (l : List Int) (cap : Nat) (w : World) (hl : AtI w a l) :
    Calls Tryz.prog 200 #[.slice a l.length cap] w fun e w' => e = .returned (.bool (portsB l)) ∧ w' = w := by
  obtain ⟨hm, hl⟩ := hl
  go_enter Tryz.func200, Tryz.ntmps200
  go_wp2
  · go_ret
    exact ⟨ret_bool (by unfold portsB; rw [decide_eq_false (by omega)]; rfl), rfl⟩
  · have hm6 : l.length ≤ 6 := by omega
    go_loop [3, 11] (fun t i => ∃ k : Nat, ∃ last : Int, k ≤ l.length ∧ i = .int .i64 k ∧ t = .int .i64 last ∧ Hid (portsB l = portsFrom last (l.drop k))) (fun _ i => l.length - (intOf i).toNat)
    case atStart => exact ⟨0, 0, Nat.zero_le _, rfl, rfl, by show _ = _; unfold portsB; rw [decide_eq_true hm6]; rfl⟩
    case round =>
      obtain ⟨k, last, hk, rfl, rfl, hget⟩ := hrel
      by_cases hlt : k < l.length
      · obtain ⟨b, off, ha, hb, c0⟩ := hl k hlt
        have hdrop := Lib.hid (portsFrom_drop hlt last)
        clear hl
        subst ha
        generalize hq : l.getD k 0 = q at c0 hdrop
        clear hq
        by_cases g1 : q ≤ last
        · go_wp2
          go_ret
          exact ⟨ret_bool (by rw [hget.out, hdrop.out, decide_eq_false (by omega)]; rfl), rfl⟩
        · by_cases g2 : 65535 < q
          · go_wp2
            go_ret
            exact ⟨ret_bool (by rw [hget.out, hdrop.out, decide_eq_false (by omega)]; rfl), rfl⟩
          · go_wp2
            go_round
            case rel => exact ⟨k + 1, q, by omega, by go_num, rfl, by show _ = _; rw [hget.out, hdrop.out, decide_eq_true (by omega)]; rfl⟩
            case measure => simp [intOf]; omega
      · go_wp2
        go_ret
        have h := hget.out
        rw [List.drop_eq_nil_of_le (by omega)] at h
        exact ⟨ret_bool (by rw [h]; rfl), rfl⟩

theorem mayPorts_b (a : Option Addr) (l : List Int) (cap : Nat) (w : World) (hl : AtI w a l) :
    Calls Tryz.prog 200 #[.slice a l.length cap] w fun e w' => e = .returned (.bool (portsB l)) ∧ Below w.heap.size w w' :=
  (mayPorts_any a l cap w hl).mono fun _ _ ⟨u, v⟩ => ⟨u, by subst v; exact Below.refl _ _⟩

def placeB (node : ByteArray) (term : Int) : Bool := if node = ByteArray.empty then decide (term = 0) else nameL node.data.toList && decide (0 < term)

set_option maxHeartbeats 400000 in
theorem mayPlace_any (node : ByteArray) (term : Int) (w : World) :
    Calls Tryz.prog 205 #[.string node, .int .i64 term] w fun e w' => e = .returned (.bool (placeB node term)) ∧ w' = w := by
  go_enter Tryz.func205, Tryz.ntmps205
  go_wp2_with (go_at_call 198; refine (name_any _ _).mono ?_; rintro e w' ⟨rfl, rfl⟩)
  all_goals (go_ret; refine ⟨ret_bool ?_, rfl⟩; go_light; simp_all [placeB, toList_isEmpty, toList_nil]; try (rw [Bool.eq_iff_iff]; simp; done))

/-- What a pod says; where its lists lie. -/
structure PodD where
  name : ByteArray
  uid : Int
  prio : Int
  r0 : Int
  r1 : Int
  r2 : Int
  ports : List Int
  labels : List Str2
  sel : List Trm
  tols : List Tol
  topo : ByteArray
  anti : List Trm
  skew : Int
  even : List Trm
  node : ByteArray
  term : Int
structure PodH where
  pa : Option Addr
  pc : Nat
  la : Option Addr
  lc : Nat
  sa : Option Addr
  sc : Nat
  ta : Option Addr
  tc : Nat
  aa : Option Addr
  ac : Nat
  ea : Option Addr
  ec : Nat
abbrev podV (p : PodD) (h : PodH) : Value := .agg #[.string p.name, .int .i64 p.uid, .int .i64 p.prio, .int .i64 p.r0, .int .i64 p.r1, .int .i64 p.r2, .slice h.pa p.ports.length h.pc, .slice h.la p.labels.length h.lc, .slice h.sa p.sel.length h.sc,
  .slice h.ta p.tols.length h.tc, .string p.topo, .slice h.aa p.anti.length h.ac, .int .i64 p.skew, .slice h.ea p.even.length h.ec, .string p.node, .int .i64 p.term]
structure PodAt (w : World) (p : PodD) (h : PodH) : Prop where
  ports : AtI w h.pa p.ports
  labels : At2 w h.la p.labels
  labn : p.labels.length ≤ 9223372036854775807
  sel : AtT w h.sa p.sel
  tols : AtL w h.ta p.tols
  anti : AtT w h.aa p.anti
  even : AtT w h.ea p.even
theorem PodAt.below {w w1 : World} {p : PodD} {h : PodH} (hp : PodAt w p h) (hb : Below w.heap.size w w1) : PodAt w1 p h :=
  ⟨hp.ports.below hb, hp.labels.below hb, hp.labn, hp.sel.below hb, hp.tols.below hb, hp.anti.below hb, hp.even.below hb⟩

def spreadB (p : PodD) : Bool := mayT p.anti && mayT p.even && decide (0 ≤ p.skew) && decide (p.skew ≤ 10) &&
  (if p.topo = ByteArray.empty then decide (p.anti.length = 0) && decide (p.skew = 0) else nameL p.topo.data.toList)

set_option maxHeartbeats 2000000 in
theorem maySpread_any (p : PodD) (h : PodH) (w : World) (hp : PodAt w p h) :
    Calls Tryz.prog 204 #[podV p h] w fun e w' => e = .returned (.bool (spreadB p)) ∧ Below w.heap.size w w' := by
  have hbA : ∀ o : Obj, Below w.heap.size w (w.alloc o) := fun o => (Below.refl _ _).alloc (Nat.le_refl _) o
  have hanti := hp.anti
  have heven := hp.even
  clear hp
  go_enter Tryz.func204, Tryz.ntmps204
  go_wp2_with fail
  refine (mayTerms_any _ _ _ _ (hanti.below (hbA _))).mono ?_
  rintro e w1 ⟨rfl, hb1⟩
  have hc1 := (bcell hb1).1
  have hbw1 := (hbA _).trans (hb1.mono (by simp))
  have hz1 := hb1.size
  simp at hz1
  have hq1 : w.heap.size < w1.heap.size := by omega
  cases g1 : mayT p.anti
  · go_wp2
    go_ret
    exact ⟨ret_bool (by unfold spreadB; rw [g1]; rfl), hbw1⟩
  go_wp2_with fail
  refine (mayTerms_any _ _ _ _ (heven.below hbw1)).mono ?_
  rintro e w2 ⟨rfl, hb2⟩
  have hc2 := (bcell hb2).1
  have hbw2 := hbw1.trans (hb2.mono (by omega))
  cases g2 : mayT p.even
  · go_wp2
    go_ret
    exact ⟨ret_bool (by unfold spreadB; rw [g1, g2]; rfl), hbw2⟩
  clear hb1 hb2 hbA
  go_wp2_with (go_at_call 198; refine (name_any _ _).mono ?_; rintro e w' ⟨rfl, rfl⟩)
  all_goals (go_ret; refine ⟨ret_bool ?_, hbw2⟩; go_light; simp_all [spreadB, toList_isEmpty, toList_nil]; try (first | (intros; omega) | (rw [Bool.eq_iff_iff]; simp; done)))
def podB (p : PodD) : Bool := nameL p.name.data.toList && decide (1 ≤ p.uid) && decide (p.uid ≤ 1099511627776) && decide (0 ≤ p.prio) && decide (p.prio ≤ 1000) && withinB p.r0 p.r1 p.r2 1000000000 && portsB p.ports && mayL p.labels && mayT p.sel && mayTolsB p.tols && spreadB p && placeB p.node p.term

abbrev podBox (p : PodD) (h : PodH) : Obj := .cells #[.string p.name, .int .i64 p.uid, .int .i64 p.prio, .int .i64 p.r0, .int .i64 p.r1, .int .i64 p.r2, .slice h.pa p.ports.length h.pc, .slice h.la p.labels.length h.lc, .slice h.sa p.sel.length h.sc,
  .slice h.ta p.tols.length h.tc, .string p.topo, .slice h.aa p.anti.length h.ac, .int .i64 p.skew, .slice h.ea p.even.length h.ec, .string p.node, .int .i64 p.term] 217

set_option maxHeartbeats 4000000 in
theorem mayPod_any (p : PodD) (h : PodH) (w : World) (hp : PodAt w p h) :
    Calls Tryz.prog 162 #[podV p h] w fun e w' => e = .returned (.bool (podB p)) ∧ Below w.heap.size w w' := by
  have hbw0 : Below w.heap.size w (w.alloc (podBox p h)) := (Below.refl _ _).alloc (Nat.le_refl _) _
  have hq0 : w.heap.size < (w.alloc (podBox p h)).heap.size := by simp
  have H0 := Lib.hid (And.intro hbw0 hq0)
  clear hbw0 hq0
  go_enter Tryz.func162, Tryz.ntmps162
  go_wp2_with (go_at_call 198; refine (name_any _ _).mono ?_; rintro e w' ⟨rfl, rfl⟩)
  rotate_left
  iterate 5
    · go_ret
      refine ⟨ret_bool ?_, (by (repeat (with_reducible first | exact Below.refl _ _ | refine Below.alloc ?_ ?_ _ | refine Below.setCell ?_ ?_ _ | refine Below.drew ?_ | refine below_drewN ?_ _)); all_goals (simp <;> omega))⟩
      go_light
      simp_all [podB]
      try (intros; omega)
  have G : Hid (nameL p.name.data.toList = true ∧ 1 ≤ p.uid ∧ p.uid ≤ 1099511627776 ∧ 0 ≤ p.prio ∧ p.prio ≤ 1000) := ⟨by assumption, by assumption, by assumption, by assumption, by assumption⟩
  obtain ⟨hbw0, hq0⟩ := H0.out
  have hx0 : True := trivial
  clear H0
  go_wp2_with fail
  refine Calls.mono (may_any _ _ _ _) ?_
  rintro e w1 ⟨rfl, hb1⟩
  have hx1 : ∀ o, w1.cell? ⟨w.heap.size, o, none⟩ = (w.alloc (podBox p h)).cell? ⟨w.heap.size, o, none⟩ := fun o => (hb1.cell (p := ⟨w.heap.size, o, none⟩) hq0).trans rfl
  have hbw1 : Below w.heap.size w w1 := hbw0.trans (hb1.mono hbw0.size)
  have hq1 : w.heap.size < w1.heap.size := Nat.lt_of_lt_of_le hq0 hb1.size
  clear hb1 hx0 hq0
  cases g1 : withinB p.r0 p.r1 p.r2 1000000000
  · go_wp2
    go_ret
    exact ⟨ret_bool (by obtain ⟨a1, a2, a3, a4, a5⟩ := G.out; unfold podB; rw [a1, g1]; simp), hbw1⟩
  clear hbw0
  go_wp2_with fail
  refine Calls.mono (mayPorts_b _ _ _ _ (hp.ports.below hbw1)) ?_
  rintro e w2 ⟨rfl, hb2⟩
  have hx2 : ∀ o, w2.cell? ⟨w.heap.size, o, none⟩ = (w.alloc (podBox p h)).cell? ⟨w.heap.size, o, none⟩ := fun o => (hb2.cell (p := ⟨w.heap.size, o, none⟩) hq1).trans (hx1 o)
  have hbw2 : Below w.heap.size w w2 := hbw1.trans (hb2.mono hbw1.size)
  have hq2 : w.heap.size < w2.heap.size := Nat.lt_of_lt_of_le hq1 hb2.size
  clear hb2 hx1 hq1
  cases g2 : portsB p.ports
  · go_wp2
    go_ret
    exact ⟨ret_bool (by obtain ⟨a1, a2, a3, a4, a5⟩ := G.out; unfold podB; rw [a1, g1, g2]; simp), hbw2⟩
  clear hbw1
  go_wp2_with fail
  refine Calls.mono (may_pairs_any _ _ _ _ (hp.labels.below hbw2)) ?_
  rintro e w3 ⟨rfl, hb3⟩
  have hx3 : ∀ o, w3.cell? ⟨w.heap.size, o, none⟩ = (w.alloc (podBox p h)).cell? ⟨w.heap.size, o, none⟩ := fun o => (hb3.cell (p := ⟨w.heap.size, o, none⟩) hq2).trans (hx2 o)
  have hbw3 : Below w.heap.size w w3 := hbw2.trans (hb3.mono hbw2.size)
  have hq3 : w.heap.size < w3.heap.size := Nat.lt_of_lt_of_le hq2 hb3.size
  clear hb3 hx2 hq2
  cases g3 : mayL p.labels
  · go_wp2
    go_ret
    exact ⟨ret_bool (by obtain ⟨a1, a2, a3, a4, a5⟩ := G.out; unfold podB; rw [a1, g1, g2, g3]; simp), hbw3⟩
  clear hbw2
  go_wp2_with fail
  refine Calls.mono (mayTerms_any _ _ _ _ (hp.sel.below hbw3)) ?_
  rintro e w4 ⟨rfl, hb4⟩
  have hx4 : ∀ o, w4.cell? ⟨w.heap.size, o, none⟩ = (w.alloc (podBox p h)).cell? ⟨w.heap.size, o, none⟩ := fun o => (hb4.cell (p := ⟨w.heap.size, o, none⟩) hq3).trans (hx3 o)
  have hbw4 : Below w.heap.size w w4 := hbw3.trans (hb4.mono hbw3.size)
  have hq4 : w.heap.size < w4.heap.size := Nat.lt_of_lt_of_le hq3 hb4.size
  clear hb4 hx3 hq3
  cases g4 : mayT p.sel
  · go_wp2
    go_ret
    exact ⟨ret_bool (by obtain ⟨a1, a2, a3, a4, a5⟩ := G.out; unfold podB; rw [a1, g1, g2, g3, g4]; simp), hbw4⟩
  clear hbw3
  go_wp2_with fail
  refine Calls.mono (mayTols_any _ _ _ _ (hp.tols.below hbw4)) ?_
  rintro e w5 ⟨rfl, hb5⟩
  have hx5 : ∀ o, w5.cell? ⟨w.heap.size, o, none⟩ = (w.alloc (podBox p h)).cell? ⟨w.heap.size, o, none⟩ := fun o => (hb5.cell (p := ⟨w.heap.size, o, none⟩) hq4).trans (hx4 o)
  have hbw5 : Below w.heap.size w w5 := hbw4.trans (hb5.mono hbw4.size)
  have hq5 : w.heap.size < w5.heap.size := Nat.lt_of_lt_of_le hq4 hb5.size
  clear hb5 hx4 hq4
  cases g5 : mayTolsB p.tols
  · go_wp2
    go_ret
    exact ⟨ret_bool (by obtain ⟨a1, a2, a3, a4, a5⟩ := G.out; unfold podB; rw [a1, g1, g2, g3, g4, g5]; simp), hbw5⟩
  clear hbw4
  go_wp2_with fail
  refine Calls.mono (maySpread_any p h _ (hp.below hbw5)) ?_
  rintro e w6 ⟨rfl, hb6⟩
  have hx6 : ∀ o, w6.cell? ⟨w.heap.size, o, none⟩ = (w.alloc (podBox p h)).cell? ⟨w.heap.size, o, none⟩ := fun o => (hb6.cell (p := ⟨w.heap.size, o, none⟩) hq5).trans (hx5 o)
  have hbw6 : Below w.heap.size w w6 := hbw5.trans (hb6.mono hbw5.size)
  have hq6 : w.heap.size < w6.heap.size := Nat.lt_of_lt_of_le hq5 hb6.size
  clear hb6 hx5 hq5
  cases g6 : spreadB p
  · go_wp2
    go_ret
    exact ⟨ret_bool (by obtain ⟨a1, a2, a3, a4, a5⟩ := G.out; unfold podB; rw [a1, g1, g2, g3, g4, g5, g6]; simp), hbw6⟩
  clear hbw5
  go_wp2_with (go_at_call 205; refine (mayPlace_any _ _ _).mono ?_; rintro e w' ⟨rfl, rfl⟩)
  go_ret
  exact ⟨ret_bool (by obtain ⟨a1, a2, a3, a4, a5⟩ := G.out; unfold podB; rw [a1, g1, g2, g3, g4, g5, g6, decide_eq_true a2, decide_eq_true a3, decide_eq_true a4, decide_eq_true a5]; simp), hbw6⟩
end Go.Proofs.YtaleceobkbgcnaaGreat
