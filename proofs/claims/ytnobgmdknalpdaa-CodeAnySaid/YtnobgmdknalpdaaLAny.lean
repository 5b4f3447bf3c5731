/-
  The law CodeAny: whatever the input, it returns true, and each argument reads as it did. No conditions.
-/
import Derived.Test.YtnobgmdknalpdaaLAgain0
import Derived.Test.YtnobgmdknalpdaaRef7
import Derived.Test.YtnobgmdknalpdaaBack2
import Derived.Test.YtnobgmdknalpdaaLRoom0
import Derived.Test.YtnobgmdknalpdaaOpen1
import Derived.Deep.RegionHeld3
import Derived.Deep.Onto
import Derived.Laws.BitsAllLaws
import Derived.Deep.AppendLies
import Derived.Deep.RegionHeldLaw
import Derived.Deep.CutRange
set_option linter.unusedSimpArgs false
set_option linter.unusedVariables false
namespace Go.Proofs.Ytnobgmdknalpdaa
open Go.RowKit

/-- A slice of bytes that stands in memory, not in a list of slices. -/
def El (B N : Nat) (W : World) (v : Value) : Prop := ∃ (a : Option Addr) (l : List Int) (cap : Nat), v = .slice a l.length cap ∧ AtB W a l ∧ Bytes l ∧ l.length ≤ cap ∧ cap ≤ maxLen ∧ (0 < l.length → PlainA a) ∧ l.length ≤ B ∧ ∀ b off, a = some ⟨b, off, none⟩ → 0 < l.length → b < N ∨ HasTy W b 5
theorem AtB.lt {W : World} {a : Option Addr} {l : List Int} (h : AtB W a l) {b off : Nat} (ha : a = some ⟨b, off, none⟩) (hl : 0 < l.length) : b < W.heap.size := by
  obtain ⟨b', off', e, hb, _⟩ := h 0 hl
  rw [ha] at e; cases e; exact hb
theorem HasTy.later {W W' : World} {b : Nat} {t : TypeId} (h : HasTy W b t) (hb : Below W.heap.size W W') : HasTy W' b t := by
  obtain ⟨cs, fr, e⟩ := h
  exact ⟨cs, fr, (hb.block b (Array.getElem?_eq_some_iff.1 e).1).trans e⟩
theorem El.later {B N : Nat} {W W' : World} {v : Value} (h : El B N W v) (hb : Below W.heap.size W W') : El B N W' v := by
  obtain ⟨a, l, cap, e, h1, h2, h3, h4, h5, h7, h6⟩ := h
  exact ⟨a, l, cap, e, h1.below hb, h2, h3, h4, h5, h7, fun b off ea hl => (h6 b off ea hl).imp id (fun x => x.later hb)⟩
theorem El.grown {B N : Nat} {W W' : World} {v : Value} {g : Option Nat} (h : El B N W v) (hg : W.grownBy W' g) (hN : ∀ k, g = some k → N ≤ k) (hT : ∀ k, g = some k → HasTy W k 48) : El B N W' v := by
  obtain ⟨a, l, cap, e, h1, h2, h3, h4, h5, h7, h6⟩ := h
  have hne : ∀ b off, a = some ⟨b, off, none⟩ → 0 < l.length → some b ≠ g := fun b off ea hl eg => by
    rcases h6 b off ea hl with hb | ⟨cs, fr, hb⟩
    · have := hN b eg.symm; omega
    · obtain ⟨cs', fr', hb'⟩ := hT b eg.symm
      rw [hb] at hb'
      simp at hb'
  refine ⟨a, l, cap, e, fun i hi => ?_, h2, h3, h4, h5, h7, fun b off ea hl => ?_⟩
  · obtain ⟨b, off, ea, hb, hc, hx⟩ := h1 i hi
    exact ⟨b, off, ea, Nat.lt_of_lt_of_le hb hg.size, (hg.cell_far ⟨b, off + i, none⟩ hb (hne b off ea (by omega))).trans hc, hx⟩
  · rcases h6 b off ea hl with hb | ⟨cs, fr, hb⟩
    · exact Or.inl hb
    · exact Or.inr ⟨cs, fr, (hg.block b (Array.getElem?_eq_some_iff.1 hb).1 (fun e => hne b off ea hl e)).trans hb⟩
theorem own_hasTy {W : World} {N : Nat} {t : TypeId} {sz : Nat} {v : Value} {n : Nat} {xs : List Value} (h : W.ownsRow N t sz v n xs) : ∀ k, v.ownBlock = some k → N ≤ k ∧ HasTy W k t := fun k hk => by
  refine ⟨(World.ownsRow.lt h k hk).1, ?_⟩
  rcases h.2 with ⟨hv, _⟩ | ⟨g', c, cur, hv, _, hg, _⟩
  · rw [hv] at hk; cases hk
  · rw [hv] at hk; cases hk; exact ⟨_, _, hg⟩
theorem AtB.take {W : World} {a : Option Addr} {l : List Int} (h : AtB W a l) (k : Nat) : AtB W a (l.take k) := fun i hi => by
  rw [List.length_take] at hi
  obtain ⟨b, off, e, hb, hc, h0, h1⟩ := h i (by omega)
  have hg : (l.take k).getD i 0 = l.getD i 0 := by simp [List.getD_eq_getElem?_getD, List.getElem?_take_of_lt (show i < k by omega)]
  rw [hg]
  exact ⟨b, off, e, hb, hc, h0, h1⟩
theorem Bytes.take {l : List Int} (h : Bytes l) (k : Nat) : Bytes (l.take k) := fun x hx => h x (List.mem_of_mem_take hx)
/-- Bytes of one's own, in a row. -/
theorem El.own {B N M : Nat} {W : World} {a : Option Addr} {c : Nat} {l : List Int} (h : W.ownsRow M 5 1 (.slice a l.length c) l.length (u8s l)) (hb : Bytes l) (hl : l.length ≤ B) : El B N W (.slice a l.length c) := by
  obtain ⟨a', c', e, h1, h2, h3⟩ := bytes_of l h rfl rfl hb
  cases e
  refine ⟨a, l, c, rfl, h3, hb, h1, h2, fun _ => ?_, hl, fun b off ea _ => Or.inr (own_hasTy h b (by rw [ea]; rfl)).2⟩
  rcases h.2 with ⟨e2, _⟩ | ⟨g, c, cur, e2, _⟩
  · rw [Value.slice.injEq] at e2
    exact Or.inl e2.1
  · rw [Value.slice.injEq] at e2
    exact Or.inr ⟨g, 0, e2.1⟩
/-- Before the round: the list so far, and the two slices that are gone through. -/
structure AnyI (w1 W : World) (v : Value) (n : Nat) (xs : List Value) (G : Nat) (b1 b2 : Value) : Prop where
  b : Below w1.heap.size w1 W
  own : W.ownsRow w1.heap.size 48 1 v n xs
  el : ∀ x ∈ xs, El 4001 w1.heap.size W x
  src : W.heap[G]? = some (.cells #[b1, b2] 48)
  ne : v.ownBlock ≠ some G
  e1 : El 4000 w1.heap.size W b1
  e2 : El 4000 w1.heap.size W b2
theorem AnyI.later {w1 W W' : World} {v : Value} {n : Nat} {xs : List Value} {G : Nat} {b1 b2 : Value} (h : AnyI w1 W v n xs G b1 b2) (hb : Below W.heap.size W W') : AnyI w1 W' v n xs G b1 b2 :=
  ⟨h.b.trans (hb.mono h.b.size), own_below h.own hb, fun x hx => (h.el x hx).later hb, (hb.block G (Array.getElem?_eq_some_iff.1 h.src).1).trans h.src, h.ne, h.e1.later hb, h.e2.later hb⟩
theorem AnyI.app {w1 W W' : World} {v v' : Value} {n m : Nat} {xs ys : List Value} {G : Nat} {b1 b2 : Value} (h : AnyI w1 W v n xs G b1 b2) (hg : W.grownBy W' v.ownBlock) (ho : W'.ownsRow w1.heap.size 48 1 v' m ys) (hm : 2 < m) (hy : ∀ y ∈ ys, El 4001 w1.heap.size W y) : AnyI w1 W' v' m ys G b1 b2 := by
  have hN : ∀ k, v.ownBlock = some k → w1.heap.size ≤ k := fun k e => (own_hasTy h.own k e).1
  have hT : ∀ k, v.ownBlock = some k → HasTy W k 48 := fun k e => (own_hasTy h.own k e).2
  have hs : W'.heap[G]? = some (.cells #[b1, b2] 48) := (hg.block G (Array.getElem?_eq_some_iff.1 h.src).1 (fun e => h.ne e.symm)).trans h.src
  refine ⟨h.b.trans (grown_below hg h.own h.b.size), ho, fun y x => (hy y x).grown hg hN hT, hs, fun e => ?_, h.e1.grown hg hN hT, h.e2.grown hg hN hT⟩
  rcases ho.2 with ⟨hv, _⟩ | ⟨g', c, cur, hv, _, hg', k1, k2, k3, _⟩
  · rw [hv] at e; cases e
  · rw [hv] at e; cases e
    rw [hs] at hg'
    simp at hg'
    have := hg'
    subst this
    simp at k3
    omega
theorem turn_in2 (t : Int) {n : Int} (h : 0 < n) (h2 : n ≤ 1000000) : ∃ K : Nat, (K : Int) < n ∧ (wrap64 (t.tmod n + n)).tmod n = (K : Int) := by
  have b := turn_in t h h2
  exact ⟨((wrap64 (t.tmod n + n)).tmod n).toNat, by omega, by omega⟩
theorem atB_news {W : World} {b off : Nat} {l : List Int} (h : AtB W (some ⟨b, off, none⟩) l) : ∀ d, (some ⟨b, off, none⟩ : Option Addr) = some d → ∀ j u, (u8s l)[j]? = some u → W.cell? (d.add j) = some u := fun d e j u hu => by
  cases e
  unfold u8s at hu
  rw [List.getElem?_map] at hu
  obtain ⟨y, hy, rfl⟩ := Option.map_eq_some_iff.1 hu
  have hj := (List.getElem?_eq_some_iff.1 hy).1
  obtain ⟨b', off', e, _, hc, _⟩ := h j hj
  cases e
  have hg : l.getD j 0 = y := by rw [List.getD_eq_getElem?_getD, hy]; rfl
  rw [hg] at hc
  rw [Go.WideShapes.add_plain]; exact hc
theorem getElem_of {α : Type} {l : List α} {q : Nat} (h : q < l.length) (d : α) : l[q]? = some (l.getD q d) := by rw [List.getD_eq_getElem?_getD, List.getElem?_eq_getElem h]; rfl
theorem xor_byte {z x : Int} (hz : 0 ≤ z ∧ z ≤ 255) (hx : 0 ≤ x ∧ x ≤ 255) : 0 ≤ bits .xor .u8 z x ∧ bits .xor .u8 z x ≤ 255 := by
  rw [u8_xor z x hz.1 (by omega) hx.1 (by omega)]
  have h := Nat.xor_lt_two_pow (x := z.toNat) (y := x.toNat) (n := 8) (by omega) (by omega)
  omega
theorem u8s_set (l : List Int) (K : Nat) (y : Int) : (u8s l).set K (.int .u8 y) = u8s (l.set K y) := (List.map_set).symm
theorem Bytes.set {l : List Int} (h : Bytes l) (K : Nat) {y : Int} (hy : 0 ≤ y ∧ y ≤ 255) : Bytes (l.set K y) := fun z hz => by
  rcases List.mem_or_eq_of_mem_set hz with h1 | rfl
  · exact h z h1
  · exact hy
theorem u8s_one (l : List Int) : ∀ u ∈ u8s l, u.oneCell' = true := fun u hu => by
  unfold u8s at hu
  obtain ⟨y, _, rfl⟩ := List.mem_map.1 hu
  rfl
theorem u8s_len (l : List Int) : (u8s l).length = l.length := List.length_map _
theorem infoB : (Try.prog.info? 5).map (fun i => (i.zero, i.size, i.bytes)) = some (some (.int .u8 0), 1, 1) := by kernel_rfl
theorem infoBB : (Try.prog.info? 48).map (fun i => (i.zero, i.size, i.bytes)) = some (some (.slice none 0 0), 1, 24) := by kernel_rfl
theorem podEnc_4000 (p : PodD) : (podEnc p).length ≤ 4000 := by
  cases hb : podB p
  · rw [podEnc_no hb]; simp
  · exact (podEnc_len hb).2
theorem nodeEnc_4000 (p : NodeD) : (nodeEnc p).length ≤ 4000 := by
  cases hb : nodeB p
  · rw [nodeEnc_no hb]; simp
  · exact (nodeEnc_len hb).2
theorem El.enc {N M : Nat} {W : World} {a : Option Addr} {c : Nat} {bs : List Value} (h : W.ownsRow M 5 1 (.slice a bs.length c) bs.length bs) (hb : AllB bs) (hl : bs.length ≤ 4000) : El 4000 N W (.slice a bs.length c) := by
  have e := vI_len bs
  have h2 : W.ownsRow M 5 1 (.slice a (vI bs).length c) (vI bs).length (u8s (vI bs)) := by rw [e, ← hb.u8]; exact h
  have := El.own (B := 4000) (N := N) h2 hb.bytes (by omega)
  rw [e] at this
  exact this
theorem atB_nil (w : World) : AtB w none [] := fun i hi => absurd hi (Nat.not_lt_zero i)
theorem podAt_zero (w : World) : PodAt w zeroP zeroH :=
  ⟨⟨by decide, fun i hi => absurd hi (Nat.not_lt_zero i)⟩, fun i hi => absurd hi (Nat.not_lt_zero i), by decide, ⟨by decide, fun i hi => absurd hi (Nat.not_lt_zero i)⟩, ⟨by decide, fun i hi => absurd hi (Nat.not_lt_zero i)⟩, ⟨by decide, fun i hi => absurd hi (Nat.not_lt_zero i)⟩, ⟨by decide, fun i hi => absurd hi (Nat.not_lt_zero i)⟩⟩
theorem nodeAt_zero (w : World) : NodeAt w zeroN zeroNH := ⟨fun i hi => absurd hi (Nat.not_lt_zero i), by decide, fun i hi => absurd hi (Nat.not_lt_zero i), by decide⟩
theorem getPod_w (a : Option Addr) (l : List Int) (cap : Nat) (w : World) (hat : AtB w a l) (hc1 : l.length ≤ cap) (hc2 : cap ≤ maxLen) :
    Calls Try.prog 13 #[.slice a l.length cap] w fun e w' => ∃ q h ok, e = .returned (.tuple #[podV q h, .bool ok]) ∧ PodAt w' q h ∧ Below w.heap.size w w' ∧ (ok = true → getPodR l = some q) ∧ (ok = false → q = zeroP ∧ h = zeroH) := by
  refine (getPod_any a l cap w hat hc1 hc2).mono ?_
  rintro e w' (⟨q, h, hr, rfl, ho, hb⟩ | ⟨hr, rfl, hb⟩)
  · exact ⟨q, h, true, rfl, ho.at, hb, fun _ => hr, fun e => (by cases e)⟩
  · exact ⟨zeroP, zeroH, false, rfl, podAt_zero _, hb, fun e => (by cases e), fun _ => ⟨rfl, rfl⟩⟩
theorem getNode_w (a : Option Addr) (l : List Int) (cap : Nat) (w : World) (hat : AtB w a l) (hc1 : l.length ≤ cap) (hc2 : cap ≤ maxLen) :
    Calls Try.prog 14 #[.slice a l.length cap] w fun e w' => ∃ q h ok, e = .returned (.tuple #[nodeV q h, .bool ok]) ∧ NodeAt w' q h ∧ Below w.heap.size w w' ∧ (ok = true → getNodeR l = some q) ∧ (ok = false → q = zeroN ∧ h = zeroNH) := by
  refine (getNode_any a l cap w hat hc1 hc2).mono ?_
  rintro e w' (⟨q, h, hr, rfl, ho, hb⟩ | ⟨hr, rfl, hb⟩)
  · exact ⟨q, h, true, rfl, ho.at, hb, fun _ => hr, fun e => (by cases e)⟩
  · exact ⟨zeroN, zeroNH, false, rfl, nodeAt_zero _, hb, fun e => (by cases e), fun _ => ⟨rfl, rfl⟩⟩
theorem getLease_w (a : Option Addr) (l : List Int) (cap : Nat) (w : World) (hat : AtB w a l) (hc1 : l.length ≤ cap) (hc2 : cap ≤ maxLen) :
    Calls Try.prog 15 #[.slice a l.length cap] w fun e w' => ∃ x y ok, e = .returned (.tuple #[leaseV x y, .bool ok]) ∧ Below w.heap.size w w' ∧ (ok = true → getLeaseR l = some (x, y)) ∧ (ok = false → x = 0 ∧ y = 0) := by
  refine (getLease_any a l cap w hat hc1 hc2).mono ?_
  rintro e w' ⟨rfl, hb⟩
  refine ⟨_, _, _, rfl, hb, fun h => ?_, fun h => ?_⟩
  · cases hr : getLeaseR l with
    | none => rw [hr] at h; cases h
    | some r => rfl
  · cases hr : getLeaseR l with
    | none => exact ⟨rfl, rfl⟩
    | some r => rw [hr] at h; cases h
theorem putPod_w {q : PodD} {h : PodH} {l : List Int} {W : World} (hp : PodAt W q h) (hb : Bytes l) (hr : getPodR l = some q) :
    Calls Try.prog 11 #[podV q h] W fun e w' => ∃ a c, e = .returned (.slice a l.length c) ∧ AtB w' a l ∧ PlainA a ∧ Below W.heap.size W w' := by
  obtain ⟨h1, h2, h3⟩ := pod_inv hb hr
  refine (putPod_any q h W hp h2).mono ?_
  rintro e w' ⟨v, rfl, ho, hbel⟩
  obtain ⟨a, c, rfl, _, _, hat, hpl⟩ := own_bytes ho (allB_pod q)
  have he : podEnc q = podBytes q := by unfold podEnc; rw [h1]; rfl
  rw [he] at hat ⊢
  rw [← h3] at hat
  have hl : (podBytes q).length = l.length := by rw [h3, vI_len]
  exact ⟨a, c, by rw [hl], hat, hpl, hbel⟩
theorem putNode_w {q : NodeD} {h : NodeH} {l : List Int} {W : World} (hp : NodeAt W q h) (hb : Bytes l) (hr : getNodeR l = some q) :
    Calls Try.prog 12 #[nodeV q h] W fun e w' => ∃ a c, e = .returned (.slice a l.length c) ∧ AtB w' a l ∧ PlainA a ∧ Below W.heap.size W w' := by
  obtain ⟨h1, h3⟩ := node_inv hb hr
  refine (putNode_any q h W hp).mono ?_
  rintro e w' ⟨v, rfl, ho, hbel⟩
  obtain ⟨a, c, rfl, _, _, hat, hpl⟩ := own_bytes ho (allB_node q)
  have he : nodeEnc q = nodeBytes q := by unfold nodeEnc; rw [h1]; rfl
  rw [he] at hat ⊢
  rw [← h3] at hat
  have hl : (nodeBytes q).length = l.length := by rw [h3, vI_len]
  exact ⟨a, c, by rw [hl], hat, hpl, hbel⟩
theorem allB_lease (x y : Int) : AllB (leaseEnc x y) := by
  unfold leaseEnc
  split
  · exact ((allB_word _).app (allB_word _)).app (allB_word _)
  · intro v hv; simp at hv
theorem putLease_w {x y : Int} {l : List Int} {W : World} (hb : Bytes l) (hr : getLeaseR l = some (x, y)) :
    Calls Try.prog 19 #[leaseV x y] W fun e w' => ∃ a c, e = .returned (.slice a l.length c) ∧ AtB w' a l ∧ PlainA a ∧ Below W.heap.size W w' := by
  obtain ⟨h1, h3⟩ := lease_inv hb hr
  refine (putLease_any x y W).mono ?_
  rintro e w' ⟨v, rfl, ho, hbel⟩
  obtain ⟨a, c, rfl, _, _, hat, hpl⟩ := own_bytes ho (allB_lease x y)
  have he : leaseEnc x y = wbytes 3 ++ wbytes x.toNat ++ wbytes y.toNat := by unfold leaseEnc; rw [h1]; rfl
  rw [he] at hat ⊢
  rw [← h3] at hat
  have hl : (wbytes 3 ++ wbytes x.toNat ++ wbytes y.toNat).length = l.length := by rw [h3, vI_len]
  exact ⟨a, c, by rw [hl], hat, hpl, hbel⟩
theorem first8 {k : Nat} {X : List Value} {l : List Int} (h : l = vI (wbytes k ++ X)) : l.take 8 = vI (wbytes k) := by
  rw [h, vI_app, vI_word]; rfl
theorem pod_first {q : PodD} {l : List Int} (h : l = vI (podBytes q)) : l.take 8 = vI (wbytes 1) := first8 (k := 1) (X := _) (by rw [h]; unfold podBytes; simp only [List.append_assoc]; rfl)
theorem node_first {q : NodeD} {l : List Int} (h : l = vI (nodeBytes q)) : l.take 8 = vI (wbytes 2) := first8 (k := 2) (X := _) (by rw [h]; unfold nodeBytes; simp only [List.append_assoc]; rfl)
theorem lease_first {x y : Int} {l : List Int} (h : l = vI (wbytes 3 ++ wbytes x.toNat ++ wbytes y.toNat)) : l.take 8 = vI (wbytes 3) := first8 (k := 3) (X := _) (by rw [h, List.append_assoc])
theorem pos_first {l : List Int} {k : Nat} (h : l.take 8 = vI (wbytes k)) : 0 < l.length := by
  rcases Nat.eq_zero_or_pos l.length with e | e
  · rw [List.eq_nil_of_length_eq_zero e, vI_word] at h
    simp at h
  · exact e
theorem one_kind {l : List Int} (hb : Bytes l) {q : PodD} {m : NodeD} {x y : Int} {o1 o2 o3 : Bool} (h1 : o1 = true → getPodR l = some q) (h2 : o2 = true → getNodeR l = some m) (h3 : o3 = true → getLeaseR l = some (x, y)) :
    (o1 = false ∧ o2 = false ∧ o3 = false) ∨ (o1 = true ∧ o2 = false ∧ o3 = false) ∨ (o1 = false ∧ o2 = true ∧ o3 = false) ∨ (o1 = false ∧ o2 = false ∧ o3 = true) := by
  have n12 : vI (wbytes 1) ≠ vI (wbytes 2) := by decide
  have n13 : vI (wbytes 1) ≠ vI (wbytes 3) := by decide
  have n23 : vI (wbytes 2) ≠ vI (wbytes 3) := by decide
  cases o1 <;> cases o2 <;> cases o3 <;> simp
  · exact n23 ((node_first (node_inv hb (h2 rfl)).2).symm.trans (lease_first (lease_inv hb (h3 rfl)).2))
  · exact n13 ((pod_first (pod_inv hb (h1 rfl)).2.2).symm.trans (lease_first (lease_inv hb (h3 rfl)).2))
  · exact n12 ((pod_first (pod_inv hb (h1 rfl)).2.2).symm.trans (node_first (node_inv hb (h2 rfl)).2))
  · exact n12 ((pod_first (pod_inv hb (h1 rfl)).2.2).symm.trans (node_first (node_inv hb (h2 rfl)).2))
/-- What was read of the bytes, each in a block of its own. -/
structure Tri (W0 W : World) (P N L : Nat) (q : PodD) (hq : PodH) (m : NodeD) (hm : NodeH) (x y : Int) (a : Option Addr) (l : List Int) : Prop where
  b : Below W0.heap.size W0 W
  p : W.heap[P]? = some (.cells (podC q hq) 29)
  n : W.heap[N]? = some (.cells (nodeC m hm) 32)
  le : W.heap[L]? = some (.cells #[.int .i64 x, .int .i64 y] 57)
  qa : PodAt W q hq
  ma : NodeAt W m hm
  at' : AtB W a l
theorem Tri.later {W0 W W' : World} {P N L : Nat} {q : PodD} {hq : PodH} {m : NodeD} {hm : NodeH} {x y : Int} {a : Option Addr} {l : List Int} (h : Tri W0 W P N L q hq m hm x y a l) (hb : Below W.heap.size W W') : Tri W0 W' P N L q hq m hm x y a l :=
  ⟨h.b.trans (hb.mono h.b.size), (hb.block P (Array.getElem?_eq_some_iff.1 h.p).1).trans h.p, (hb.block N (Array.getElem?_eq_some_iff.1 h.n).1).trans h.n, (hb.block L (Array.getElem?_eq_some_iff.1 h.le).1).trans h.le, h.qa.below hb, h.ma.below hb, h.at'.below hb⟩
set_option maxRecDepth 100000 in
set_option maxHeartbeats 4000000 in
theorem codeAny_walk (ra : Option Addr) (rl : List Int) (rc : Nat) (p : PodD) (h : PodH) (n : NodeD) (g : NodeH) (t x : Int) (w : World) (hra : AtB w ra rl) (hrb : Bytes rl) (hrc : rl.length ≤ rc ∧ rc ≤ maxLen) (hp : PodAt w p h) (hn : NodeAt w n g) (ht : Hid (p.term < 9223372036854775808)) (hx : 0 ≤ x ∧ x ≤ 255) :
    Calls Try.prog 4 #[.slice ra rl.length rc, podV p h, nodeV n g, .int .i64 t, .int .u8 x] w fun e w' => e = .returned (.bool true) ∧ Below w.heap.size w w' := by
  have HB0 : Hid (Below w.heap.size w ((w.alloc (podBox p h)).alloc (nodeBox n g))) := ((Below.refl _ _).alloc (Nat.le_refl _) _).alloc (by simp) _
  go_enter Try.func4, Try.ntmps4
  go_wp2_with fail
  refine (begun_any _).mono ?_
  rintro e w1 ⟨rfl, hb1⟩
  have hA : ∀ o, w1.cell? ⟨w.heap.size, o, none⟩ = (podC p h)[o]? := fun o => (hb1.cell (p := ⟨w.heap.size, o, none⟩) (by simp <;> omega)).trans (by rw [cell_of_obj (heap_allocC w _ _)])
  have hB : ∀ o, w1.cell? ⟨w.heap.size + 1, o, none⟩ = (nodeC n g)[o]? := fun o => (hb1.cell (p := ⟨w.heap.size + 1, o, none⟩) (by simp)).trans (by rw [cell_of_obj (heap_allocD w _ _)])
  have hz1 : w.heap.size + 1 < w1.heap.size := by have := hb1.size; simp at this; omega
  have hbw1 : Below w.heap.size w w1 := HB0.out.trans (hb1.mono HB0.out.size)
  have hp1 := hp.below hbw1
  have hn1 := hn.below hbw1
  have hr1 := hra.below hbw1
  clear hb1 HB0 hp hn hra
  have r1 := hrc.1
  have r2 := hrc.2
  unfold maxLen at r2
  go_upto_region 5 with fail
  have hM : (min (rl.length : Int) 60).toNat = (rl.take 60).length := by
    rw [List.length_take]; omega
  rw [hM]
  have hel0 : El 4001 w1.heap.size w1 (.slice ra (rl.take 60).length rc) := ⟨ra, rl.take 60, rc, rfl, hr1.take 60, hrb.take 60, by rw [List.length_take]; omega, hrc.2, fun hl => by obtain ⟨b, off, e, _⟩ := (hr1.take 60) 0 hl; exact Or.inr ⟨b, off, e⟩, by rw [List.length_take]; omega, fun b off ea hl => Or.inl (hr1.lt ea (by rw [List.length_take] at hl; omega))⟩
  generalize (rl.take 60).length = M at hel0
  clear hM hrb hrc r1 r2 hr1
  go_cut [12] from 25 (fun v W => v = .slice (some ⟨w1.heap.size, 0, none⟩) 1 1 ∧ W = w1.alloc (.cells #[.slice ra M rc] 48))
  case first J K' hJ hK' =>
    go_wp2
    go_meet
    case rel => exact ⟨rfl, rfl⟩
  case rest =>
    obtain ⟨rfl, rfl⟩ := hcut
    go_step
    go_step
    go_cut [12] from 25 (fun v W => ∃ n xs, n ≤ 7 ∧ W.ownsRow w1.heap.size 48 1 v n xs ∧ (∀ y ∈ xs, El 4001 w1.heap.size W y) ∧ Below w1.heap.size w1 W)
    case first J K' hJ hK' =>
     as_aux_lemma =>
      have hba : Below w1.heap.size w1 (w1.alloc (.cells #[.slice ra M rc] 48)) := (Below.refl _ _).alloc (Nat.le_refl _) _
      have own0 : (w1.alloc (.cells #[.slice ra M rc] 48)).ownsRow w1.heap.size 48 1 (.slice (some ⟨w1.heap.size, 0, none⟩) 1 1) 1 [.slice ra M rc] :=
        ⟨rfl, Or.inr ⟨w1.heap.size, 1, #[.slice ra M rc], rfl, Nat.le_refl _, heap_alloc_self _ _, Nat.le_refl _, by unfold maxLen; omega, rfl, rfl⟩⟩
      have hA0 : ∀ o, (w1.alloc (.cells #[.slice ra M rc] 48)).cell? ⟨w.heap.size, o, none⟩ = (podC p h)[o]? := fun o => (hba.cell (p := ⟨w.heap.size, o, none⟩) (Nat.lt_of_succ_lt hz1)).trans (hA o)
      have hB0 : ∀ o, (w1.alloc (.cells #[.slice ra M rc] 48)).cell? ⟨w.heap.size + 1, o, none⟩ = (nodeC n g)[o]? := fun o => (hba.cell (p := ⟨w.heap.size + 1, o, none⟩) hz1).trans (hB o)
      have hz0 : w.heap.size + 1 < (w1.alloc (.cells #[.slice ra M rc] 48)).heap.size := Nat.lt_of_lt_of_le hz1 hba.size
      have hp0 := hp1.below hba
      have hn0 := hn1.below hba
      have hel1 := hel0.later hba
      have szA : (w1.alloc (.cells #[.slice ra M rc] 48)).heap.size = w1.heap.size + 1 := by simp
      clear hA hB hp1 hn1 hel0
      go_upto_region 6 with fail
      generalize w1.alloc (.cells #[.slice ra M rc] 48) = wA at *
      have hbd : Below wA.heap.size wA wA.drew := (Below.refl _ _).drew
      have A1 : ∀ W : World, (Below wA.heap.size wA W ∧ (∀ o, W.cell? ⟨w.heap.size, o, none⟩ = (podC p h)[o]?) ∧ (∀ o, W.cell? ⟨w.heap.size + 1, o, none⟩ = (nodeC n g)[o]?)) → Calls Try.prog 11 #[podV p h] W (EncPost W (podEnc p)) := fun W hS => putPod_any p h W (hp0.below hS.1) ht
      have A2 : ∀ W : World, (Below wA.heap.size wA W ∧ (∀ o, W.cell? ⟨w.heap.size, o, none⟩ = (podC p h)[o]?) ∧ (∀ o, W.cell? ⟨w.heap.size + 1, o, none⟩ = (nodeC n g)[o]?)) → Calls Try.prog 12 #[nodeV n g] W (EncPost W (nodeEnc n)) := fun W hS => putNode_any n g W (hn0.below hS.1)
      have HA1 := Lib.hid A1
      have HA2 := Lib.hid A2
      have HE := Lib.hid (And.intro own0 (And.intro hel1 (And.intro szA hba)))
      clear A1 A2 hp0 hn0 own0 hel1 szA hba ht
      go_region_held_law (fun W => Below wA.heap.size wA W ∧ (∀ o, W.cell? ⟨w.heap.size, o, none⟩ = (podC p h)[o]?) ∧ (∀ o, W.cell? ⟨w.heap.size + 1, o, none⟩ = (nodeC n g)[o]?))
        (first | exact hS3 | exact hS2 | exact ⟨hbd, hA0, hB0⟩ | exact two_later (by assumption) ((Below.refl _ _).alloc (Nat.le_refl _) _) (Nat.lt_of_succ_lt hz0) hz0 | go_keep)
        (first
          | (go_at_call 11
             refine Calls.mono (HA1.out _ (by assumption)) ?_
             rintro e w2 ⟨v2, rfl, ho2, hb2⟩
             obtain ⟨a2, c2, rfl, l2, m2, q2, pl2⟩ := own_bytes ho2 (allB_pod p)
             have hS2 := two_later (by assumption) hb2 (Nat.lt_of_succ_lt hz0) hz0)
          | (go_at_call 12
             refine Calls.mono (HA2.out _ (by assumption)) ?_
             rintro e w3 ⟨v3, rfl, ho3, hb3⟩
             obtain ⟨a3, c3, rfl, l3, m3, q3, pl3⟩ := own_bytes ho3 (allB_node n)
             have hS3 := two_later (by assumption) hb3 (Nat.lt_of_succ_lt hz0) hz0))
      have hb3' : Below w3.heap.size w3 (w3.alloc (.cells #[.slice a2 (podEnc p).length c2, .slice a3 (nodeEnc n).length c3] 48)) := (Below.refl _ _).alloc (Nat.le_refl _) _
      have hI : AnyI w1 (w3.alloc (.cells #[.slice a2 (podEnc p).length c2, .slice a3 (nodeEnc n).length c3] 48)) (.slice (some ⟨w1.heap.size, 0, none⟩) 1 1) 1 [.slice ra M rc] w3.heap.size (.slice a2 (podEnc p).length c2) (.slice a3 (nodeEnc n).length c3) :=
        { b := (HE.out.2.2.2.trans (hS3.1.mono HE.out.2.2.2.size)).alloc (by have := hS3.1.size; have := HE.out.2.2.2.size; omega) _
          own := own_below (own_below HE.out.1 hS3.1) hb3'
          el := fun y hy => by rw [List.mem_singleton] at hy; subst hy; exact (HE.out.2.1.later hS3.1).later hb3'
          src := heap_alloc_self _ _
          ne := fun e => by have h3 := hS3.1.size; have h4 := HE.out.2.2.1; have h5 : w1.heap.size = w3.heap.size := Option.some.inj e; omega
          e1 := ((El.enc ho2 (allB_pod p) (podEnc_4000 p)).later hb3).later hb3'
          e2 := (El.enc ho3 (allB_node n) (nodeEnc_4000 n)).later hb3' }
      have HI := Lib.hid hI
      clear hI hb3' ho2 ho3 hb2 hb3 hS2 hS3 q2 q3 pl2 pl3 l2 l3 m2 m3 HE HA1 HA2 hbd hA0 hB0 hz0
      clear ‹Below wA.heap.size wA _ ∧ _›
      generalize w3.alloc (.cells #[.slice a2 (podEnc p).length c2, .slice a3 (nodeEnc n).length c3] 48) = wB at *
      generalize Value.slice a2 (podEnc p).length c2 = b1 at *
      generalize Value.slice a3 (nodeEnc n).length c3 = b2 at *
      generalize w3.heap.size = G at *
      go_wp2_with fail
      go_loopw [12, 41] (fun v i W => ∃ j : Nat, j ≤ 2 ∧ i = .int .i64 j ∧ ∃ n xs, 1 ≤ n ∧ n ≤ 1 + 3 * j ∧ Hid (AnyI w1 W v n xs G b1 b2)) (fun _ i _ => 2 - (intOf i).toNat)
      case atStart => exact ⟨0, by omega, rfl, 1, _, by omega, by omega, HI⟩
      case round =>
        clear HI
        obtain ⟨j, hj, rfl, n', xs, hn1, hn2, HI⟩ := hrel
        by_cases hj2 : j < 2
        · obtain ⟨bv, hc, hbe⟩ : ∃ bv, wr.cell? ⟨G, j, none⟩ = some bv ∧ El 4000 w1.heap.size wr bv := by
            rcases (show j = 0 ∨ j = 1 by omega) with rfl | rfl
            · exact ⟨b1, by rw [cell_of_obj HI.out.src]; rfl, HI.out.e1⟩
            · exact ⟨b2, by rw [cell_of_obj HI.out.src]; rfl, HI.out.e2⟩
          obtain ⟨a, l, cap, rfl, hat, hby, k1, k2, hpl, k4, hty⟩ := hbe
          by_cases h0 : 0 < l.length
          · obtain ⟨b, off, rfl, _⟩ := hat 0 h0
            obtain ⟨K, hKl, eK⟩ := turn_in2 t (n := (l.length : Int)) (by omega) (by omega)
            have hK0 : K < l.length := by omega
            have k5 := k2
            unfold maxLen at k5
            obtain ⟨iX, i0, i1, i2, i3⟩ := info_parts infoB
            go_wp2_with (at_builtin; refine stand ?_)
            show wpList _ _ _ _ _ _
            refine wpList_append_opt rfl _ _ 48 rfl wr.heap.size 5 iX _ 1 1 Try.underlying48 i0 i1 i2 i3 rfl (by decide) (.slice none 0 0) 0 [] rfl (World.ownsRow_nil _ _ 5 1) (some ⟨b, off, none⟩) l.length cap (u8s l) rfl (fun h => by cases h) (by rw [u8s_len, Nat.mul_one]) (atB_news hat) (u8s_one l) (by rw [Nat.zero_add]; unfold maxLen; omega) (by omega) (Nat.le_refl _) ?_
            intro v6 w6 o6 gr6
            rw [Nat.zero_add, List.nil_append] at o6
            have hb6 := grown_below gr6 (World.ownsRow_nil _ _ 5 1) (Nat.le_refl _)
            obtain ⟨a6, c6, rfl, _, _, _⟩ := own_len o6
            obtain ⟨g6, rfl⟩ := own_some o6 h0
            have cc := o6.cellAt K (by rw [Nat.mul_one]; exact hK0)
            have hu : (u8s l)[K]? = some (.int .u8 (l.getD K 0)) := by
              unfold u8s
              rw [List.getElem?_map, getElem_of hK0 0]; rfl
            rw [hu] at cc
            have fz := o6.frozenAt K
            have hy0 := hby (l.getD K 0) (getD_mem hK0)
            generalize l.getD K 0 = z at cc hy0
            have hyb := xor_byte hy0 hx
            have hg6 := (o6.lt g6 rfl).1
            have o7 := (o6.stored K (.int .u8 (bits .xor .u8 z x))).1
            rw [u8s_set] at o7
            have hb7 : Below wr.heap.size wr (w6.setCell ⟨g6, K, none⟩ (.int .u8 (bits .xor .u8 z x))) := hb6.setCell hg6 _
            have HO7 := Lib.hid (And.intro o7 hb7)
            clear gr6 o6 hb6 hu hg6 o7 hb7
            go_wp2_with fail
            generalize w6.setCell ⟨g6, K, none⟩ (.int .u8 (bits .xor .u8 z x)) = w7 at HO7 ⊢
            generalize bits .xor .u8 z x = y at HO7 hyb
            obtain ⟨o7, hb7⟩ := HO7
            have elc : El 4001 w1.heap.size w7 (.slice (some ⟨g6, 0, none⟩) l.length c6) := by
              have e : (l.set K y).length = l.length := List.length_set
              have h2 : w7.ownsRow wr.heap.size 5 1 (.slice (some ⟨g6, 0, none⟩) (l.set K y).length c6) (l.set K y).length (u8s (l.set K y)) := by rw [e]; exact o7
              have := El.own (B := 4001) (N := w1.heap.size) h2 (hby.set K hyb) (by omega)
              rw [e] at this
              exact this
            have hat7 := hat.below hb7
            have elb : El 4001 w1.heap.size w7 (.slice (some ⟨b, off, none⟩) K cap) := by
              have e : (l.take K).length = K := by rw [List.length_take]; omega
              have := (show El 4001 w1.heap.size w7 (.slice (some ⟨b, off, none⟩) (l.take K).length cap) from ⟨_, l.take K, cap, rfl, hat7.take K, hby.take K, by omega, k2, fun _ => Or.inr ⟨b, off, rfl⟩, by omega, fun b' off' ea hl => (hty b' off' ea h0).imp id (fun q => q.later hb7)⟩)
              rw [e] at this
              exact this
            have hI7 := HI.out.later hb7
            have HN := Lib.hid (fun (X : World) (hX : Below w7.heap.size w7 X) => atB_news (hat7.below hX))
            have HI7 := Lib.hid (And.intro hI7 (And.intro elc elb))
            have HBY := Lib.hid hby
            clear o7 hb7 elc elb hI7 hat7 hat hty hpl HI cc fz hc hby hyb hy0
            obtain ⟨iY, y0, y1, y2, y3⟩ := info_parts infoBB
            have hKc : K ≤ cap := by omega
            go_region_held_law (fun _ => True) (trivial)
              (first
                | (refine step_append_opt rfl (.const (.slice none 0 0)) (.tmp 72) 48 rfl w7.heap.size 5 iX _ 1 1 Try.underlying48 i0 i1 i2 i3 rfl (by decide) (.slice none 0 0) 0 [] rfl (World.ownsRow_nil _ _ 5 1) (some ⟨b, off, none⟩) l.length cap (u8s l) rfl (fun h => by cases h) (by rw [u8s_len, Nat.mul_one]) (by with_reducible exact HN.out w7.drew ((Below.refl _ _).drew)) (u8s_one l) (by rw [Nat.zero_add]; unfold maxLen; omega) (by omega) (by simp) ?_
                   intro v8 w8 o8 gr8
                   rw [Nat.zero_add, List.nil_append] at o8
                   have hb8 : Below w7.heap.size w7 w8 := ((Below.refl _ _).drew).trans (grown_below gr8 (World.ownsRow_nil _ _ 5 1) (Nat.le_refl _))
                   obtain ⟨a8, c8, rfl, _, _, _⟩ := own_len o8
                   obtain ⟨g8, rfl⟩ := own_some o8 h0
                   clear gr8)
                | (refine step_append_opt rfl (.const (.slice none 0 0)) (.tmp 72) 48 rfl w7.heap.size 5 iX _ 1 1 Try.underlying48 i0 i1 i2 i3 rfl (by decide) (.slice none 0 0) 0 [] rfl (World.ownsRow_nil _ _ 5 1) (some ⟨b, off, none⟩) l.length cap (u8s l) rfl (fun h => by cases h) (by rw [u8s_len, Nat.mul_one]) (by with_reducible exact HN.out ((w7.alloc (.cells #[.int .u8 x] 5)).drew) (((Below.refl _ _).alloc (Nat.le_refl _) _).drew)) (u8s_one l) (by rw [Nat.zero_add]; unfold maxLen; omega) (by omega) (by simp) ?_
                   intro v8 w8 o8 gr8
                   rw [Nat.zero_add, List.nil_append] at o8
                   have hxk : w8.heap[w7.heap.size]? = some (.cells #[.int .u8 x] 5) := grown_kept gr8 _ _ (heap_alloc_self w7 _)
                   have hb8 : Below w7.heap.size w7 w8 := (((Below.refl _ _).alloc (Nat.le_refl _) _).drew).trans (grown_below gr8 (World.ownsRow_nil _ _ 5 1) (by simp))
                   obtain ⟨a8, c8, rfl, _, _, _⟩ := own_len o8
                   obtain ⟨g8, rfl⟩ := own_some o8 h0
                   clear gr8)
                | (refine step_append_opt rfl (.tmp 73) (.tmp 75) 48 rfl w7.heap.size 5 iX _ 1 1 Try.underlying48 i0 i1 i2 i3 rfl (by decide) (.slice (some ⟨g8, 0, none⟩) l.length c8) l.length (u8s l) rfl (by with_reducible exact o8) (some ⟨w7.heap.size, 0, none⟩) 1 1 [.int .u8 x] rfl (fun h => by cases h) rfl (fun d e j u hu => by cases e; rw [Go.WideShapes.add_plain, cell_of_obj hxk, Nat.zero_add]; simpa using hu) (by simp [Value.oneCell']) (by unfold maxLen; omega) (by omega) (by with_reducible exact hb8.size) ?_
                   intro v9 w9 o9 gr9
                   have hb9 : Below w7.heap.size w7 w9 := hb8.trans (grown_below gr9 o8 hb8.size)
                   obtain ⟨a9, c9, rfl, _, _, _⟩ := own_len o9
                   clear gr9)
                | (refine step_append_opt rfl (.tmp 73) (.tmp 75) 48 rfl w7.heap.size 5 iX _ 1 1 Try.underlying48 i0 i1 i2 i3 rfl (by decide) (.slice (some ⟨g8, 0, none⟩) l.length c8) l.length (u8s l) rfl (by with_reducible exact o8.alloc _) (some ⟨w8.heap.size, 0, none⟩) 1 1 (#[.int .u8 x] : Array Value).toList rfl (fun h => by cases h) rfl (fun d e => by cases e; exact new_cells w8 _ _) (by simp [Value.oneCell']) (by unfold maxLen; omega) (by omega) (by have := hb8.size; simp; omega) ?_
                   intro v9 w9 o9 gr9
                   have hb9 : Below w7.heap.size w7 w9 := (hb8.alloc hb8.size _).trans (grown_below gr9 (o8.alloc _) (by have := hb8.size; simp; omega))
                   obtain ⟨a9, c9, rfl, _, _, _⟩ := own_len o9
                   clear gr9)
                | (refine step_append_opt rfl (.tmp 67) (.tmp 77) 49 rfl w1.heap.size 48 iY _ 1 24 Try.underlying49 y0 y1 y2 y3 rfl (by decide) u12 n' xs rfl (by with_reducible exact own_below (own_below HI7.out.1.own hb9) ((Below.refl _ _).alloc (Nat.le_refl _) _)) (some ⟨w9.heap.size, 0, none⟩) 3 3 (#[.slice (some ⟨g6, 0, none⟩) l.length c6, .slice (some ⟨b, off, none⟩) K cap, .slice a9 (l.length + 1) c9] : Array Value).toList rfl (fun h => by cases h) rfl (fun d e => by cases e; exact new_cells w9 _ _) (by simp [Value.oneCell']) (by unfold maxLen; omega) (by omega) (by have := HI7.out.1.b.size; have := hb9.size; simp; omega) ?_
                   intro v10 w10 o10 gr10))
            all_goals
              have eld : El 4001 w1.heap.size w9 (.slice a9 (l.length + 1) c9) := by
                have e : (l ++ [x]).length = l.length + 1 := by simp
                have h2 : w9.ownsRow w7.heap.size 5 1 (.slice a9 (l ++ [x]).length c9) (l ++ [x]).length (u8s (l ++ [x])) := by
                  rw [e]; unfold u8s at *; rw [List.map_append]; exact o9
                have := El.own (B := 4001) (N := w1.heap.size) h2 (fun z hz => (List.mem_append.1 hz).elim (HBY.out z) (fun h => by rw [List.mem_singleton] at h; subst h; exact hx)) (by rw [e]; omega)
                rw [e] at this
                exact this
              have hz9 : Below w9.heap.size w9 (w9.alloc (.cells #[.slice (some ⟨g6, 0, none⟩) l.length c6, .slice (some ⟨b, off, none⟩) K cap, .slice a9 (l.length + 1) c9] 48)) := (Below.refl _ _).alloc (Nat.le_refl _) _
              have HIZ := (HI7.out.1.later hb9).later hz9
              have HI10 := Lib.hid (HIZ.app gr10 o10 (by omega) (fun y hy => by
                rcases List.mem_append.1 hy with h1 | h1
                · exact HIZ.el y h1
                · simp only [List.mem_cons, List.not_mem_nil, or_false] at h1
                  rcases h1 with rfl | rfl | rfl
                  · exact (HI7.out.2.1.later hb9).later hz9
                  · exact (HI7.out.2.2.later hb9).later hz9
                  · exact eld.later hz9))
              clear eld hz9 HIZ gr10 o10 o9 hb9 o8 hb8 HN HI7 HBY
              go_wp2_with fail
              go_roundw
              case rel => exact ⟨j + 1, by omega, by go_num, n' + 3, _, by omega, by omega, HI10⟩
              case measure => simp [intOf]; omega
          · go_wp2_with fail
            go_roundw
            case rel => exact ⟨j + 1, by omega, by go_num, n', xs, hn1, by omega, HI⟩
            case measure => simp [intOf]; omega
        · go_wp2
          go_meet
          case rel => exact ⟨n', xs, by omega, HI.out.own, HI.out.el, HI.out.b⟩
    case rest =>
      obtain ⟨n2, xs, hn7, hown, hel, hb⟩ := hcut
      clear hA hB hp1 hn1 ht hel0 hx
      obtain ⟨av, cv, rfl, _, _, _⟩ := own_len hown
      go_step
      go_step
      go_cut [] from 25 (fun W => Below w1.heap.size w1 W)
      case first J K' hJ hK' =>
       as_aux_lemma =>
        have HO := Lib.hid (And.intro hown (And.intro hel hb))
        clear hown hel hb
        go_wp2_with fail
        go_loopw [82] (fun i W => ∃ j : Nat, j ≤ n2 ∧ i = .int .i64 j ∧ Hid (W.ownsRow w1.heap.size 48 1 (.slice av n2 cv) n2 xs ∧ (∀ y ∈ xs, El 4001 w1.heap.size W y) ∧ Below w1.heap.size w1 W)) (fun i _ => n2 - (intOf i).toNat)
        case atStart => exact ⟨0, by omega, rfl, HO⟩
        case round =>
          clear HO
          obtain ⟨j, hj, rfl, HO⟩ := hrel
          by_cases hj2 : j < n2
          · obtain ⟨gv, rfl⟩ := own_some HO.out.1 (by omega)
            have cc := HO.out.1.cellAt j (by omega)
            have hxl : xs.length = n2 := by have := HO.out.1.1; omega
            rw [List.getElem?_eq_getElem (by omega)] at cc
            obtain ⟨a, l, cap, hbv, hat, hby, k1, k2, hpl, k4, hty⟩ := HO.out.2.1 (xs[j]'(by omega)) (List.getElem_mem _)
            rw [hbv] at cc
            clear hty hbv hxl
            go_wp2_with fail
            refine Calls.mono (getPod_w a l cap _ hat k1 k2) ?_
            rintro e w4 ⟨q, hq, ok1, rfl, qa, hb4, r1, z1⟩
            go_upto_region 19 with fail
            have kP5 := heap_alloc_self w4 (.cells (podC q hq) 29)
            have hb5 : Below w4.heap.size w4 (w4.alloc (.cells (podC q hq) 29)) := (Below.refl _ _).alloc (Nat.le_refl _) _
            generalize w4.alloc (.cells (podC q hq) 29) = w5 at kP5 hb5 ⊢
            have hr5 : Below wr.heap.size wr w5 := hb4.trans (hb5.mono hb4.size)
            have qa5 := qa.below hb5
            have hat5 := hat.below hr5
            generalize w4.heap.size = P at *
            clear hb4 hb5 qa hat cc
            go_wp2_with fail
            refine Calls.mono (getNode_w a l cap _ hat5 k1 k2) ?_
            rintro e w6 ⟨m, hm, ok2, rfl, ma, hb6, r2, z2⟩
            go_upto_region 20 with fail
            have kN7 := heap_alloc_self w6 (.cells (nodeC m hm) 32)
            have hb7 : Below w6.heap.size w6 (w6.alloc (.cells (nodeC m hm) 32)) := (Below.refl _ _).alloc (Nat.le_refl _) _
            generalize w6.alloc (.cells (nodeC m hm) 32) = w7 at kN7 hb7 ⊢
            have hb57 : Below w5.heap.size w5 w7 := hb6.trans (hb7.mono hb6.size)
            have hr7 : Below wr.heap.size wr w7 := hr5.trans (hb57.mono hr5.size)
            have kP7 := (hb57.block P (Array.getElem?_eq_some_iff.1 kP5).1).trans kP5
            have qa7 := qa5.below hb57
            have ma7 := ma.below hb7
            have hat7 := hat5.below hb57
            generalize w6.heap.size = N at *
            clear hb6 hb7 hb57 hr5 kP5 qa5 ma hat5
            go_wp2_with fail
            refine Calls.mono (getLease_w a l cap _ hat7 k1 k2) ?_
            rintro e w8 ⟨x', y', ok3, rfl, hb8, r3, z3⟩
            go_upto_region 21 with fail
            have kL9 := heap_alloc_self w8 (.cells #[.int .i64 x', .int .i64 y'] 57)
            have hb9 : Below w8.heap.size w8 (w8.alloc (.cells #[.int .i64 x', .int .i64 y'] 57)) := (Below.refl _ _).alloc (Nat.le_refl _) _
            generalize w8.alloc (.cells #[.int .i64 x', .int .i64 y'] 57) = w9 at kL9 hb9 ⊢
            have hb79 : Below w7.heap.size w7 w9 := hb8.trans (hb9.mono hb8.size)
            have T9 := Lib.hid (show Tri wr w9 P N w8.heap.size q hq m hm x' y' a l from ⟨hr7.trans (hb79.mono hr7.size), (hb79.block P (Array.getElem?_eq_some_iff.1 kP7).1).trans kP7, (hb79.block N (Array.getElem?_eq_some_iff.1 kN7).1).trans kN7, kL9, qa7.below hb79, ma7.below hb79, hat7.below hb79⟩)
            generalize w8.heap.size = L at *
            clear hb8 hb9 hb79 hr7 kP7 kN7 kL9 qa7 ma7 hat7
            have cP := fun o => cell_of_obj T9.out.p o
            have cN := fun o => cell_of_obj T9.out.n o
            have cL := fun o => cell_of_obj T9.out.le o
            rcases one_kind hby r1 r2 r3 with ⟨rfl, rfl, rfl⟩ | ⟨rfl, rfl, rfl⟩ | ⟨rfl, rfl, rfl⟩ | ⟨rfl, rfl, rfl⟩
            · as_aux_lemma =>
                obtain ⟨rfl, rfl⟩ := z1 rfl
                obtain ⟨rfl, rfl⟩ := z2 rfl
                obtain ⟨rfl, rfl⟩ := z3 rfl
                clear r1 r2 r3 z1 z2 z3
                go_wp2_with fail
                refine Calls.mono (refPod_same zeroP zeroH zeroH _ T9.out.qa (podAt_zero _)) ?_
                rintro e w10 ⟨rfl, hb10⟩
                have T10 := Lib.hid (T9.out.later hb10)
                clear cP cN cL T9 hb10
                have cP := fun o => cell_of_obj T10.out.p o
                have cN := fun o => cell_of_obj T10.out.n o
                have cL := fun o => cell_of_obj T10.out.le o
                go_wp2_with fail
                refine Calls.mono (refNode_same zeroN zeroNH zeroNH _ T10.out.ma (nodeAt_zero _)) ?_
                rintro e w11 ⟨rfl, hb11⟩
                have T11 := Lib.hid (T10.out.later hb11)
                clear cP cN cL T10 hb11
                have cP := fun o => cell_of_obj T11.out.p o
                have cN := fun o => cell_of_obj T11.out.n o
                have cL := fun o => cell_of_obj T11.out.le o
                go_wp2_with fail
                have hfin := T11.out.b
                clear cP cN cL T11
                go_roundw
                case rel => exact ⟨j + 1, by omega, by go_num, own_below HO.out.1 hfin, fun y hy => (HO.out.2.1 y hy).later hfin, HO.out.2.2.trans (hfin.mono HO.out.2.2.size)⟩
                case measure => simp [intOf]; omega
            · as_aux_lemma =>
                obtain ⟨rfl, rfl⟩ := z2 rfl
                obtain ⟨rfl, rfl⟩ := z3 rfl
                have g1 := r1 rfl
                have h0 := pos_first (pod_first (pod_inv hby g1).2.2)
                clear r1 r2 r3 z1 z2 z3
                go_wp2_with fail
                refine Calls.mono (putPod_w T9.out.qa hby g1) ?_
                rintro e w10 ⟨a', c', rfl, at2, pl2, hb10⟩
                have T10 := Lib.hid (T9.out.later hb10)
                clear cP cN cL T9 hb10
                have cP := fun o => cell_of_obj T10.out.p o
                have cN := fun o => cell_of_obj T10.out.n o
                have cL := fun o => cell_of_obj T10.out.le o
                go_wp2_with fail
                refine Calls.mono (bytes_same a' a l l.length l.length c' cap _ rfl rfl pl2 (hpl h0) at2 T10.out.at') ?_
                rintro e w' ⟨rfl, rfl⟩
                go_wp2_with fail
                refine Calls.mono (refNode_same zeroN zeroNH zeroNH _ T10.out.ma (nodeAt_zero _)) ?_
                rintro e w11 ⟨rfl, hb11⟩
                have T11 := Lib.hid (T10.out.later hb11)
                clear cP cN cL T10 hb11
                have cP := fun o => cell_of_obj T11.out.p o
                have cN := fun o => cell_of_obj T11.out.n o
                have cL := fun o => cell_of_obj T11.out.le o
                go_wp2_with fail
                have hfin := T11.out.b
                clear cP cN cL T11
                go_roundw
                case rel => exact ⟨j + 1, by omega, by go_num, own_below HO.out.1 hfin, fun y hy => (HO.out.2.1 y hy).later hfin, HO.out.2.2.trans (hfin.mono HO.out.2.2.size)⟩
                case measure => simp [intOf]; omega
            · as_aux_lemma =>
                obtain ⟨rfl, rfl⟩ := z1 rfl
                obtain ⟨rfl, rfl⟩ := z3 rfl
                have g2 := r2 rfl
                have h0 := pos_first (node_first (node_inv hby g2).2)
                clear r1 r2 r3 z1 z2 z3
                go_wp2_with fail
                refine Calls.mono (refPod_same zeroP zeroH zeroH _ T9.out.qa (podAt_zero _)) ?_
                rintro e w10 ⟨rfl, hb10⟩
                have T10 := Lib.hid (T9.out.later hb10)
                clear cP cN cL T9 hb10
                have cP := fun o => cell_of_obj T10.out.p o
                have cN := fun o => cell_of_obj T10.out.n o
                have cL := fun o => cell_of_obj T10.out.le o
                go_wp2_with fail
                refine Calls.mono (putNode_w T10.out.ma hby g2) ?_
                rintro e w11 ⟨a', c', rfl, at2, pl2, hb11⟩
                have T11 := Lib.hid (T10.out.later hb11)
                clear cP cN cL T10 hb11
                have cP := fun o => cell_of_obj T11.out.p o
                have cN := fun o => cell_of_obj T11.out.n o
                have cL := fun o => cell_of_obj T11.out.le o
                go_wp2_with fail
                refine Calls.mono (bytes_same a' a l l.length l.length c' cap _ rfl rfl pl2 (hpl h0) at2 T11.out.at') ?_
                rintro e w' ⟨rfl, rfl⟩
                go_wp2_with fail
                have hfin := T11.out.b
                clear cP cN cL T11
                go_roundw
                case rel => exact ⟨j + 1, by omega, by go_num, own_below HO.out.1 hfin, fun y hy => (HO.out.2.1 y hy).later hfin, HO.out.2.2.trans (hfin.mono HO.out.2.2.size)⟩
                case measure => simp [intOf]; omega
            · as_aux_lemma =>
                obtain ⟨rfl, rfl⟩ := z1 rfl
                obtain ⟨rfl, rfl⟩ := z2 rfl
                have g3 := r3 rfl
                have h0 := pos_first (lease_first (lease_inv hby g3).2)
                clear r1 r2 r3 z1 z2 z3
                go_wp2_with fail
                refine Calls.mono (refPod_same zeroP zeroH zeroH _ T9.out.qa (podAt_zero _)) ?_
                rintro e w10 ⟨rfl, hb10⟩
                have T10 := Lib.hid (T9.out.later hb10)
                clear cP cN cL T9 hb10
                have cP := fun o => cell_of_obj T10.out.p o
                have cN := fun o => cell_of_obj T10.out.n o
                have cL := fun o => cell_of_obj T10.out.le o
                go_wp2_with fail
                refine Calls.mono (refNode_same zeroN zeroNH zeroNH _ T10.out.ma (nodeAt_zero _)) ?_
                rintro e w11 ⟨rfl, hb11⟩
                have T11 := Lib.hid (T10.out.later hb11)
                clear cP cN cL T10 hb11
                have cP := fun o => cell_of_obj T11.out.p o
                have cN := fun o => cell_of_obj T11.out.n o
                have cL := fun o => cell_of_obj T11.out.le o
                go_wp2_with fail
                refine Calls.mono (putLease_w hby g3) ?_
                rintro e w12 ⟨a', c', rfl, at2, pl2, hb12⟩
                have T12 := Lib.hid (T11.out.later hb12)
                clear cP cN cL T11 hb12
                have cP := fun o => cell_of_obj T12.out.p o
                have cN := fun o => cell_of_obj T12.out.n o
                have cL := fun o => cell_of_obj T12.out.le o
                go_wp2_with fail
                refine Calls.mono (bytes_same a' a l l.length l.length c' cap _ rfl rfl pl2 (hpl h0) at2 T12.out.at') ?_
                rintro e w' ⟨rfl, rfl⟩
                go_wp2_with fail
                have hfin := T12.out.b
                clear cP cN cL T12
                go_roundw
                case rel => exact ⟨j + 1, by omega, by go_num, own_below HO.out.1 hfin, fun y hy => (HO.out.2.1 y hy).later hfin, HO.out.2.2.trans (hfin.mono HO.out.2.2.size)⟩
                case measure => simp [intOf]; omega
          · go_wp2
            go_meet
            case rel => exact HO.out.2.2
      case rest =>
        go_wp2
        go_ret
        exact ⟨rfl, hbw1.trans (hcut.mono hbw1.size)⟩
open Go.ChangeShapes Go.WideShapes Go.ChangeAt Go.RowKit

theorem wf_lt {x : Int} (h : (Lit.int .i64 x).wf = true) : Hid (x < 9223372036854775808) := by
  show x < 9223372036854775808
  have h2 : (decide (IntKind.min .i64 ≤ x) && decide (x ≤ IntKind.max .i64)) = true := h
  have e : IntKind.max .i64 = 9223372036854775807 := by decide
  rw [e] at h2
  simp at h2
  omega
theorem wf_u8 {x : Int} (h : (Lit.int .u8 x).wf = true) : 0 ≤ x ∧ x ≤ 255 := by
  have h2 : (decide (IntKind.min .u8 ≤ x) && decide (x ≤ IntKind.max .u8)) = true := h
  have e : IntKind.max .u8 = 255 := by decide
  have e2 : IntKind.min .u8 = 0 := by decide
  rw [e, e2] at h2
  simpa using h2
theorem open_byteslice {H : Type} {enc : TypeId × Value → H} {w : World} {base : Nat} {sp : Nat → Bool} {held : Bool} {fuel : Nat} {cs : List Value} {x : DataW H × List MemPlace} (h : DataW.trod enc Try.prog w base sp held fuel 48 cs = some x) :
    ∃ (a : Option Addr) (l : List Int) (cap : Nat), cs = [.slice a l.length cap] ∧ l.length ≤ cap ∧ cap ≤ maxLen ∧ (a = none → cap = 0) ∧ AtB w a l ∧ Bytes l := by
  obtain ⟨a, len, cap, rfl, hl, hm, hn, hx⟩ := open_els Try.underlying48 cellsU8 (by decide) h
  obtain ⟨l, rfl, hp⟩ := list_of (p := fun i (s : Int) => (0 ≤ s ∧ s ≤ 255) ∧ ∃ b off, a = some ⟨b, off, none⟩ ∧ b < w.heap.size ∧ w.cell? ⟨b, off + i, none⟩ = some (.int .u8 s)) (0 : Int) (fun i hi => by
    obtain ⟨b, off, ha, hb, cs', n, y, hlen, hc, hy⟩ := hx i hi
    obtain ⟨s, rfl, _, z⟩ := DataW.trod_int Try.underlying5 hy
    exact ⟨s, wf_u8 z, b, off, ha, hb, by simpa using hc 0 (by decide)⟩)
  refine ⟨a, l, cap, rfl, hl, hm, hn, fun i hi => ?_, fun z hz => ?_⟩
  · obtain ⟨h1, b, off, ha, hb, hc⟩ := hp i hi
    exact ⟨b, off, ha, hb, hc, h1⟩
  · obtain ⟨i, hi, rfl⟩ := List.mem_iff_getElem.1 hz
    have := (hp i hi).1
    rwa [show l.getD i 0 = l[i] by simp [List.getD_eq_getElem?_getD, hi]] at this
set_option maxRecDepth 100000 in
theorem arg_byteslice {H : Type} {enc : TypeId × Value → H} {W : World} {base : Nat} {v : Value} {d : DataW H} {p : List MemPlace} (hv : Value.okWide Try.prog W .any base 48 v) (h : DataW.Trod enc Try.prog W 0 (fun _ => true) true 48 v d p) :
    ∃ (a : Option Addr) (l : List Int) (cap : Nat), v = .slice a l.length cap ∧ l.length ≤ cap ∧ cap ≤ maxLen ∧ AtB W a l ∧ Bytes l := by
  obtain ⟨a0, n0, c0, rfl⟩ := okWide_slice Try.underlying48 hv
  obtain ⟨fuel, hf⟩ := h
  obtain ⟨a, l, cap, e, h1, h2, hn, h3, h4⟩ := open_byteslice hf
  simp [Value.cells] at e
  obtain ⟨rfl, rfl, rfl⟩ := e
  exact ⟨_, l, _, rfl, h1, h2, h3, h4⟩
theorem trodAll_five {H : Type} {enc : TypeId × Value → H} {P : Program} {w : World} {base : Nat} {spare : Nat → Bool} {held : Bool} {t t' t'' t3 t4 : TypeId} {args : Array Value} {ds : List (DataW H)} {ps : List MemPlace} (h : DataW.TrodAll enc P w base spare held [t, t', t'', t3, t4] args.toList ds ps) :
    ∃ v v' v'' v3 v4 d d' d'' d3 d4 p p' p'' p3 p4, args = #[v, v', v'', v3, v4] ∧ ds = [d, d', d'', d3, d4] ∧ ps = p ++ p' ++ p'' ++ p3 ++ p4 ∧ DataW.Trod enc P w base spare held t v d p ∧ DataW.Trod enc P w base spare held t' v' d' p' ∧ DataW.Trod enc P w base spare held t'' v'' d'' p'' ∧ DataW.Trod enc P w base spare held t3 v3 d3 p3 ∧ DataW.Trod enc P w base spare held t4 v4 d4 p4 := by
  obtain ⟨v, vs, d, ds', p, q, hargs, rfl, rfl, hd, hrest⟩ := trodAll_cons h
  obtain ⟨v', vs', d', ds'', p', q', rfl, rfl, rfl, hd', hrest'⟩ := trodAll_cons hrest
  obtain ⟨v'', vs'', d'', ds''', p'', q'', rfl, rfl, rfl, hd'', hrest''⟩ := trodAll_cons hrest'
  obtain ⟨v3, vs3, d3, ds3, p3, q3, rfl, rfl, rfl, hd3, hrest3⟩ := trodAll_cons hrest''
  obtain ⟨v4, vs4, d4, ds4, p4, q4, rfl, rfl, rfl, hd4, hrest4⟩ := trodAll_cons hrest3
  obtain ⟨rfl, rfl, rfl⟩ := trodAll_nil hrest4
  exact ⟨v, v', v'', v3, v4, d, d', d'', d3, d4, p, p', p'', p3, p4, by cases args; simp_all, rfl, by simp, hd, hd', hd'', hd3, hd4⟩

set_option maxRecDepth 100000 in
theorem codeAny_lifted (os : Os) (started : os.Started) (H : Type) (enc : TypeId × Value → H) :
    ReturnsInHanded {} Try.checked os 4 .any (Rows.codeAnySpec.pre6 enc Try.prog Try.f4 Rows.codeAnyRow.domain false) (Rows.codeAnySpec.post enc Try.prog Try.f4 false true false false) := by
  refine returnsInHanded_of_change (C := Try.checked) own0 started (by kernel_rfl) Try.func4
    (ChangeSpec.witness6 (enc := enc) (C := Try.checked) false ⟨#[], #[.slice none 0 0, .agg #[.string ⟨#[]⟩, .int .i64 0, .int .i64 0, .int .i64 0, .int .i64 0, .int .i64 0, .slice none 0 0, .slice none 0 0, .slice none 0 0, .slice none 0 0, .string ⟨#[]⟩, .slice none 0 0, .int .i64 0, .slice none 0 0, .string ⟨#[]⟩, .int .i64 0], .agg #[.string ⟨#[]⟩, .int .i64 0, .int .i64 0, .int .i64 0, .slice none 0 0, .slice none 0 0], .int .i64 0, .int .u8 0], []⟩ 8 (by kernel_rfl) (by kernel_rfl) (by kernel_rfl) (by kernel_rfl)) ?_
  intro W base args ds gs before hval0 hW hcnd _
  have hval : ∀ (j : Nat) t v, Try.f4.params[j]? = some t → args[j]? = some v → Value.okWide Try.prog W .any base t v := hval0
  have hW' := hW
  obtain ⟨p, q, hA0, hV, rfl, hfz, hnd⟩ := hW
  have hA : DataW.TrodAll enc Try.prog W 0 (fun _ => true) true Try.f4.params.toList args.toList ds p := hA0
  obtain ⟨rfl, rfl⟩ := trodVars_none hV
  simp only [List.append_nil] at hW'
  have hback := fun W' (bel : Below W.heap.size W W') => trodAll_below bel (readable (by kernel_rfl)) hA hW'.lt
  rw [Try.params4] at hA hval
  clear hA0 hval0
  obtain ⟨v0, v1, v2, v3, v4, d0, d1, d2, d3, d4, p0, p1, p2, p3, p4, rfl, rfl, rfl, h0, h1, h2, h3, h4⟩ := trodAll_five hA
  obtain ⟨ra, rl, rc, rfl, hrc1, hrc2, hra, hrb⟩ := arg_byteslice (hval 0 48 v0 rfl rfl) h0
  obtain ⟨p, h, rfl, hp⟩ := arg_pod (hval 1 29 v1 rfl rfl) h1
  obtain ⟨n, k, rfl, hn⟩ := arg_node (hval 2 32 v2 rfl rfl) h2
  obtain ⟨t, rfl, rfl, rfl, _⟩ := open_int Try.underlying3 (hval 3 3 v3 rfl rfl) h3
  obtain ⟨x, rfl, rfl, rfl, w4⟩ := open_int Try.underlying5 (hval 4 5 v4 rfl rfl) h4
  refine (codeAny_walk ra rl rc p h n k t x W hra hrb ⟨hrc1, hrc2⟩ hp.at' hn.at' (wf_lt hp.term) (wf_u8 w4)).mono fun e W' ⟨he, bel⟩ => ?_
  subst he
  exact ⟨_, rfl, _, _, _, [], _, [], hW', trodAll_mk1 (shut_bool Try.underlying4 _), hback W' bel, rfl, bel.frame _, fun h => by cases h⟩

theorem codeAny_holds : Rows.CodeAnySaid :=
  OpenClaim.holds_of_wide 4 Try.f4 rfl rfl rfl rfl rfl rfl rfl ⟨rfl, rfl, rfl, rfl, rfl⟩ rfl rfl rfl rfl rfl (by kernel_rfl) Try.func4 (by kernel_rfl)
    (of_decide_eq_true (by kernel_rfl)) (by unfold Func.isWrapper; first | (rw [if_pos (by decide +kernel)]; kernel_rfl) | (rw [if_neg (by decide +kernel)]; exact ⟨rfl, rfl⟩))
    (fun os started H enc _ => codeAny_lifted os started H enc)
#print axioms codeAny_holds
end Go.Proofs.Ytnobgmdknalpdaa
