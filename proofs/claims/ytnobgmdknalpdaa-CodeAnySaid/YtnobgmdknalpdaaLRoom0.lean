/-
  What the law CodeRoom's pod and node are. No conditions beyond what is written in each statement.
-/
import Derived.Test.YtnobgmdknalpdaaLess
import Derived.Test.YtnobgmdknalpdaaLAgain0
import Derived.Test.YtnobgmdknalpdaaEq4
import Derived.Maps.AppendAt
set_option linter.unusedSimpArgs false
set_option linter.unusedVariables false
namespace Go.Proofs.Ytnobgmdknalpdaa
open Go.RowKit

def abcS : ByteArray := ⟨#[97, 98, 99, 100, 101, 102, 103, 104, 105, 106, 107, 108]⟩
def lng (K : Nat) : ByteArray := abcS.extract 0 K
def letR (j : Nat) : ByteArray := ⟨#[UInt8.ofNat (97 + j)]⟩
def keyR (K j : Nat) : ByteArray := letR j ++ (lng K).extract 0 (min K 11)
def portsR (i : Nat) : List Int := (List.range i).map fun j : Nat => (60000 : Int) + (j : Int)
def pairsR (K i : Nat) : List Str2 := (List.range i).map fun j => (keyR K j, lng K)
def valsR (K : Nat) : List ByteArray := List.replicate 6 (lng K)
def trmsR (K : Nat) (kind : Int) (i : Nat) : List Trm := (List.range i).map fun j => ⟨keyR K j, kind, valsR K⟩
def tolsR (K i : Nat) : List Tol := (List.range i).map fun j => (keyR K j, lng K, false)
def roomP (K i : Nat) : PodD := ⟨lng K, 1099511627776, 1000, 1000000000, 1000000000, 1000000000, portsR i, pairsR K i, trmsR K 1 i, tolsR K i, lng K, trmsR K 2 i, 10, trmsR K 1 i, lng K, 1099511627776⟩
def roomN (K i : Nat) : NodeD := ⟨lng K, 1000000000, 1000000000, 1000000000, pairsR K i, pairsR K i⟩

def podX (p : PodD) (b : Bool) : Bool := nameL p.name.data.toList && decide (1 ≤ p.uid) && decide (p.uid ≤ 1099511627776) && decide (0 ≤ p.prio) && decide (p.prio ≤ 1000) && withinB p.r0 p.r1 p.r2 1000000000 && portsB p.ports && b && mayT p.sel && mayTolsB p.tols && spreadB p && placeB p.node p.term
def nodeX (p : NodeD) (b : Bool) : Bool := nameL p.name.data.toList && withinB p.r0 p.r1 p.r2 1000000000 && b && b
theorem room_x : ((List.range 8).all fun i => (List.range 12).all fun k => decide (podX (roomP (k + 1) i) (decide (i ≤ 6)) = decide (i ≤ 6)) && decide (nodeX (roomN (k + 1) i) (decide (i ≤ 6)) = decide (i ≤ 6)) && nameL (keyR (k + 1) i).data.toList && nameL (lng (k + 1)).data.toList) = true := by kernel_rfl
theorem room_at {K i : Nat} (hi : i < 8) (h1 : 1 ≤ K) (h2 : K ≤ 12) : podX (roomP K i) (decide (i ≤ 6)) = decide (i ≤ 6) ∧ nodeX (roomN K i) (decide (i ≤ 6)) = decide (i ≤ 6) ∧ nameL (keyR K i).data.toList = true ∧ nameL (lng K).data.toList = true := by
  have a := List.all_eq_true.1 room_x i (List.mem_range.2 hi)
  have b := List.all_eq_true.1 a (K - 1) (List.mem_range.2 (by omega))
  rw [show K - 1 + 1 = K by omega] at b
  simp only [Bool.and_eq_true, decide_eq_true_eq] at b
  exact ⟨b.1.1.1, b.1.1.2, b.1.2, b.2⟩
theorem keyR_list (K j : Nat) : (keyR K j).toList = UInt8.ofNat (97 + j) :: ((lng K).extract 0 (min K 11)).toList := by
  unfold keyR letR
  rw [ByteArray.toList_eq, ByteArray.toList_eq]
  simp
theorem keyR_less {K i j : Nat} (hj : j < 8) (h : i < j) : lessB (keyR K i) (keyR K j) = true := by
  rw [less_lt, keyR_list, keyR_list]
  refine List.Lex.rel ?_
  show UInt8.ofNat (97 + i) < UInt8.ofNat (97 + j)
  rw [UInt8.lt_iff_toNat_lt, UInt8.toNat_ofNat', UInt8.toNat_ofNat']
  omega
theorem room_labels {K i : Nat} (hi : i < 8) (h1 : 1 ≤ K) (h2 : K ≤ 12) : mayL (pairsR K i) = decide (i ≤ 6) := by
  have hl : (pairsR K i).length = i := by simp [pairsR]
  by_cases h6 : i ≤ 6
  · rw [decide_eq_true h6]
    refine (mayL_spec _).2 ⟨by rw [hl]; exact h6, fun x hx => ?_, ?_⟩
    · unfold pairsR at hx
      obtain ⟨j, hj, rfl⟩ := List.mem_map.1 hx
      have hj := List.mem_range.1 hj
      exact ⟨(room_at (K := K) (i := j) (by omega) h1 h2).2.2.1, (room_at (K := K) (i := j) (by omega) h1 h2).2.2.2⟩
    · unfold pairsR
      rw [List.pairwise_map, List.pairwise_iff_getElem]
      intro a b ha hb hab
      simp only [List.length_range] at ha hb
      simp only [List.getElem_range]
      exact keyR_less (by omega) hab
  · rw [decide_eq_false h6]
    cases hm : mayL (pairsR K i)
    · rfl
    · have := ((mayL_spec _).1 hm).1
      omega
theorem room_pod {K i : Nat} (hi : i < 8) (h1 : 1 ≤ K) (h2 : K ≤ 12) : podB (roomP K i) = decide (i ≤ 6) := by
  have e : podB (roomP K i) = podX (roomP K i) (mayL (pairsR K i)) := rfl
  rw [e, room_labels hi h1 h2]
  exact (room_at hi h1 h2).1
theorem room_node {K i : Nat} (hi : i < 8) (h1 : 1 ≤ K) (h2 : K ≤ 12) : nodeB (roomN K i) = decide (i ≤ 6) := by
  have e : nodeB (roomN K i) = nodeX (roomN K i) (mayL (pairsR K i)) := rfl
  rw [e, room_labels hi h1 h2]
  exact (room_at hi h1 h2).2.1
theorem podEnc_len {p : PodD} (h : podB p = true) : 0 < (podEnc p).length ∧ (podEnc p).length ≤ 4000 := by
  obtain ⟨m1, m2, m3, m4, m5, m6, m7, m8, m9, m10, m11, m12⟩ := podB_parts h
  obtain ⟨q1, q2, q3, q4, q5⟩ := spreadB_ok m11
  have l1 := lbytesI_len (portsB_ok m7).1
  have l2 := lbytesP_len (mayL_ok m8).1
  have l3 := lbytesT_len (mayT_ok m9).1 (mayT_ok m9).2.2
  have l4 := lbytesL_len (mayTols_ok m10).1
  have l5 := lbytesT_len (mayT_ok q1).1 (mayT_ok q1).2.2
  have l6 := lbytesT_len (mayT_ok q2).1 (mayT_ok q2).2.2
  unfold podEnc
  rw [if_pos h]
  unfold podBytes resBytes nbytes
  simp only [List.length_append, wbytes_len]
  omega
theorem podEnc_no {p : PodD} (h : podB p = false) : podEnc p = [] := by unfold podEnc; rw [h]; rfl
theorem nodeEnc_len {p : NodeD} (h : nodeB p = true) : 0 < (nodeEnc p).length ∧ (nodeEnc p).length ≤ 4000 := by
  obtain ⟨m1, m2, m3, m4⟩ := nodeB_parts h
  have l2 := lbytesP_len (mayL_ok m3).1
  have l4 := lbytesP_len (mayL_ok m4).1
  unfold nodeEnc
  rw [if_pos h]
  unfold nodeBytes resBytes nbytes
  simp only [List.length_append, wbytes_len]
  omega
theorem nodeEnc_no {p : NodeD} (h : nodeB p = false) : nodeEnc p = [] := by unfold nodeEnc; rw [h]; rfl

/-- Two rows that do not share their block. -/
def Ap (a b : RowF) : Prop := ∀ g, a.v.ownBlock = some g → b.v.ownBlock ≠ some g
/-- The pod and the node that are filled, and the lists that are theirs. -/
structure RM (W : World) (N A : Nat) (cp cm : Array Value) (rs : List RowF) : Prop where
  p : W.heap[A]? = some (.cells cp 29)
  m : W.heap[A + 1]? = some (.cells cm 32)
  lt : A + 1 < N
  le : N ≤ W.heap.size
  own : ∀ r ∈ rs, r.In W N
  ap : rs.Pairwise Ap
theorem RowF.In.ge {r : RowF} {w : World} {N : Nat} (h : r.In w N) : ∀ g, r.v.ownBlock = some g → N ≤ g ∧ g < w.heap.size := World.ownsRow.lt h
theorem RowF.In.grown {r : RowF} {w w' : World} {N : Nat} {row : Option Nat} (h : r.In w N) (hg : w.grownBy w' row) (hne : ∀ g, r.v.ownBlock = some g → row ≠ some g) : r.In w' N :=
  World.ownsRow.kept h hg (by
    cases hv : r.v.ownBlock with
    | none => exact Or.inl rfl
    | some g => exact Or.inr (fun e => hne g hv e.symm))
theorem RM.alloc {W : World} {N A : Nat} {cp cm : Array Value} {rs : List RowF} (h : RM W N A cp cm rs) (o : Obj) : RM (W.alloc o) N A cp cm rs :=
  ⟨by rw [Below.heap_alloc _ _ _ (by have := h.lt; have := h.le; omega)]; exact h.p, by rw [Below.heap_alloc _ _ _ (by have := h.lt; have := h.le; omega)]; exact h.m, h.lt, by have := h.le; simp; omega,
    fun r hr => (h.own r hr).kept ((Below.refl _ _).alloc (Nat.le_refl _) _), h.ap⟩
theorem RM.later {W W' : World} {N A : Nat} {cp cm : Array Value} {rs : List RowF} (h : RM W N A cp cm rs) (hb : Below W.heap.size W W') : RM W' N A cp cm rs :=
  ⟨by rw [hb.block A (by have := h.lt; have := h.le; omega)]; exact h.p, by rw [hb.block (A + 1) (by have := h.lt; have := h.le; omega)]; exact h.m, h.lt, Nat.le_trans h.le hb.size, fun r hr => (h.own r hr).kept hb, h.ap⟩
/-- One list grows. -/
theorem RM.app {W W' : World} {N A : Nat} {cp cm : Array Value} {pre post : List RowF} {r r' : RowF} (h : RM W N A cp cm (pre ++ r :: post)) (hg : W.grownBy W' r.v.ownBlock) (ho : r'.In W' N) (hv : r'.v.ownBlock = r.v.ownBlock ∨ r'.v.ownBlock = some W.heap.size) :
    RM W' N A cp cm (pre ++ r' :: post) := by
  have hr := h.own r (by simp)
  have hsz := hg.size
  have hlt := h.lt
  have hle := h.le
  have hap := List.pairwise_append.1 h.ap
  have hap2 := List.pairwise_cons.1 hap.2.1
  have hnA : ∀ k, k < N → r.v.ownBlock ≠ some k := fun k hk e => by have := (hr.ge k e).1; omega
  refine ⟨?_, ?_, hlt, by omega, fun x hx => ?_, ?_⟩
  · rw [hg.block A (by omega) (fun e => hnA A (by omega) e.symm)]; exact h.p
  · rw [hg.block (A + 1) (by omega) (fun e => hnA (A + 1) (by omega) e.symm)]; exact h.m
  · simp only [List.mem_append, List.mem_cons] at hx
    rcases hx with hx | rfl | hx
    · exact (h.own x (by simp [hx])).grown hg (fun g e e2 => hap.2.2 x hx r (by simp) g e e2)
    · exact ho
    · exact (h.own x (by simp [hx])).grown hg (fun g e e2 => hap2.1 x hx g e2 e)
  · rw [List.pairwise_append, List.pairwise_cons]
    refine ⟨hap.1, ⟨fun x hx g e e2 => ?_, hap2.2⟩, fun a ha b hb => ?_⟩
    · rcases hv with e3 | e3
      · rw [e3] at e; exact hap2.1 x hx g e e2
      · rw [e3] at e
        have := ((h.own x (by simp [hx])).ge g e2).2
        cases e; omega
    · simp only [List.mem_cons] at hb
      rcases hb with rfl | hb
      · intro g e e2
        rcases hv with e3 | e3
        · rw [e3] at e2; exact hap.2.2 a ha r (by simp) g e e2
        · rw [e3] at e2
          have := ((h.own a (by simp [ha])).ge g e).2
          cases e2; omega
      · exact hap.2.2 a ha b (by simp [hb])
/-- A field of the pod, of the node, is set. -/
theorem RM.setP {W : World} {N A : Nat} {cp cm : Array Value} {rs : List RowF} (h : RM W N A cp cm rs) (j : Nat) (v : Value) : RM (W.setCell ⟨A, j, none⟩ v) N A (cp.setIfInBounds j v) cm rs :=
  ⟨obj_setN h.p rfl, by rw [heap_setCell_other W ⟨A, j, none⟩ (A + 1) v (by simp)]; exact h.m, h.lt, by have := h.le; simpa using this,
    fun r hr => (h.own r hr).grown (grown_set W A j v) (fun g e e2 => by have := ((h.own r hr).ge g e).1; have := h.lt; cases e2; omega), h.ap⟩
theorem RM.setM {W : World} {N A : Nat} {cp cm : Array Value} {rs : List RowF} (h : RM W N A cp cm rs) (j : Nat) (v : Value) : RM (W.setCell ⟨A + 1, j, none⟩ v) N A cp (cm.setIfInBounds j v) rs :=
  ⟨by rw [heap_setCell_other W ⟨A + 1, j, none⟩ A v (by simp)]; exact h.p, obj_setN h.m rfl, h.lt, by have := h.le; simpa using this,
    fun r hr => (h.own r hr).grown (grown_set W (A + 1) j v) (fun g e e2 => by have := ((h.own r hr).ge g e).1; have := h.lt; cases e2; omega), h.ap⟩

abbrev cpR (L : ByteArray) (v4 v5 v6 v7 v9 v11 : Value) : Array Value := #[.string L, .int .i64 1099511627776, .int .i64 1000, .int .i64 1000000000, .int .i64 1000000000, .int .i64 1000000000, v4, v5, v6, v7, .string L, v9, .int .i64 10, v11, .string L, .int .i64 1099511627776]
abbrev cmR (L : ByteArray) (u2 u3 : Value) : Array Value := #[.string L, .int .i64 1000000000, .int .i64 1000000000, .int .i64 1000000000, u2, u3]
def rI (v : Value) (q : Nat) : RowF := ⟨3, 1, v, q, (portsR q).flatMap (fun x : Int => [Value.int .i64 x])⟩
def rP (ty : TypeId) (v : Value) (K q : Nat) : RowF := ⟨ty, 2, v, q, (pairsR K q).flatMap cells2⟩
def rL (v : Value) (K q : Nat) : RowF := ⟨42, 3, v, q, (tolsR K q).flatMap cells3⟩
def hTrm (K : Nat) (kind : Int) (av : Option Addr) (cv q : Nat) : List TrmH := (trmsR K kind q).map fun t => (t, av, cv)
def rT (v : Value) (K : Nat) (kind : Int) (av : Option Addr) (cv q : Nat) : RowF := ⟨40, 3, v, q, (hTrm K kind av cv q).flatMap cellsT⟩
theorem flat_range {α : Type} (f : Nat → α) (c : α → List Value) (q : Nat) : ((List.range (q + 1)).map f).flatMap c = ((List.range q).map f).flatMap c ++ c (f q) := by
  rw [List.range_succ, List.map_append, List.flatMap_append]
  simp
theorem rI_next (v : Value) (q : Nat) : (rI v (q + 1)).xs = (rI v q).xs ++ [.int .i64 (60000 + (q : Int))] := flat_range _ _ q
theorem rP_next (ty : TypeId) (v : Value) (K q : Nat) : (rP ty v K (q + 1)).xs = (rP ty v K q).xs ++ [.string (keyR K q), .string (lng K)] := flat_range _ _ q
theorem rL_next (v : Value) (K q : Nat) : (rL v K (q + 1)).xs = (rL v K q).xs ++ [.string (keyR K q), .string (lng K), .bool false] := flat_range _ _ q
theorem rT_next (v : Value) (K : Nat) (kind : Int) (av : Option Addr) (cv q : Nat) : (rT v K kind av cv (q + 1)).xs = (rT v K kind av cv q).xs ++ [.string (keyR K q), .int .i64 kind, .slice av 6 cv] := by
  show ((trmsR K kind (q + 1)).map fun t => (t, av, cv)).flatMap cellsT = ((trmsR K kind q).map fun t => (t, av, cv)).flatMap cellsT ++ _
  unfold trmsR
  rw [List.map_map, List.map_map]
  exact flat_range _ _ q
theorem conv_letR (W : World) (B k : Nat) (hk : k < 9) (hB : B < W.heap.size) (hc : W.cell? ⟨B, 0, none⟩ = some (.int .u8 (97 + (k : Int)))) : (convert 48 9 (.slice (some ⟨B, 0, none⟩) 1 1)).run Try.prog W = .ok (.string (letR k)) W := by
  have h := conv_b W (some ⟨B, 0, none⟩) [97 + (k : Int)] 1 1 rfl (Or.inr ⟨_, _, rfl⟩) (fun i hi => by
    obtain rfl : i = 0 := by simp at hi; omega
    refine ⟨_, _, rfl, hB, hc, ?_, ?_⟩ <;> simp <;> omega)
  rw [h]
  have e : strOfNums [97 + (k : Int)] = letR k := by
    unfold strOfNums letR
    have : (97 + (k : Int)).toNat = 97 + k := by omega
    simp [this]
  rw [e]

theorem eqL_self {α : Type} {eq : α → α → Bool} (h : ∀ x, eq x x = true) : ∀ l, eqL eq l l = true
  | [] => rfl
  | x :: r => by rw [eqL, h x, eqL_self h r]; rfl
theorem eqT_self (t : Trm) : eqT t t = true := by
  unfold eqT
  rw [eqL_self (fun x => by simp [eqS])]
  simp
theorem eqPod_self (p : PodD) : eqPodB p p = true := by
  unfold eqPodB eqRB
  rw [eqL_self (fun x => by simp [eqI]), eqL_self (fun x => by simp [eqP]), eqL_self eqT_self, eqL_self (fun x => by simp [eqK]), eqL_self eqT_self, eqL_self eqT_self]
  simp
theorem getPod_r (a : Option Addr) (l : List Int) (n cap : Nat) (w : World) (hn : l.length = n) (hat : AtB w a l) (hc1 : l.length ≤ cap) (hc2 : cap ≤ maxLen) :
    Calls Try.prog 13 #[.slice a n cap] w (GetPodPost w (getPodR l)) := by
  subst hn; exact getPod_any a l cap w hat hc1 hc2
theorem trms_len (K : Nat) (kind : Int) (q : Nat) : (trmsR K kind q).length = q := by simp [trmsR]
theorem hTrm_fst (K : Nat) (kind : Int) (av : Option Addr) (cv q : Nat) : (hTrm K kind av cv q).map (·.1) = trmsR K kind q := by
  unfold hTrm
  rw [List.map_map]
  exact List.map_id _
theorem hTrm_held {w : World} {K : Nat} {kind : Int} {av : Option Addr} {cv q : Nat} (h : At1 w av (valsR K)) : HeldT w (hTrm K kind av cv q) := by
  intro x hx
  unfold hTrm trmsR at hx
  rw [List.map_map, List.mem_map] at hx
  obtain ⟨j, _, rfl⟩ := hx
  exact h
theorem room_podAt {w : World} {N K q : Nat} {av : Option Addr} {cv : Nat} {p4 p5 p6 p7 p9 p11 : Option Addr} {c4 c5 c6 c7 c9 c11 : Nat} (hv : At1 w av (valsR K)) (h4 : (rI (.slice p4 q c4) q).In w N) (h5 : (rP 36 (.slice p5 q c5) K q).In w N) (h6 : (rT (.slice p6 q c6) K 1 av cv q).In w N)
    (h9 : (rT (.slice p9 q c9) K 2 av cv q).In w N) (h11 : (rT (.slice p11 q c11) K 1 av cv q).In w N) (h7 : (rL (.slice p7 q c7) K q).In w N) (hq : q ≤ 1000) : PodAt w (roomP K q) ⟨p4, c4, p5, c5, p6, c6, p7, c7, p9, c9, p11, c11⟩ := by
  have lI : (portsR q).length = q := by simp [portsR]
  have lT : ∀ kind, (hTrm K kind av cv q).length = q := fun kind => by simp [hTrm, trmsR]
  have lP : (pairsR K q).length = q := by simp [pairsR]
  have lL : (tolsR K q).length = q := by simp [tolsR]
  refine ⟨?_, own_at2 (l := pairsR K q) h5 lP, by show (pairsR K q).length ≤ _; rw [lP]; omega, ?_, own_atL (l := tolsR K q) h7 lL, ?_, ?_⟩
  · exact AtI_of (N := N) (cap := c4) (l := portsR q) (by show World.ownsRow w N 3 1 (.slice p4 (portsR q).length c4) (portsR q).length _; rw [lI]; exact h4) (by rw [lI]; omega)
  · have h := own_atT h6 (lT 1) (hTrm_held hv); rw [hTrm_fst] at h; exact h
  · have h := own_atT h9 (lT 2) (hTrm_held hv); rw [hTrm_fst] at h; exact h
  · have h := own_atT h11 (lT 1) (hTrm_held hv); rw [hTrm_fst] at h; exact h
theorem room_podV (K q : Nat) {L : ByteArray} (hL : lng K = L) (p4 p5 p6 p7 p9 p11 : Option Addr) (c4 c5 c6 c7 c9 c11 : Nat) : podV (roomP K q) ⟨p4, c4, p5, c5, p6, c6, p7, c7, p9, c9, p11, c11⟩ = .agg (cpR L (.slice p4 q c4) (.slice p5 q c5) (.slice p6 q c6) (.slice p7 q c7) (.slice p9 q c9) (.slice p11 q c11)) := by
  subst hL
  simp [roomP, portsR, pairsR, trmsR, tolsR]
theorem room_nodeV (K q : Nat) {L : ByteArray} (hL : lng K = L) (p2 p3 : Option Addr) (c2 c3 : Nat) : nodeV (roomN K q) ⟨p2, c2, p3, c3⟩ = .agg (cmR L (.slice p2 q c2) (.slice p3 q c3)) := by
  subst hL
  simp [roomN, pairsR]
theorem room_nodeAt {w : World} {N K q : Nat} {p2 p3 : Option Addr} {c2 c3 : Nat} (h2 : (rP 36 (.slice p2 q c2) K q).In w N) (h3 : (rP 44 (.slice p3 q c3) K q).In w N) (hq : q ≤ 1000) : NodeAt w (roomN K q) ⟨p2, c2, p3, c3⟩ :=
  have lP : (pairsR K q).length = q := by simp [pairsR]
  ⟨own_at2 (l := pairsR K q) h2 lP, by show (pairsR K q).length ≤ _; rw [lP]; omega, own_at2 (l := pairsR K q) h3 lP, by show (pairsR K q).length ≤ _; rw [lP]; omega⟩
theorem row_form {r : RowF} {w : World} {N : Nat} (h : r.In w N) {v : Value} {q : Nat} (hv : r.v = v) (hq : r.n = q) : ∃ a c, v = .slice a q c := by
  obtain ⟨a, c, e, _⟩ := own_len h
  exact ⟨a, c, by rw [← hv, ← hq]; exact e⟩
end Go.Proofs.Ytnobgmdknalpdaa
