/-
  What the laws of the store have in common. No conditions beyond what is written in each statement.
-/
import Derived.Test.YtaleceobkbgcnaaGreatGLaw
import Derived.Test.YtaleceobkbgcnaaGreatGRpC
import Derived.Lib.SmallJoins
set_option linter.unusedSimpArgs false
set_option linter.unusedVariables false
namespace Go.Proofs.YtaleceobkbgcnaaGreat.Rp
open Go.RowKit

theorem _root_.Go.Proofs.YtaleceobkbgcnaaGreat.StoAt.apart6 {S : Nat → Prop} {w w' : World} {B : Nat} {h : StoH} {d : StoD} (ha : StoAt w B h d) (ht : Turns S w w') (h1 : ∀ k, StoS h k → ¬ S k) (h2 : ∀ x ∈ h.E, ∀ k, (Value.slice x.2.1 x.1.val.length x.2.2).ownBlock = some k → ¬ S k)
    (h3 : ∀ x ∈ h.H, ∀ k, (Value.slice x.2.1 x.1.val.length x.2.2).ownBlock = some k → ¬ S k) : StoAt w' B h d :=
  ⟨Nat.le_trans ha.lo ht.size, ht.obj ha.obj (h1 _ (.inl rfl)), owns_block ha.ents (ht.block _ ha.ents.lt (h1 _ (.inr (.inl rfl)))), owns_block ha.toch (ht.block _ ha.toch.lt (h1 _ (.inr (.inr (.inl rfl))))),
    ⟨⟨Nat.le_trans ha.log.raw.lo ht.size, ht.obj ha.log.raw.obj (h1 _ (.inr (.inr (.inr (.inl rfl))))), ⟨ha.log.raw.own.row.turns ht (fun k hk => h1 _ (.inr (.inr (.inr (.inr hk))))), fun x hx => ⟨row_turns (ha.log.raw.own.val x hx).1 ht (fun k hk => h3 x hx k hk), (ha.log.raw.own.val x hx).2⟩⟩⟩, ha.log.same, ha.log.ok, ha.log.few⟩,
    fun x hx => ⟨row_turns (ha.vals x hx).1 ht (fun k hk => h2 x hx k hk), (ha.vals x hx).2⟩, ha.same, ha.tval, ha.ne, ha.few⟩
/-- All that a store holds lies below N. -/
structure StoUp (N : Nat) (h : StoH) : Prop where
  s : ∀ k, StoS h k → k < N
  e : ∀ x ∈ h.E, ∀ k, (Value.slice x.2.1 x.1.val.length x.2.2).ownBlock = some k → k < N
  l : ∀ x ∈ h.H, ∀ k, (Value.slice x.2.1 x.1.val.length x.2.2).ownBlock = some k → k < N
theorem _root_.Go.Proofs.YtaleceobkbgcnaaGreat.StoAt.up {w : World} {B : Nat} {h : StoH} {d : StoD} (ha : StoAt w B h d) : StoUp w.heap.size h :=
  ⟨ha.lt, fun x hx k hk => ((ha.vals x hx).1.lt k hk).2, fun x hx k hk => ((ha.log.raw.own.val x hx).1.lt k hk).2⟩
/-- What is younger than all that a store holds does not turn it. -/
theorem _root_.Go.Proofs.YtaleceobkbgcnaaGreat.StoAt.high {S : Nat → Prop} {w w' : World} {B N : Nat} {h : StoH} {d : StoD} (ha : StoAt w B h d) (hu : StoUp N h) (ht : Turns S w w') (hS : ∀ k, S k → N ≤ k) : StoAt w' B h d :=
  ha.apart6 ht (fun k hk hs => by have := hu.s k hk; have := hS k hs; omega) (fun x hx k hk hs => by have := hu.e x hx k hk; have := hS k hs; omega) (fun x hx k hk hs => by have := hu.l x hx k hk; have := hS k hs; omega)
/-- What is elder than what a store holds does not turn it. -/
theorem _root_.Go.Proofs.YtaleceobkbgcnaaGreat.StoAt.low {S : Nat → Prop} {w w' : World} {B : Nat} {h : StoH} {d : StoD} (ha : StoAt w B h d) (ht : Turns S w w') (h1 : ∀ k, StoS h k → ¬ S k) (hS : ∀ k, S k → k < B) : StoAt w' B h d :=
  ha.apart6 ht h1 (fun x hx k hk hs => by have := ((ha.vals x hx).1.lt k hk).1; have := hS k hs; omega) (fun x hx k hk hs => by have := ((ha.log.raw.own.val x hx).1.lt k hk).1; have := hS k hs; omega)
/-- One entry that was told: its block, its cells. -/
theorem told_ent {w : World} {N : Nat} {v : Value} {E : List EntH} {x : EntD} (h : EnRow w N v E) (he : E.map (·.1) = [x]) : ∃ g c a k, v = .slice (some ⟨g, 0, none⟩) 1 c ∧ N ≤ g ∧ HasTy w g 75 ∧ ValOwn w N x.val a k ∧ w.cell? ⟨g, 0, none⟩ = some (.string x.key) ∧ w.cell? ⟨g, 1, none⟩ = some (.int .i64 x.rev)
    ∧ w.cell? ⟨g, 2, none⟩ = some (.slice a x.val.length k) := by
  obtain ⟨y, rfl⟩ : ∃ y, E = [y] := by
    match E, he with
    | [y], _ => exact ⟨y, rfl⟩
  obtain ⟨y, a, k⟩ := y
  obtain rfl : y = x := by simpa using he
  have hv := h.val _ (List.mem_singleton.2 rfl)
  have hr := h.row
  rcases hr.2 with ⟨_, e⟩ | ⟨g, c, cur, rfl, hg, hb, _⟩
  · cases e
  · refine ⟨g, c, a, k, rfl, hg, ⟨_, _, hb⟩, hv, ?_, ?_, ?_⟩
    · rw [hr.cellAt 0 (by simp)]; rfl
    · rw [hr.cellAt 1 (by simp)]; rfl
    · rw [hr.cellAt 2 (by simp)]; rfl
theorem keyed_one (x : EntD) : Keyed [x] := List.pairwise_singleton _ _
/-- One write, and no guard. -/
theorem err_put {d : StoD} {k : ByteArray} {V : List Int} (hk : keyB k = true) (hV : V.length ≤ 4000) : txnErr d [] [⟨k, V, false⟩] = 0 := by
  have h : txnS [] [⟨k, V, false⟩] = true := by
    unfold txnS
    simp [stepW, wrS, hk, hV, hasB]
  unfold txnErr
  rw [if_pos h, if_pos (by rfl), if_pos (by simp [goneB])]
theorem first_put {k : ByteArray} {V : List Int} (hk : keyB k = true) (hV : V.length ≤ 4000) : (txnF newS [] [⟨k, V, false⟩]).E = [⟨k, 1, V⟩] ∧ (txnF newS [] [⟨k, V, false⟩]).log = ⟨64, [⟨1, k, V, false⟩], 0, 1⟩ := by
  unfold txnF
  rw [if_pos (err_put hk hV)]
  refine ⟨rfl, ?_⟩
  show addD (newD 64) [evD (revS newS) ⟨k, V, false⟩] = _
  exact addD_room (newD_ok 64) (follow_one (show (0 : Int) < 1 by decide)) (show ((0 + 1 : Nat) : Int) ≤ 64 by decide)
end Go.Proofs.YtaleceobkbgcnaaGreat.Rp
