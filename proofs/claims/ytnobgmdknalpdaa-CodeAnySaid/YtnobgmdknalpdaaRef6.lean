/-
  The reference's comparisons of what is alike. No conditions beyond what is written in each statement.
-/
import Derived.Test.YtnobgmdknalpdaaNode1
import Derived.Test.YtnobgmdknalpdaaEq4
import Derived.Test.YtnobgmdknalpdaaBack
import Derived.Test.YtnobgmdknalpdaaConv
set_option linter.unusedSimpArgs false
set_option linter.unusedVariables false
namespace Go.Proofs.Ytnobgmdknalpdaa
open Go.RowKit

theorem bytes_same (a b : Option Addr) (l : List Int) (n m ca cb : Nat) (w : World) (hn : l.length = n) (hm : l.length = m) (hpa : PlainA a) (hpb : PlainA b) (ha : AtB w a l) (hb : AtB w b l) :
    Calls Try.prog 16 #[.slice a n ca, .slice b m cb] w fun e w' => e = .returned (.bool true) ∧ w' = w := by
  have c1 := conv_b w a l n ca hn hpa ha
  have c2 := conv_b w b l m cb hm hpb hb
  go_enter Try.func16, Try.ntmps16
  go_wp2
  go_ret
  exact ⟨rfl, rfl⟩

theorem eqP_self (q : Str2) : eqP q q = true := by simp [eqP]
theorem eqK_self (q : Tol) : eqK q q = true := by simp [eqK]
theorem eqRB_self (a b c : Int) : eqRB a b c a b c = true := by simp [eqRB]
set_option maxHeartbeats 1000000 in
theorem pairs_same (a : Option Addr) (l : List Str2) (cap : Nat) (b : Option Addr) (cap' : Nat) (w : World) (hl : At2 w a l) (hm : At2 w b l) (hn1 : l.length ≤ 9223372036854775807) :
    Calls Try.prog 68 #[.slice a l.length cap, .slice b l.length cap'] w fun e w' => e = .returned (.bool true) ∧ Below w.heap.size w w' := by
  go_enter Try.func68, Try.ntmps68
  go_wp2
  go_loopw [13] (fun i wr => ∃ k : Nat, k ≤ l.length ∧ i = .int .i64 k ∧ ∃ nd : Nat, wr = w.drewN nd) (fun i _ => l.length - (intOf i).toNat)
  case atStart => exact ⟨0, Nat.zero_le _, rfl, 0, rfl⟩
  case round =>
    obtain ⟨k, hk, rfl, nd, rfl⟩ := hrel
    by_cases hlt : k < l.length
    · obtain ⟨b1, o1, ha1, hb1, c1, d1⟩ := hl k hlt
      subst ha1
      obtain ⟨b2, o2, ha2, hb2, c2, d2⟩ := hm k hlt
      subst ha2
      have kl : (k : Int) < (l.length : Int) := by omega
      clear hl hm
      generalize l.getD k e2 = q at *
      obtain ⟨q0, q1⟩ := q
      simp only at c1 d1 c2 d2
      have gd := guardP
      have he := eq_P q0 q1 q0 q1
      rw [eqP_self] at he
      go_wp2
      go_quiet (fail)
      go_wp2
      go_roundw
      case rel => exact ⟨k + 1, by omega, by go_num, _, rfl⟩
      case measure => simp [intOf]; omega
    · go_wp2
      go_ret
      exact ⟨rfl, (by (repeat (with_reducible first | exact Below.refl _ _ | refine Below.alloc ?_ ?_ _ | refine Below.setCell ?_ ?_ _ | refine Below.drew ?_ | refine below_drewN ?_ _)); all_goals (simp <;> omega))⟩
set_option maxHeartbeats 4000000 in
theorem terms_same (a : Option Addr) (l : List Trm) (cap : Nat) (b : Option Addr) (cap' : Nat) (w : World) (hl : AtT w a l) (hm : AtT w b l) :
    Calls Try.prog 69 #[.slice a l.length cap, .slice b l.length cap'] w fun e w' => e = .returned (.bool true) ∧ Below w.heap.size w w' := by
  have hn1 := hl.1
  go_enter Try.func69, Try.ntmps69
  go_wp2
  go_loopw [14] (fun i wr => ∃ k : Nat, k ≤ l.length ∧ i = .int .i64 k ∧ ∃ nd : Nat, wr = w.drewN nd) (fun i _ => l.length - (intOf i).toNat)
  case atStart => exact ⟨0, Nat.zero_le _, rfl, 0, rfl⟩
  case round =>
    obtain ⟨k, hk, rfl, nd, rfl⟩ := hrel
    by_cases hlt : k < l.length
    · obtain ⟨b1, o1, v1, p1, ha1, hb1, c1, d1, f1, g1⟩ := hl.2 k hlt
      obtain ⟨b2, o2, v2, p2, ha2, hb2, c2, d2, f2, g2⟩ := hm.2 k hlt
      subst ha1 ha2
      have kl : (k : Int) < (l.length : Int) := by omega
      clear hl hm
      generalize l.getD k t0 = q at *
      obtain ⟨q0, q1, q2⟩ := q
      simp only at c1 d1 f1 g1 c2 d2 f2 g2
      obtain ⟨gn, g1⟩ := g1
      obtain ⟨_, g2⟩ := g2
      go_wp2_with fail
      go_quiet (fail)
      go_wp2_with fail
      go_loopw [62] (fun i wr => ∃ j : Nat, j ≤ q2.length ∧ i = .int .i64 j ∧ ∃ nd : Nat, wr = w.drewN nd) (fun i _ => q2.length - (intOf i).toNat)
      case atStart => exact ⟨0, Nat.zero_le _, rfl, _, rfl⟩
      case round =>
        obtain ⟨j, hj, rfl, nd2, rfl⟩ := hrel
        by_cases hlj : j < q2.length
        · obtain ⟨b3, o3, ha3, hb3, c3⟩ := g1 j hlj
          obtain ⟨b4, o4, ha4, hb4, c4⟩ := g2 j hlj
          subst ha3 ha4
          have jl : (j : Int) < (q2.length : Int) := by omega
          clear g1 g2
          generalize q2.getD j ByteArray.empty = s at *
          go_wp2_with fail
          go_quiet (fail)
          go_wp2
          go_roundw
          case rel => exact ⟨j + 1, by omega, by go_num, _, rfl⟩
          case measure => simp [intOf]; omega
        · go_wp2
          go_roundw
          case rel => exact ⟨k + 1, by omega, by go_num, _, rfl⟩
          case measure => simp [intOf]; omega
    · go_wp2
      go_ret
      exact ⟨rfl, (by (repeat (with_reducible first | exact Below.refl _ _ | refine Below.alloc ?_ ?_ _ | refine Below.setCell ?_ ?_ _ | refine Below.drew ?_ | refine below_drewN ?_ _)); all_goals (simp <;> omega))⟩
end Go.Proofs.Ytnobgmdknalpdaa
