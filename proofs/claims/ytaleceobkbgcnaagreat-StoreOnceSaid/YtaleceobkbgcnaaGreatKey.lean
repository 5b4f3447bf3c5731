/-
  The contracts of code.Key and code.Kind. No conditions beyond what is written in each statement.
-/
import Derived.Test.YtaleceobkbgcnaaGreatGLabel
set_option linter.unusedSimpArgs false
set_option linter.unusedVariables false
namespace Go.Proofs.YtaleceobkbgcnaaGreat
open Go.RowKit

def pS : ByteArray := ⟨#[112, 47]⟩
def nS : ByteArray := ⟨#[110, 47]⟩
def lS : ByteArray := ⟨#[108]⟩
def keyOf (kind : Int) (name : ByteArray) : ByteArray :=
  if kind = 3 then lS else if kind = 1 ∧ nameL name.data.toList = true then pS ++ name else if kind = 2 ∧ nameL name.data.toList = true then nS ++ name else ⟨#[]⟩

set_option maxRecDepth 100000 in
set_option maxHeartbeats 1000000 in
theorem key_any (kind : Int) (name : ByteArray) (w : World) (hs : name.size ≤ maxLen) :
    Calls Tryz.prog 164 #[.int .i64 kind, .string name] w fun e w' => e = .returned (.string (keyOf kind name)) ∧ w' = w := by
  have hn : nameL name.data.toList = true → name.size ≤ 12 := fun h => by
    unfold nameL at h
    simp only [Bool.and_eq_true, decide_eq_true_eq] at h
    simpa using h.1.2
  by_cases k3 : kind = 3
  · subst k3
    go_enter Tryz.func164, Tryz.ntmps164
    go_wp2
    go_ret
    exact ⟨rfl, rfl⟩
  by_cases k1 : kind = 1
  · subst k1
    cases hx : nameL name.data.toList
    · have HX := Lib.hid hx
      go_enter Tryz.func164, Tryz.ntmps164
      go_wp2_with (go_at_call 198; refine (name_any _ _).mono ?_; rintro e w' ⟨rfl, rfl⟩)
      go_ret
      exact ⟨by unfold keyOf; simp [HX.out], rfl⟩
    · have HX := Lib.hid hx
      have h12 := hn hx
      go_enter Tryz.func164, Tryz.ntmps164
      go_wp2_with (go_at_call 198; refine (name_any _ _).mono ?_; rintro e w' ⟨rfl, rfl⟩)
      go_ret
      exact ⟨by unfold keyOf; simp [HX.out, pS], rfl⟩
  by_cases k2 : kind = 2
  · subst k2
    cases hx : nameL name.data.toList
    · have HX := Lib.hid hx
      go_enter Tryz.func164, Tryz.ntmps164
      go_wp2_with (go_at_call 198; refine (name_any _ _).mono ?_; rintro e w' ⟨rfl, rfl⟩)
      go_ret
      exact ⟨by unfold keyOf; simp [HX.out], rfl⟩
    · have HX := Lib.hid hx
      have h12 := hn hx
      go_enter Tryz.func164, Tryz.ntmps164
      go_wp2_with (go_at_call 198; refine (name_any _ _).mono ?_; rintro e w' ⟨rfl, rfl⟩)
      go_ret
      exact ⟨by unfold keyOf; simp [HX.out, nS], rfl⟩
  · go_enter Tryz.func164, Tryz.ntmps164
    go_wp2
    go_ret
    exact ⟨by unfold keyOf; simp [k1, k2, k3], rfl⟩

/-- What stands behind the first two bytes. -/
def tailOf (s : ByteArray) : ByteArray := s.extract 2 s.size
def hasP (s p : ByteArray) : Bool := decide (2 ≤ s.size) && decide (s.extract 0 2 = p)
set_option maxRecDepth 100000 in
set_option maxHeartbeats 1000000 in
theorem hasPrefix_any (s p : ByteArray) (w : World) (hp : p.size = 2) :
    Calls Tryz.prog 248 #[.string s, .string p] w fun e w' => e = .returned (.bool (hasP s p)) ∧ w' = w := by
  by_cases h2 : 2 ≤ s.size
  · go_enter Tryz.func248, Tryz.ntmps248
    go_wp2
    go_ret
    refine ⟨ret_bool ?_, rfl⟩
    simp [hasP, h2, toList_beq]
  · go_enter Tryz.func248, Tryz.ntmps248
    go_wp2
    go_ret
    refine ⟨ret_bool ?_, rfl⟩
    simp [hasP, h2]

set_option maxRecDepth 100000 in
set_option maxHeartbeats 1000000 in
theorem cutPrefix_any (s p : ByteArray) (w : World) (hp : p.size = 2) :
    Calls Tryz.prog 210 #[.string s, .string p] w fun e w' => e = .returned (.tuple #[.string (if hasP s p then tailOf s else s), .bool (hasP s p)]) ∧ w' = w := by
  cases hx : hasP s p
  · go_enter Tryz.func210, Tryz.ntmps210
    go_wp2_with (first | (go_at_call 248; refine (hasPrefix_any _ _ _ hp).mono ?_; rintro e w' ⟨rfl, rfl⟩) | (go_at_call 238; go_in))
    go_ret2
    exact ⟨rfl, rfl⟩
  · have h2 : 2 ≤ s.size := by unfold hasP at hx; simp at hx; exact hx.1
    go_enter Tryz.func210, Tryz.ntmps210
    go_wp2_with (first | (go_at_call 248; refine (hasPrefix_any _ _ _ hp).mono ?_; rintro e w' ⟨rfl, rfl⟩) | (go_at_call 238; go_in))
    go_ret2
    exact ⟨rfl, rfl⟩

def kindOf (s : ByteArray) : Int := if s = lS then 3 else if hasP s pS && nameL (tailOf s).data.toList then 1 else if hasP s nS && nameL (tailOf s).data.toList then 2 else 0
set_option maxRecDepth 100000 in
set_option maxHeartbeats 1000000 in
theorem kind_any (s : ByteArray) (w : World) :
    Calls Tryz.prog 165 #[.string s] w fun e w' => e = .returned (.int .i64 (kindOf s)) ∧ w' = w := by
  by_cases hl : s = lS
  · subst hl
    go_enter Tryz.func165, Tryz.ntmps165
    unfold lS
    go_wp2
    go_ret
    exact ⟨by unfold kindOf; simp [lS], rfl⟩
  · have hl2 : (s.toList == [108]) = false := by
      have h : (s.toList == lS.toList) = false := by rw [toList_beq, decide_eq_false hl]
      rw [show lS.toList = [108] by rw [ByteArray.toList_eq]; rfl] at h
      exact h
    have hne : ¬ s.toList = [108] := by simpa using hl2
    have HN := Lib.hid hl
    have hp1 : pS.size = 2 := rfl
    have hp2 : nS.size = 2 := rfl
    clear hl
    cases h1 : hasP s pS
    · cases h2 : hasP s nS
      · go_enter Tryz.func165, Tryz.ntmps165
        go_wp2_with fail
        refine (cutPrefix_any s pS _ hp1).mono ?_
        rintro e w' ⟨rfl, rfl⟩
        go_wp2_with fail
        refine (cutPrefix_any s nS _ hp2).mono ?_
        rintro e w' ⟨rfl, rfl⟩
        go_wp2
        go_ret
        exact ⟨by unfold kindOf; simp [HN.out, h1, h2], rfl⟩
      · cases h3 : nameL (tailOf s).data.toList
        · go_enter Tryz.func165, Tryz.ntmps165
          go_wp2_with fail
          refine (cutPrefix_any s pS _ hp1).mono ?_
          rintro e w' ⟨rfl, rfl⟩
          go_wp2_with fail
          refine (cutPrefix_any s nS _ hp2).mono ?_
          rintro e w' ⟨rfl, rfl⟩
          go_wp2_with (go_at_call 198; refine (name_any _ _).mono ?_; rintro e w' ⟨rfl, rfl⟩)
          go_ret
          exact ⟨by unfold kindOf; simp [HN.out, h1, h3], rfl⟩
        · go_enter Tryz.func165, Tryz.ntmps165
          go_wp2_with fail
          refine (cutPrefix_any s pS _ hp1).mono ?_
          rintro e w' ⟨rfl, rfl⟩
          go_wp2_with fail
          refine (cutPrefix_any s nS _ hp2).mono ?_
          rintro e w' ⟨rfl, rfl⟩
          go_wp2_with (go_at_call 198; refine (name_any _ _).mono ?_; rintro e w' ⟨rfl, rfl⟩)
          go_ret
          exact ⟨by unfold kindOf; simp [HN.out, h1, h2, h3], rfl⟩
    · cases h3 : nameL (tailOf s).data.toList
      · have h2 : hasP s nS = false := by
          unfold hasP at h1 ⊢
          simp only [Bool.and_eq_true, decide_eq_true_eq] at h1
          rw [h1.2]
          simp [pS, nS]
        go_enter Tryz.func165, Tryz.ntmps165
        go_wp2_with fail
        refine (cutPrefix_any s pS _ hp1).mono ?_
        rintro e w' ⟨rfl, rfl⟩
        go_wp2_with (first | (go_at_call 198; refine (name_any _ _).mono ?_; rintro e w' ⟨rfl, rfl⟩))
        refine (cutPrefix_any s nS _ hp2).mono ?_
        rintro e w' ⟨rfl, rfl⟩
        go_wp2_with (go_at_call 198; refine (name_any _ _).mono ?_; rintro e w' ⟨rfl, rfl⟩)
        go_ret
        exact ⟨by unfold kindOf; simp [HN.out, h2, h3], rfl⟩
      · go_enter Tryz.func165, Tryz.ntmps165
        go_wp2_with fail
        refine (cutPrefix_any s pS _ hp1).mono ?_
        rintro e w' ⟨rfl, rfl⟩
        go_wp2_with (go_at_call 198; refine (name_any _ _).mono ?_; rintro e w' ⟨rfl, rfl⟩)
        go_ret
        exact ⟨by unfold kindOf; simp [HN.out, h1, h3], rfl⟩
end Go.Proofs.YtaleceobkbgcnaaGreat
