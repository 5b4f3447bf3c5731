/-
  The contract of code's reading of lists of terms. No conditions beyond what is written in each statement.
-/
import Derived.Test.YtnobgmdknalpdaaGet7
set_option linter.unusedSimpArgs false
set_option linter.unusedVariables false
namespace Go.Proofs.Ytnobgmdknalpdaa
open Go.RowKit

/-- A term, and where its Vals lie. -/
abbrev TrmH := Trm × Option Addr × Nat
def cellsT (x : TrmH) : List Value := [.string x.1.key, .int .i64 x.1.kind, .slice x.2.1 x.1.vals.length x.2.2]
def OwnV (w : World) (N : Nat) (x : TrmH) : Prop := w.ownsRow N 9 1 (.slice x.2.1 x.1.vals.length x.2.2) x.1.vals.length (strCells x.1.vals)
theorem own_apart {w : World} {b b' : Nat} {e e' : TypeId} {s s' : Nat} {v v' : Value} {n n' : Nat} {xs xs' : List Value} (h : w.ownsRow b e s v n xs) (h' : w.ownsRow b' e' s' v' n' xs') (hne : e' ≠ e) : v.ownBlock = none ∨ v.ownBlock ≠ v'.ownBlock := by
  cases hb : v.ownBlock with
  | none => exact Or.inl rfl
  | some A =>
    refine Or.inr fun hc => ?_
    rcases h'.2 with ⟨rfl, _⟩ | ⟨g, cap, cur, rfl, _, hg, _⟩
    · simp [Value.ownBlock] at hc
    · simp [Value.ownBlock] at hc
      subst hc
      exact own_ne h ⟨_, _, hg⟩ hne hb
/-- What a call that reads terms tells. -/
def TermsPost (w0 w : World) (R : Nat) (g : List Trm × RS) (e : Ending) (w' : World) : Prop :=
  ∃ (v : Value) (l : List TrmH), e = .returned v ∧ l.map (·.1) = g.1 ∧ w'.ownsRow w.heap.size 40 3 v l.length (l.flatMap cellsT) ∧ (∀ x ∈ l, OwnV w' w.heap.size x) ∧ Rd w0 w' R g.2.1 g.2.2 ∧ w.grownBy w' (some R)

theorem infoT : (Try.prog.info? 40).map (fun i => (i.zero, i.size, i.bytes)) = some (some (.agg #[.string ⟨#[]⟩, .int .i64 0, .slice none 0 0]), 3, 48) := by kernel_rfl

set_option maxRecDepth 100000 in
set_option maxHeartbeats 1000000 in
theorem getListT_any (R : Nat) (st : RS) (w0 w : World) (hr : Rd w0 w R st.1 st.2) :
    Calls Try.prog 60 #[.pointer (some ⟨R, 0, none⟩), .func (.func 61) #[] #[]] w (TermsPost w0 w R (gList gTerm st)) := by
  obtain ⟨i0, hi, hz0, hz1, hz2⟩ := info_parts infoT
  have HI := Lib.hid (And.intro hi (And.intro hz0 (And.intro hz1 hz2)))
  clear hi hz0 hz1 hz2
  have hRw := hr.lt
  have hold := hr.old
  have hsz := hr.below.size
  have HR := Lib.hid hr
  clear hr
  have hlen : ∀ x : TrmH, (cellsT x).length = 3 := fun x => rfl
  have HW := Lib.hid (gWord_le HR.out.bytes)
  go_enter Try.func60, Try.ntmps60
  go_wp2_with fail
  refine (getWord_any R st w0 _ HR.out).mono ?_
  rintro e w1 ⟨rfl, hr1, hg1⟩
  by_cases h6 : 6 < (gWord st).1
  · obtain ⟨_, c1, _, f1⟩ := hr1.cells
    go_wp2
    go_ret
    refine ⟨_, [], rfl, ?_, World.ownsRow_nil _ _ _ _, fun x hx => by simp at hx, ?_, ?_⟩
    · unfold gList; rw [if_pos h6]; rfl
    · unfold gList; rw [if_pos h6]; exact hr1.setBad
    · exact grown_trans hg1 (grown_set _ _ _ _)
  · have hg0 : gList gTerm st = gMany gTerm (gWord st).1.toNat (gWord st).2 := by unfold gList; rw [if_neg h6]
    have HG0 := Lib.hid hg0
    have hm : ∃ m : Nat, (gWord st).1 = (m : Int) ∧ m ≤ 6 := ⟨(gWord st).1.toNat, by have := HW.out.1; omega, by have := HW.out.1; omega⟩
    obtain ⟨m, hm1, hm2⟩ := hm
    rw [hm1] at h6
    rw [hm1]
    have HM := Lib.hid hm1
    have hs1 := hg1.size
    have f1 := (Fr.refl w.heap.size R w).grown (Nat.le_refl _) hg1
    have H1 := Lib.hid (And.intro hr1 f1)
    clear hm1 hg0 hr1 hg1 f1 h6
    go_wp2
    go_loopw [6, 15] (fun u i wr => ∃ k : Nat, k ≤ m ∧ i = .int .u64 k ∧ ∃ (l : List TrmH) (s : RS), Hid (l.length = k) ∧ wr.ownsRow w.heap.size 40 3 u k (l.flatMap cellsT) ∧ Hid (∀ x ∈ l, OwnV wr w.heap.size x) ∧ Rd w0 wr R s.1 s.2 ∧ Fr w.heap.size R w wr
        ∧ Hid (gMany gTerm m (gWord st).2 = (l.map (·.1) ++ (gMany gTerm (m - k) s).1, (gMany gTerm (m - k) s).2))) (fun _ i _ => m - (intOf i).toNat)
    case atStart => exact ⟨0, Nat.zero_le _, rfl, [], (gWord st).2, rfl, World.ownsRow_nil _ _ _ _, fun x hx => by simp at hx, H1.out.1, H1.out.2, rfl⟩
    case round =>
      obtain ⟨k, hk, rfl, l, s, hl, hown, hall, hrd, hfr, hmany⟩ := hrel
      by_cases hlt : k < m
      · have hfs := hfr.size
        go_wp2_with fail
        refine (getTerm_any R s w0 _ hrd).mono ?_
        rintro e w2 ⟨a, cap, rfl, hov, hr2, hg2⟩
        have hs2 := hg2.size
        have hown2 := hown.kept hg2 (Or.inr (fun e => by have := (hown.lt R e).1; omega))
        have hall2 : Hid (∀ x ∈ l, OwnV w2 w.heap.size x) := fun x hx => (hall.out x hx).kept hg2 (Or.inr (fun e => by have := ((hall.out x hx).lt R e).1; omega))
        have hov2 : OwnV w2 w.heap.size ((gTerm s).1, a, cap) := hov.mono (by omega)
        have HV := Lib.hid hov2
        have hfr2 := hfr.grown (by omega) hg2
        have hl1 : k + 1 ≤ maxLen := by unfold maxLen; omega
        have hl2 : (k + 1) * 48 ≤ 140737488355328 := by omega
        have hB2 : w.heap.size ≤ w2.heap.size + 1 := by omega
        clear hrd hown hfr hg2 hov hov2 hall
        go_wp2_with (at_builtin; refine wpList_append_own _ rfl (.tmp 17) (.tmp 21) 26 rfl w.heap.size 40 i0 (.agg #[.string ⟨#[]⟩, .int .i64 0, .slice none 0 0]) 3 48 Try.underlying26 HI.out.1 HI.out.2.1 HI.out.2.2.1 HI.out.2.2.2 rfl (by decide) _ k (l.flatMap cellsT) rfl (hown2.alloc _) ⟨w2.heap.size, 0, none⟩ 1 1 (cellsT ((gTerm s).1, a, cap)) rfl (hlen _) (new_cells _ _ _) (by simp [cellsT, Value.oneCell']) hl1 hl2 (by simp; exact hB2) ?_; intro v' w3 hown' hgrow hnil)
        go_roundw
        case rel =>
          have hN : ∀ j, (Value.ownBlock _) = some j → w.heap.size ≤ j := fun j hj => (hown2.lt j hj).1
          have hfr3 := (hfr2.alloc (by omega) _).own (by simp; omega) hgrow hN
          refine ⟨k + 1, by omega, by go_num, l ++ [((gTerm s).1, a, cap)], (gTerm s).2, by show _ = _; simp [hl.out], by simpa using hown', ?_, ?_, hfr3, ?_⟩
          · intro x hx
            have hx2 : OwnV w2 w.heap.size x := by
              rcases List.mem_append.1 hx with h | h
              · exact hall2.out x h
              · simp at h; subst h; exact HV.out
            refine World.ownsRow.kept (World.ownsRow.alloc hx2 _) hgrow ?_
            exact own_apart hx2 hown2 (by decide)
          · exact rd_own (hr2.alloc _) hgrow (fun j hj => by have := hN j hj; omega) (fun j hj => by have := hN j hj; omega)
          · show _ = _
            rw [hmany.out, show m - k = (m - (k + 1)) + 1 by omega]
            simp [gMany]
        case measure => simp [intOf]; omega
      · obtain rfl : k = m := by omega
        go_wp2
        go_ret
        have hmm := hmany.out
        rw [Nat.sub_self] at hmm
        have hg : gList gTerm st = (l.map (·.1), s) := by rw [HG0.out, HM.out, Int.toNat_natCast, hmm]; simp [gMany]
        refine ⟨_, l, rfl, by rw [hg], ?_, hall.out, ?_, hfr.out⟩
        · rw [hl.out]; exact hown
        · rw [hg]; exact hrd
end Go.Proofs.Ytnobgmdknalpdaa
