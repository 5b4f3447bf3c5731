/-
  Plain facts: what a pod, a node that may be has in it, and how long its bytes are.
-/
import Derived.Test.YtnobgmdknalpdaaPut4
set_option linter.unusedSimpArgs false
set_option linter.unusedVariables false
namespace Go.Proofs.Ytnobgmdknalpdaa
open Go.RowKit

theorem okName_of {s : ByteArray} (h : nameL s.data.toList = true) : okName s := by
  unfold nameL at h
  simp only [Bool.and_eq_true, decide_eq_true_eq] at h
  exact ⟨by simpa using h.1.2, h.2⟩
theorem okName_empty : okName ByteArray.empty := ⟨by decide, by decide⟩

theorem mayL_ok {l : List Str2} (h : mayL l = true) : l.length ≤ 6 ∧ ∀ x ∈ l, okPair x := by
  unfold mayL at h
  simp only [Bool.and_eq_true, decide_eq_true_eq, List.all_eq_true] at h
  refine ⟨h.1, fun x hx => ?_⟩
  obtain ⟨k, hk, rfl⟩ := List.getElem_of_mem hx
  have h2 := h.2 k (by simpa using hk)
  unfold stepL keyAt valAt at h2
  simp only [Bool.and_eq_true, List.getD_eq_getElem?_getD, List.getElem?_eq_getElem hk, Option.getD_some] at h2
  exact ⟨okName_of h2.1.1, okName_of h2.1.2⟩

theorem valsB_ok {l : List ByteArray} (h : valsB l = true) : l.length ≤ 6 ∧ ∀ v ∈ l, okName v := by
  unfold valsB allNames at h
  simp only [Bool.and_eq_true, decide_eq_true_eq, List.all_eq_true] at h
  exact ⟨h.1.2, fun v hv => okName_of (h.2 v hv)⟩
theorem termB_ok {k : ByteArray} {kind : Int} {vals : List ByteArray} (h : termB k kind vals = true) : okName k ∧ (1 ≤ kind ∧ kind ≤ 4) ∧ vals.length ≤ 6 ∧ ∀ v ∈ vals, okName v := by
  unfold termB at h
  simp only [Bool.and_eq_true] at h
  refine ⟨okName_of h.1, ?_⟩
  have h2 := h.2
  split at h2
  · exact ⟨by omega, valsB_ok h2⟩
  · split at h2
    · have : vals.length = 0 := of_decide_eq_true h2
      obtain rfl : vals = [] := List.eq_nil_of_length_eq_zero this
      exact ⟨by omega, by simp, by simp⟩
    · simp at h2
theorem mayT_ok {ts : List Trm} (h : mayT ts = true) : ts.length ≤ 6 ∧ (∀ t ∈ ts, okTrm t) ∧ (∀ t ∈ ts, t.vals.length ≤ 6) := by
  unfold mayT termsB at h
  simp only [Bool.and_eq_true, decide_eq_true_eq, List.all_eq_true] at h
  refine ⟨h.1, fun t ht => ?_, fun t ht => ?_⟩
  · obtain ⟨a, b, c, d⟩ := termB_ok (h.2 t ht)
    exact ⟨a, ⟨by omega, by show _ < _; omega⟩, by omega, d⟩
  · exact (termB_ok (h.2 t ht)).2.2.1
theorem tolB_ok {t : Tol} (h : tolB t = true) : okTol t := by
  unfold tolB at h
  simp only [Bool.and_eq_true, Bool.or_eq_true, decide_eq_true_eq] at h
  refine ⟨?_, ?_⟩
  · rcases h.1 with e | e
    · rw [e]; exact okName_empty
    · exact okName_of e
  · have h2 := h.2
    split at h2
    · have e : t.2.1 = ByteArray.empty := of_decide_eq_true h2
      rw [e]; exact okName_empty
    · exact okName_of h2
theorem mayTols_ok {l : List Tol} (h : mayTolsB l = true) : l.length ≤ 6 ∧ ∀ x ∈ l, okTol x := by
  unfold mayTolsB at h
  simp only [Bool.and_eq_true, decide_eq_true_eq, List.all_eq_true] at h
  exact ⟨h.1, fun x hx => tolB_ok (h.2 x hx)⟩
theorem portsFrom_ok {l : List Int} : ∀ {last : Int}, 0 ≤ last → portsFrom last l = true → ∀ x ∈ l, okInt x := by
  induction l with
  | nil => intro _ _ _ x hx; simp at hx
  | cons y r ih =>
    intro last h0 h x hx
    unfold portsFrom at h
    simp only [Bool.and_eq_true, decide_eq_true_eq] at h
    rcases List.mem_cons.1 hx with rfl | hx
    · exact ⟨by omega, by omega⟩
    · exact ih (by omega) h.2 x hx
theorem portsB_ok {l : List Int} (h : portsB l = true) : l.length ≤ 6 ∧ ∀ x ∈ l, okInt x := by
  unfold portsB at h
  simp only [Bool.and_eq_true, decide_eq_true_eq] at h
  exact ⟨h.1, portsFrom_ok (Int.le_refl 0) h.2⟩
theorem withinB_ok {a b c m : Int} (h : withinB a b c m = true) (hm : m ≤ 1000000000) : okInt a ∧ okInt b ∧ okInt c := by
  have h := within_le h
  exact ⟨⟨by omega, by omega⟩, ⟨by omega, by omega⟩, ⟨by omega, by omega⟩⟩
theorem placeB_ok {node : ByteArray} {term : Int} (h : placeB node term = true) : okName node ∧ 0 ≤ term := by
  unfold placeB at h
  split at h
  · rename_i e
    have := of_decide_eq_true h
    rw [e]; exact ⟨okName_empty, by omega⟩
  · simp only [Bool.and_eq_true, decide_eq_true_eq] at h
    exact ⟨okName_of h.1, by omega⟩
theorem spreadB_ok {p : PodD} (h : spreadB p = true) : mayT p.anti = true ∧ mayT p.even = true ∧ 0 ≤ p.skew ∧ p.skew ≤ 10 ∧ okName p.topo := by
  unfold spreadB at h
  simp only [Bool.and_eq_true, decide_eq_true_eq] at h
  obtain ⟨⟨⟨⟨h1, h2⟩, h3⟩, h4⟩, h5⟩ := h
  refine ⟨h1, h2, h3, h4, ?_⟩
  split at h5
  · rename_i e; rw [e]; exact okName_empty
  · exact okName_of h5
theorem podB_parts {p : PodD} (h : podB p = true) : nameL p.name.data.toList = true ∧ 1 ≤ p.uid ∧ p.uid ≤ 1099511627776 ∧ 0 ≤ p.prio ∧ p.prio ≤ 1000 ∧ withinB p.r0 p.r1 p.r2 1000000000 = true ∧ portsB p.ports = true ∧ mayL p.labels = true ∧ mayT p.sel = true
    ∧ mayTolsB p.tols = true ∧ spreadB p = true ∧ placeB p.node p.term = true := by
  unfold podB at h
  simp only [Bool.and_eq_true, decide_eq_true_eq] at h
  obtain ⟨⟨⟨⟨⟨⟨⟨⟨⟨⟨⟨a, b⟩, c⟩, d⟩, e⟩, f⟩, g⟩, i⟩, j⟩, k⟩, l⟩, m⟩ := h
  exact ⟨a, b, c, d, e, f, g, i, j, k, l, m⟩

theorem flatMap_len {α : Type} {enc : α → List Value} {m : Nat} : ∀ {l : List α}, (∀ x ∈ l, (enc x).length ≤ m) → (l.flatMap enc).length ≤ m * l.length
  | [], _ => by simp
  | x :: r, h => by
    have h1 := h x (by simp)
    have h2 := flatMap_len (l := r) fun y hy => h y (by simp [hy])
    simp only [List.flatMap_cons, List.length_append, List.length_cons, Nat.mul_succ]
    omega
theorem lbytes_len {α : Type} {enc : α → List Value} {m : Nat} {l : List α} (h : ∀ x ∈ l, (enc x).length ≤ m) (hl : l.length ≤ 6) : (lbytes enc l).length ≤ 8 + 6 * m := by
  have h1 := flatMap_len h
  have h2 : m * l.length ≤ m * 6 := Nat.mul_le_mul_left _ hl
  simp only [lbytes, List.length_append, wbytes_len]
  omega
theorem lbytesI_len {l : List Int} (hl : l.length ≤ 6) : (lbytes ibytes l).length ≤ 56 := lbytes_len (m := 8) (fun x _ => by simp [ibytes, wbytes_len]) hl
theorem lbytesS_len {l : List ByteArray} (hl : l.length ≤ 6) : (lbytes nbytes l).length ≤ 56 := lbytes_len (m := 8) (fun x _ => by simp [nbytes_len]) hl
theorem lbytesP_len {l : List Str2} (hl : l.length ≤ 6) : (lbytes pbytes l).length ≤ 104 := lbytes_len (m := 16) (fun x _ => by simp [pbytes_len]) hl
theorem lbytesL_len {l : List Tol} (hl : l.length ≤ 6) : (lbytes tbytes l).length ≤ 152 := lbytes_len (m := 24) (fun x _ => by simp [tbytes_len]) hl
theorem lbytesT_len {l : List Trm} (hl : l.length ≤ 6) (hv : ∀ t ∈ l, t.vals.length ≤ 6) : (lbytes rbytes l).length ≤ 440 :=
  lbytes_len (m := 72) (fun x hx => by have := lbytesS_len (hv x hx); simp only [rbytes, List.length_append, nbytes_len, wbytes_len]; omega) hl

def podBytes (p : PodD) : List Value := wbytes 1 ++ nbytes p.name ++ wbytes p.uid.toNat ++ wbytes p.prio.toNat ++ resBytes p.r0 p.r1 p.r2 ++ lbytes ibytes p.ports ++ lbytes pbytes p.labels ++ lbytes rbytes p.sel ++ lbytes tbytes p.tols ++ nbytes p.topo
  ++ lbytes rbytes p.anti ++ wbytes p.skew.toNat ++ lbytes rbytes p.even ++ nbytes p.node ++ wbytes p.term.toNat
def podEnc (p : PodD) : List Value := if podB p then podBytes p else []
end Go.Proofs.Ytnobgmdknalpdaa
