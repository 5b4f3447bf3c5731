/-
  The contracts of package code: how terms, amounts and whole objects are written. No conditions beyond what is written in each statement.
-/
import Derived.Test.YtaleceobkbgcnaaGreatGPutA
import Derived.Deep.Onto
set_option linter.unusedSimpArgs false
set_option linter.unusedVariables false
namespace Go.Proofs.YtaleceobkbgcnaaGreat
open Go.RowKit

def rbytes (t : Trm) : List Value := (nbytes t.key ++ wbytes t.kind.toNat) ++ lbytes nbytes t.vals
def okTrm (t : Trm) : Prop := okName t.key ∧ okInt t.kind ∧ t.vals.length ≤ 1000000 ∧ ∀ v ∈ t.vals, okName v
theorem nbytes_len (x : ByteArray) : (nbytes x).length = 8 := by simp [nbytes, wbytes_len]

set_option maxRecDepth 100000 in
set_option maxHeartbeats 1000000 in
theorem putTerm_any (t : Trm) (va : Option Addr) (vcap : Nat) (v : Value) (n : Nat) (xs : List Value) (w0 w : World) (h0 : Below w0.heap.size w0 w) (hv : At1 w0 va t.vals) (hok : okTrm t)
    (ho : w.ownsRow w0.heap.size 5 1 v n xs) (hn : n + (rbytes t).length ≤ 1000000) :
    Calls Tryz.prog 179 #[v, trm t.key t.kind va t.vals.length vcap] w (PutPost w0.heap.size w (n + (rbytes t).length) (xs ++ rbytes t)) := by
  obtain ⟨hk, hi, hm, hvs⟩ := hok
  have hB := h0.size
  have HN := Lib.hid hn
  have hn2 : n + 8 + 8 + (lbytes nbytes t.vals).length ≤ 1000000 := by
    simp only [rbytes, List.length_append, nbytes_len, wbytes_len] at hn; omega
  clear hn
  go_enter Tryz.func179, Tryz.ntmps179
  go_wp2_with fail
  refine (putName_any t.key v n xs w0.heap.size _ hk.1 hk.2 (ho.alloc _) (by simp; omega) (by omega)).mono ?_
  rintro e w1 ⟨v1, rfl, ho1, hp1⟩
  have hx1 := fun o => hp1.cell (heap_alloc_self w _) (by decide) o
  have hB1 := hp1.below.size
  simp at hB1
  go_wp2_with fail
  refine (putNumI_any t.kind v1 (n + 8) _ w0.heap.size w1 hi.1 hi.2 ho1 (by omega) (by omega)).mono ?_
  rintro e w2 ⟨v2, rfl, ho2, hp2⟩
  have hx2 := fun o => (hp1.trans hp2).cell (heap_alloc_self w _) (by decide) o
  have hB2 := hp2.below.size
  have hp := (((Puts.refl w0.heap.size w).alloc hB _).trans hp1).trans hp2
  clear hp1 hp2 hx1
  go_wp2_with fail
  refine (putListS_any va t.vals vcap v2 (n + 8 + 8) _ w0 w2 hv hm hvs (h0.trans hp.below) ho2 hn2).mono ?_
  rintro e w3 ⟨v3, rfl, ho3, hp3⟩
  go_wp2
  go_ret
  refine ⟨v3, rfl, ?_, hp.trans hp3⟩
  unfold rbytes
  rw [← List.append_assoc, ← List.append_assoc, List.length_append, List.length_append, nbytes_len, wbytes_len, ← Nat.add_assoc, ← Nat.add_assoc]
  exact ho3

set_option maxRecDepth 100000 in
set_option maxHeartbeats 1000000 in
theorem putListT_any (a : Option Addr) (l : List Trm) (cap : Nat) (v : Value) (n : Nat) (xs : List Value) (w0 w : World) (hl : AtT w0 a l) (hm : l.length ≤ 1000000) (hok : ∀ x ∈ l, okTrm x) (h0 : Below w0.heap.size w0 w)
    (ho : w.ownsRow w0.heap.size 5 1 v n xs) (hn : n + (lbytes rbytes l).length ≤ 1000000) :
    Calls Tryz.prog 178 #[v, .slice a l.length cap, .func (.func 179) #[] #[]] w (PutPost w0.heap.size w (n + (lbytes rbytes l).length) (xs ++ lbytes rbytes l)) := by
  have hB := h0.size
  have HN := Lib.hid hn
  have hn1 : n ≤ 1000000 := by omega
  clear hn
  go_enter Tryz.func178, Tryz.ntmps178
  go_wp2_with fail
  refine (putNumI_any (l.length : Int) v n xs w0.heap.size w (by omega) (by show _ < (9223372036854775808 : Int); omega) ho hB hn1).mono ?_
  rintro e w1 ⟨v1, rfl, ho1, hp1⟩
  rw [Int.toNat_natCast] at ho1
  go_wp2
  go_loopw [0, 15] (fun u i wr => ∃ k : Nat, k ≤ l.length ∧ i = .int .i64 k ∧ wr.ownsRow w0.heap.size 5 1 u (n + (wbytes l.length ++ (l.take k).flatMap rbytes).length) (xs ++ (wbytes l.length ++ (l.take k).flatMap rbytes)) ∧ Puts w0.heap.size w wr) (fun _ i _ => l.length - (intOf i).toNat)
  case atStart => exact ⟨0, Nat.zero_le _, rfl, by simpa [wbytes_len] using ho1, hp1⟩
  case round =>
    obtain ⟨k, hk, rfl, hown, hput⟩ := hrel
    have hbel := h0.trans hput.below
    by_cases hlt : k < l.length
    · have hsu := Lib.hid (flatMap_succ (d := t0) rbytes hlt)
      have hkok := hok (l.getD k t0) (getD_mem hlt)
      have hlen : Hid (n + ((wbytes l.length ++ (l.take k).flatMap rbytes) ++ rbytes (l.getD k t0)).length ≤ 1000000) := by
        show _ ≤ _
        have h := HN.out
        rw [lbytes_split (d := t0) rbytes hlt] at h
        simp only [List.length_append] at h ⊢
        omega
      obtain ⟨b, off, va, vcap, ha, hb, d0, d1, d2, hv⟩ := hl.2 k hlt; have c0 := cell_later hbel d0; have c1 := cell_later hbel d1; have c2 := cell_later hbel d2; clear d0 d1 d2 hl; subst ha
      clear hok
      generalize hq : l.getD k t0 = q at *
      clear hq
      obtain ⟨q0, q1, q2⟩ := q; simp only at c0 c1 c2 hv; go_wp2_with fail; refine (putTerm_any ⟨q0, q1, q2⟩ va vcap _ _ _ w0 _ (hbel.alloc hbel.size _) hv hkok (hown.alloc _) (by have := hlen.out; simp only [List.length_append] at this ⊢; omega)).mono ?_
      rintro e w2 ⟨v2, rfl, ho2, hp2⟩
      go_wp2
      go_roundw
      case rel =>
        refine ⟨k + 1, by omega, by go_num, ?_, hput.trans (((Puts.refl _ wr).alloc hbel.size _).trans hp2)⟩
        rw [hsu.out, ← List.append_assoc (wbytes l.length), ← List.append_assoc xs, List.length_append (bs := rbytes _), ← Nat.add_assoc]
        exact ho2
      case measure => simp [intOf]; omega
    · go_wp2
      go_ret
      have hk2 : l.take k = l := List.take_of_length_le (by omega)
      rw [hk2] at hown
      exact ⟨_, rfl, hown, hput⟩

def resBytes (a b c : Int) : List Value := (wbytes a.toNat ++ wbytes b.toNat) ++ wbytes c.toNat

set_option maxRecDepth 100000 in
set_option maxHeartbeats 1000000 in
theorem putRes_any (a b c : Int) (v : Value) (n : Nat) (xs : List Value) (B : Nat) (w : World) (ha : okInt a) (hb : okInt b) (hc : okInt c) (ho : w.ownsRow B 5 1 v n xs) (hB : B ≤ w.heap.size) (hn : n + 16 ≤ 1000000) :
    Calls Tryz.prog 174 #[v, res a b c] w (PutPost B w (n + 24) (xs ++ resBytes a b c)) := by
  have i0 := ix0 a b c
  have i1 := ix1 a b c
  have i2 := ix2 a b c
  have HA := Lib.hid (And.intro ha (And.intro hb hc))
  clear ha hb hc
  go_enter Tryz.func174, Tryz.ntmps174
  go_wp2
  refine wp_loop_rounds 4 ?_
  rw [rounds_succ]
  go_wp2_with fail
  refine (putNumL_any a v n xs B _ HA.out.1.1 HA.out.1.2 (ho.alloc _) (by simp; omega) (by omega)).mono ?_
  rintro e w1 ⟨v1, rfl, ho1, hp1⟩
  have hB1 := hp1.below.size
  simp at hB1
  go_wp2_with fail
  rw [rounds_succ]
  go_wp2_with fail
  refine (putNumL_any b v1 (n + 8) _ B w1 HA.out.2.1.1 HA.out.2.1.2 ho1 (by omega) (by omega)).mono ?_
  rintro e w2 ⟨v2, rfl, ho2, hp2⟩
  have hB2 := hp2.below.size
  go_wp2_with fail
  rw [rounds_succ]
  go_wp2_with fail
  refine (putNumL_any c v2 (n + 8 + 8) _ B w2 HA.out.2.2.1 HA.out.2.2.2 ho2 (by omega) (by omega)).mono ?_
  rintro e w3 ⟨v3, rfl, ho3, hp3⟩
  go_wp2_with fail
  rw [rounds_succ]
  go_wp2
  go_ret
  refine ⟨v3, rfl, ?_, ((((Puts.refl B w).alloc hB _).trans hp1).trans hp2).trans hp3⟩
  unfold resBytes
  rw [← List.append_assoc, ← List.append_assoc]
  exact ho3
end Go.Proofs.YtaleceobkbgcnaaGreat
namespace Go.Proofs.YtaleceobkbgcnaaGreat
open Go.RowKit

theorem okName_of {s : ByteArray} (h : nameL s.data.toList = true) : okName s := by
  unfold nameL at h
  simp only [Bool.and_eq_true, decide_eq_true_eq] at h
  exact ⟨by simpa using h.1.2, h.2⟩
theorem okName_empty : okName ByteArray.empty := ⟨by decide, by decide⟩

theorem mayL_ok {l : List Str2} (h : mayL l = true) : l.length ≤ 6 ∧ ∀ x ∈ l, okPair x := by
  unfold mayL at h
  simp only [Bool.and_eq_true, decide_eq_true_eq, List.all_eq_true] at h
  refine ⟨h.1, fun x hx => ?_⟩
  obtain ⟨k, hk, rfl⟩ := List.getElem_of_mem hx
  have h2 := h.2 k (by simpa using hk)
  unfold stepL keyAt valAt at h2
  simp only [Bool.and_eq_true, List.getD_eq_getElem?_getD, List.getElem?_eq_getElem hk, Option.getD_some] at h2
  exact ⟨okName_of h2.1.1, okName_of h2.1.2⟩

theorem valsB_ok {l : List ByteArray} (h : valsB l = true) : l.length ≤ 6 ∧ ∀ v ∈ l, okName v := by
  unfold valsB allNames at h
  simp only [Bool.and_eq_true, decide_eq_true_eq, List.all_eq_true] at h
  exact ⟨h.1.2, fun v hv => okName_of (h.2 v hv)⟩
theorem termB_ok {k : ByteArray} {kind : Int} {vals : List ByteArray} (h : termB k kind vals = true) : okName k ∧ (1 ≤ kind ∧ kind ≤ 4) ∧ vals.length ≤ 6 ∧ ∀ v ∈ vals, okName v := by
  unfold termB at h
  simp only [Bool.and_eq_true] at h
  refine ⟨okName_of h.1, ?_⟩
  have h2 := h.2
  split at h2
  · exact ⟨by omega, valsB_ok h2⟩
  · split at h2
    · have : vals.length = 0 := of_decide_eq_true h2
      obtain rfl : vals = [] := List.eq_nil_of_length_eq_zero this
      exact ⟨by omega, by simp, by simp⟩
    · simp at h2
theorem mayT_ok {ts : List Trm} (h : mayT ts = true) : ts.length ≤ 6 ∧ (∀ t ∈ ts, okTrm t) ∧ (∀ t ∈ ts, t.vals.length ≤ 6) := by
  unfold mayT termsB at h
  simp only [Bool.and_eq_true, decide_eq_true_eq, List.all_eq_true] at h
  refine ⟨h.1, fun t ht => ?_, fun t ht => ?_⟩
  · obtain ⟨a, b, c, d⟩ := termB_ok (h.2 t ht)
    exact ⟨a, ⟨by omega, by show _ < _; omega⟩, by omega, d⟩
  · exact (termB_ok (h.2 t ht)).2.2.1
theorem tolB_ok {t : Tol} (h : tolB t = true) : okTol t := by
  unfold tolB at h
  simp only [Bool.and_eq_true, Bool.or_eq_true, decide_eq_true_eq] at h
  refine ⟨?_, ?_⟩
  · rcases h.1 with e | e
    · rw [e]; exact okName_empty
    · exact okName_of e
  · have h2 := h.2
    split at h2
    · have e : t.2.1 = ByteArray.empty := of_decide_eq_true h2
      rw [e]; exact okName_empty
    · exact okName_of h2
theorem mayTols_ok {l : List Tol} (h : mayTolsB l = true) : l.length ≤ 6 ∧ ∀ x ∈ l, okTol x := by
  unfold mayTolsB at h
  simp only [Bool.and_eq_true, decide_eq_true_eq, List.all_eq_true] at h
  exact ⟨h.1, fun x hx => tolB_ok (h.2 x hx)⟩
theorem portsFrom_ok {l : List Int} : ∀ {last : Int}, 0 ≤ last → portsFrom last l = true → ∀ x ∈ l, okInt x := by
  induction l with
  | nil => intro _ _ _ x hx; simp at hx
  | cons y r ih =>
    intro last h0 h x hx
    unfold portsFrom at h
    simp only [Bool.and_eq_true, decide_eq_true_eq] at h
    rcases List.mem_cons.1 hx with rfl | hx
    · exact ⟨by omega, by omega⟩
    · exact ih (by omega) h.2 x hx
theorem portsB_ok {l : List Int} (h : portsB l = true) : l.length ≤ 6 ∧ ∀ x ∈ l, okInt x := by
  unfold portsB at h
  simp only [Bool.and_eq_true, decide_eq_true_eq] at h
  exact ⟨h.1, portsFrom_ok (Int.le_refl 0) h.2⟩
theorem withinB_ok {a b c m : Int} (h : withinB a b c m = true) (hm : m ≤ 1000000000) : okInt a ∧ okInt b ∧ okInt c := by
  have h := within_le h
  exact ⟨⟨by omega, by omega⟩, ⟨by omega, by omega⟩, ⟨by omega, by omega⟩⟩
theorem placeB_ok {node : ByteArray} {term : Int} (h : placeB node term = true) : okName node ∧ 0 ≤ term := by
  unfold placeB at h
  split at h
  · rename_i e
    have := of_decide_eq_true h
    rw [e]; exact ⟨okName_empty, by omega⟩
  · simp only [Bool.and_eq_true, decide_eq_true_eq] at h
    exact ⟨okName_of h.1, by omega⟩
theorem spreadB_ok {p : PodD} (h : spreadB p = true) : mayT p.anti = true ∧ mayT p.even = true ∧ 0 ≤ p.skew ∧ p.skew ≤ 10 ∧ okName p.topo := by
  unfold spreadB at h
  simp only [Bool.and_eq_true, decide_eq_true_eq] at h
  obtain ⟨⟨⟨⟨h1, h2⟩, h3⟩, h4⟩, h5⟩ := h
  refine ⟨h1, h2, h3, h4, ?_⟩
  split at h5
  · rename_i e; rw [e]; exact okName_empty
  · exact okName_of h5
theorem podB_parts {p : PodD} (h : podB p = true) : nameL p.name.data.toList = true ∧ 1 ≤ p.uid ∧ p.uid ≤ 1099511627776 ∧ 0 ≤ p.prio ∧ p.prio ≤ 1000 ∧ withinB p.r0 p.r1 p.r2 1000000000 = true ∧ portsB p.ports = true ∧ mayL p.labels = true ∧ mayT p.sel = true
    ∧ mayTolsB p.tols = true ∧ spreadB p = true ∧ placeB p.node p.term = true := by
  unfold podB at h
  simp only [Bool.and_eq_true, decide_eq_true_eq] at h
  obtain ⟨⟨⟨⟨⟨⟨⟨⟨⟨⟨⟨a, b⟩, c⟩, d⟩, e⟩, f⟩, g⟩, i⟩, j⟩, k⟩, l⟩, m⟩ := h
  exact ⟨a, b, c, d, e, f, g, i, j, k, l, m⟩

theorem flatMap_len {α : Type} {enc : α → List Value} {m : Nat} : ∀ {l : List α}, (∀ x ∈ l, (enc x).length ≤ m) → (l.flatMap enc).length ≤ m * l.length
  | [], _ => by simp
  | x :: r, h => by
    have h1 := h x (by simp)
    have h2 := flatMap_len (l := r) fun y hy => h y (by simp [hy])
    simp only [List.flatMap_cons, List.length_append, List.length_cons, Nat.mul_succ]
    omega
theorem lbytes_len {α : Type} {enc : α → List Value} {m : Nat} {l : List α} (h : ∀ x ∈ l, (enc x).length ≤ m) (hl : l.length ≤ 6) : (lbytes enc l).length ≤ 8 + 6 * m := by
  have h1 := flatMap_len h
  have h2 : m * l.length ≤ m * 6 := Nat.mul_le_mul_left _ hl
  simp only [lbytes, List.length_append, wbytes_len]
  omega
theorem lbytesI_len {l : List Int} (hl : l.length ≤ 6) : (lbytes ibytes l).length ≤ 56 := lbytes_len (m := 8) (fun x _ => by simp [ibytes, wbytes_len]) hl
theorem lbytesS_len {l : List ByteArray} (hl : l.length ≤ 6) : (lbytes nbytes l).length ≤ 56 := lbytes_len (m := 8) (fun x _ => by simp [nbytes_len]) hl
theorem lbytesP_len {l : List Str2} (hl : l.length ≤ 6) : (lbytes pbytes l).length ≤ 104 := lbytes_len (m := 16) (fun x _ => by simp [pbytes_len]) hl
theorem lbytesL_len {l : List Tol} (hl : l.length ≤ 6) : (lbytes tbytes l).length ≤ 152 := lbytes_len (m := 24) (fun x _ => by simp [tbytes_len]) hl
theorem lbytesT_len {l : List Trm} (hl : l.length ≤ 6) (hv : ∀ t ∈ l, t.vals.length ≤ 6) : (lbytes rbytes l).length ≤ 440 :=
  lbytes_len (m := 72) (fun x hx => by have := lbytesS_len (hv x hx); simp only [rbytes, List.length_append, nbytes_len, wbytes_len]; omega) hl

def podBytes (p : PodD) : List Value := wbytes 1 ++ nbytes p.name ++ wbytes p.uid.toNat ++ wbytes p.prio.toNat ++ resBytes p.r0 p.r1 p.r2 ++ lbytes ibytes p.ports ++ lbytes pbytes p.labels ++ lbytes rbytes p.sel ++ lbytes tbytes p.tols ++ nbytes p.topo
  ++ lbytes rbytes p.anti ++ wbytes p.skew.toNat ++ lbytes rbytes p.even ++ nbytes p.node ++ wbytes p.term.toNat
def podEnc (p : PodD) : List Value := if podB p then podBytes p else []
end Go.Proofs.YtaleceobkbgcnaaGreat
namespace Go.Proofs.YtaleceobkbgcnaaGreat
open Go.RowKit

/-- What a call that writes an object tells: bytes of its own, nothing old is written to. -/
def EncPost (w : World) (bs : List Value) (e : Ending) (w' : World) : Prop := ∃ v', e = .returned v' ∧ w'.ownsRow w.heap.size 5 1 v' bs.length bs ∧ Below w.heap.size w w'

set_option maxRecDepth 100000 in
set_option maxHeartbeats 4000000 in
theorem putPod_any (p : PodD) (h : PodH) (w : World) (hp : PodAt w p h) (ht : Hid (p.term < 9223372036854775808)) :
    Calls Tryz.prog 155 #[podV p h] w (EncPost w (podEnc p)) := by
  cases hm : podB p
  · go_enter Tryz.func155, Tryz.ntmps155
    go_wp2_with fail
    refine (mayPod_any p h _ (hp.below ((Below.refl _ _).alloc (Nat.le_refl _) _))).mono ?_
    rintro e w1 ⟨rfl, hb1⟩
    go_wp2
    go_ret
    refine ⟨_, rfl, ?_, ((Below.refl _ _).alloc (Nat.le_refl _) _).trans (hb1.mono (by simp))⟩
    have HM := hm
    unfold podEnc
    rw [HM]
    exact World.ownsRow_nil _ _ _ _
  · obtain ⟨m1, m2, m3, m4, m5, m6, m7, m8, m9, m10, m11, m12⟩ := podB_parts hm
    obtain ⟨q1, q2, q3, q4, q5⟩ := spreadB_ok m11
    have okp := portsB_ok m7
    have okl := mayL_ok m8
    have oks := mayT_ok m9
    have okt := mayTols_ok m10
    have oka := mayT_ok q1
    have oke := mayT_ok q2
    have okr := withinB_ok m6 (Int.le_refl _)
    have okn := okName_of m1
    have okd := placeB_ok m12
    have oku : okInt p.uid := ⟨by omega, by omega⟩
    have oki : okInt p.prio := ⟨by omega, by omega⟩
    have okk : okInt p.skew := ⟨by omega, by omega⟩
    have okm : okInt p.term := ⟨okd.2, ht.out⟩
    have l1 := lbytesI_len okp.1
    have l2 := lbytesP_len okl.1
    have l3 := lbytesT_len oks.1 oks.2.2
    have l4 := lbytesL_len okt.1
    have l5 := lbytesT_len oka.1 oka.2.2
    have l6 := lbytesT_len oke.1 oke.2.2
    have P := Lib.hid (And.intro okn (And.intro oku (And.intro oki (And.intro okr (And.intro okp (And.intro okl (And.intro oks (And.intro okt (And.intro q5 (And.intro oka (And.intro okk (And.intro oke (And.intro okd.1 okm)))))))))))))
    have L := Lib.hid (And.intro l1 (And.intro l2 (And.intro l3 (And.intro l4 (And.intro l5 l6)))))
    have HM := Lib.hid hm
    have HP := Lib.hid hp
    clear m1 m2 m3 m4 m5 m6 m7 m8 m9 m10 m11 m12 q1 q2 q3 q4 q5 okp okl oks okt oka oke okr okn okd oku oki okk okm l1 l2 l3 l4 l5 l6 ht hp
    go_enter Tryz.func155, Tryz.ntmps155
    go_wp2_with fail
    refine (mayPod_any p h _ (HP.out.below ((Below.refl _ _).alloc (Nat.le_refl _) _))).mono ?_
    rintro e wb ⟨rfl, hb1⟩
    have HI : Hid (w.heap.size < wb.heap.size) := by have := hb1.size; simp at this; show _ < _; omega
    have HX : Hid (∀ o, wb.cell? ⟨w.heap.size, o, none⟩ = (w.alloc (podBox p h)).cell? ⟨w.heap.size, o, none⟩) := fun o => hb1.cell (p := ⟨w.heap.size, o, none⟩) (by simp)
    have hbw := ((Below.refl _ _).alloc (Nat.le_refl _) _).trans (hb1.mono (by simp))
    have hd := Lib.hid (HP.out.below hbw)
    have HB := Lib.hid hbw
    clear hb1 hbw
    have hx0 := HX.out
    have hp0 := Puts.refl wb.heap.size wb
    have ho0 := World.ownsRow_nil wb wb.heap.size 5 1
    go_wp2_with fail
    refine Calls.mono (putNumI_any 1 _ 0 [] wb.heap.size wb (by decide) (by show (1 : Int) < _; decide) ho0 (Nat.le_refl _) (by omega)) ?_
    rintro e w1 ⟨v1, rfl, ho1, hr1⟩
    have hp1 := hp0.trans hr1
    have hx1 := fun o => (hp1.below.cell (p := ⟨w.heap.size, o, none⟩) HI.out).trans (HX.out o)
    clear hr1 hx0 hp0 ho0
    go_wp2_with fail
    refine Calls.mono (putName_any p.name _ _ _ wb.heap.size _ P.out.1.1 P.out.1.2 ho1 hp1.below.size (by omega)) ?_
    rintro e w2 ⟨v2, rfl, ho2, hr2⟩
    have hp2 := hp1.trans hr2
    have hx2 := fun o => (hp2.below.cell (p := ⟨w.heap.size, o, none⟩) HI.out).trans (HX.out o)
    clear hr2 hx1 hp1 ho1
    go_wp2_with fail
    refine Calls.mono (putNumL_any p.uid _ _ _ wb.heap.size _ P.out.2.1.1 P.out.2.1.2 ho2 hp2.below.size (by omega)) ?_
    rintro e w3 ⟨v3, rfl, ho3, hr3⟩
    have hp3 := hp2.trans hr3
    have hx3 := fun o => (hp3.below.cell (p := ⟨w.heap.size, o, none⟩) HI.out).trans (HX.out o)
    clear hr3 hx2 hp2 ho2
    go_wp2_with fail
    refine Calls.mono (putNumI_any p.prio _ _ _ wb.heap.size _ P.out.2.2.1.1 P.out.2.2.1.2 ho3 hp3.below.size (by omega)) ?_
    rintro e w4 ⟨v4, rfl, ho4, hr4⟩
    have hp4 := hp3.trans hr4
    have hx4 := fun o => (hp4.below.cell (p := ⟨w.heap.size, o, none⟩) HI.out).trans (HX.out o)
    clear hr4 hx3 hp3 ho3
    go_wp2_with fail
    refine Calls.mono (putRes_any p.r0 p.r1 p.r2 _ _ _ wb.heap.size _ P.out.2.2.2.1.1 P.out.2.2.2.1.2.1 P.out.2.2.2.1.2.2 ho4 hp4.below.size (by omega)) ?_
    rintro e w5 ⟨v5, rfl, ho5, hr5⟩
    have hp5 := hp4.trans hr5
    have hx5 := fun o => (hp5.below.cell (p := ⟨w.heap.size, o, none⟩) HI.out).trans (HX.out o)
    clear hr5 hx4 hp4 ho4
    go_wp2_with fail
    refine Calls.mono (putListI_any h.pa p.ports h.pc _ _ _ wb _ hd.out.ports (by have := P.out.2.2.2.2.1.1; omega) P.out.2.2.2.2.1.2 hp5.below ho5 (by have := L.out.1; omega)) ?_
    rintro e w6 ⟨v6, rfl, ho6, hr6⟩
    have hp6 := hp5.trans hr6
    have hx6 := fun o => (hp6.below.cell (p := ⟨w.heap.size, o, none⟩) HI.out).trans (HX.out o)
    clear hr6 hx5 hp5 ho5
    go_wp2_with fail
    refine Calls.mono (putListP_any h.la p.labels h.lc _ _ _ wb _ hd.out.labels (by have := P.out.2.2.2.2.2.1.1; omega) P.out.2.2.2.2.2.1.2 hp6.below ho6 (by have := L.out.1; have := L.out.2.1; omega)) ?_
    rintro e w7 ⟨v7, rfl, ho7, hr7⟩
    have hp7 := hp6.trans hr7
    have hx7 := fun o => (hp7.below.cell (p := ⟨w.heap.size, o, none⟩) HI.out).trans (HX.out o)
    clear hr7 hx6 hp6 ho6
    go_wp2_with fail
    refine Calls.mono (putListT_any h.sa p.sel h.sc _ _ _ wb _ hd.out.sel (by have := P.out.2.2.2.2.2.2.1.1; omega) P.out.2.2.2.2.2.2.1.2.1 hp7.below ho7 (by have := L.out.1; have := L.out.2.1; have := L.out.2.2.1; omega)) ?_
    rintro e w8 ⟨v8, rfl, ho8, hr8⟩
    have hp8 := hp7.trans hr8
    have hx8 := fun o => (hp8.below.cell (p := ⟨w.heap.size, o, none⟩) HI.out).trans (HX.out o)
    clear hr8 hx7 hp7 ho7
    go_wp2_with fail
    refine Calls.mono (putListL_any h.ta p.tols h.tc _ _ _ wb _ hd.out.tols (by have := P.out.2.2.2.2.2.2.2.1.1; omega) P.out.2.2.2.2.2.2.2.1.2 hp8.below ho8 (by have := L.out.1; have := L.out.2.1; have := L.out.2.2.1; have := L.out.2.2.2.1; omega)) ?_
    rintro e w9 ⟨v9, rfl, ho9, hr9⟩
    have hp9 := hp8.trans hr9
    have hx9 := fun o => (hp9.below.cell (p := ⟨w.heap.size, o, none⟩) HI.out).trans (HX.out o)
    clear hr9 hx8 hp8 ho8
    go_wp2_with fail
    refine Calls.mono (putName_any p.topo _ _ _ wb.heap.size _ P.out.2.2.2.2.2.2.2.2.1.1 P.out.2.2.2.2.2.2.2.2.1.2 ho9 hp9.below.size (by have := L.out.1; have := L.out.2.1; have := L.out.2.2.1; have := L.out.2.2.2.1; omega)) ?_
    rintro e w10 ⟨v10, rfl, ho10, hr10⟩
    have hp10 := hp9.trans hr10
    have hx10 := fun o => (hp10.below.cell (p := ⟨w.heap.size, o, none⟩) HI.out).trans (HX.out o)
    clear hr10 hx9 hp9 ho9
    go_wp2_with fail
    refine Calls.mono (putListT_any h.aa p.anti h.ac _ _ _ wb _ hd.out.anti (by have := P.out.2.2.2.2.2.2.2.2.2.1.1; omega) P.out.2.2.2.2.2.2.2.2.2.1.2.1 hp10.below ho10 (by have := L.out.1; have := L.out.2.1; have := L.out.2.2.1; have := L.out.2.2.2.1; have := L.out.2.2.2.2.1; omega)) ?_
    rintro e w11 ⟨v11, rfl, ho11, hr11⟩
    have hp11 := hp10.trans hr11
    have hx11 := fun o => (hp11.below.cell (p := ⟨w.heap.size, o, none⟩) HI.out).trans (HX.out o)
    clear hr11 hx10 hp10 ho10
    go_wp2_with fail
    refine Calls.mono (putNumI_any p.skew _ _ _ wb.heap.size _ P.out.2.2.2.2.2.2.2.2.2.2.1.1 P.out.2.2.2.2.2.2.2.2.2.2.1.2 ho11 hp11.below.size (by have := L.out.1; have := L.out.2.1; have := L.out.2.2.1; have := L.out.2.2.2.1; have := L.out.2.2.2.2.1; omega)) ?_
    rintro e w12 ⟨v12, rfl, ho12, hr12⟩
    have hp12 := hp11.trans hr12
    have hx12 := fun o => (hp12.below.cell (p := ⟨w.heap.size, o, none⟩) HI.out).trans (HX.out o)
    clear hr12 hx11 hp11 ho11
    go_wp2_with fail
    refine Calls.mono (putListT_any h.ea p.even h.ec _ _ _ wb _ hd.out.even (by have := P.out.2.2.2.2.2.2.2.2.2.2.2.1.1; omega) P.out.2.2.2.2.2.2.2.2.2.2.2.1.2.1 hp12.below ho12 (by have := L.out.1; have := L.out.2.1; have := L.out.2.2.1; have := L.out.2.2.2.1; have := L.out.2.2.2.2.1; have := L.out.2.2.2.2.2; omega)) ?_
    rintro e w13 ⟨v13, rfl, ho13, hr13⟩
    have hp13 := hp12.trans hr13
    have hx13 := fun o => (hp13.below.cell (p := ⟨w.heap.size, o, none⟩) HI.out).trans (HX.out o)
    clear hr13 hx12 hp12 ho12
    go_wp2_with fail
    refine Calls.mono (putName_any p.node _ _ _ wb.heap.size _ P.out.2.2.2.2.2.2.2.2.2.2.2.2.1.1 P.out.2.2.2.2.2.2.2.2.2.2.2.2.1.2 ho13 hp13.below.size (by have := L.out.1; have := L.out.2.1; have := L.out.2.2.1; have := L.out.2.2.2.1; have := L.out.2.2.2.2.1; have := L.out.2.2.2.2.2; omega)) ?_
    rintro e w14 ⟨v14, rfl, ho14, hr14⟩
    have hp14 := hp13.trans hr14
    have hx14 := fun o => (hp14.below.cell (p := ⟨w.heap.size, o, none⟩) HI.out).trans (HX.out o)
    clear hr14 hx13 hp13 ho13
    go_wp2_with fail
    refine Calls.mono (putNumL_any p.term _ _ _ wb.heap.size _ P.out.2.2.2.2.2.2.2.2.2.2.2.2.2.1 P.out.2.2.2.2.2.2.2.2.2.2.2.2.2.2 ho14 hp14.below.size (by have := L.out.1; have := L.out.2.1; have := L.out.2.2.1; have := L.out.2.2.2.1; have := L.out.2.2.2.2.1; have := L.out.2.2.2.2.2; omega)) ?_
    rintro e w15 ⟨v15, rfl, ho15, hr15⟩
    have hp15 := hp14.trans hr15
    have hx15 := fun o => (hp15.below.cell (p := ⟨w.heap.size, o, none⟩) HI.out).trans (HX.out o)
    clear hr15 hx14 hp14 ho14
    go_wp2
    go_ret
    refine ⟨v15, rfl, ?_, HB.out.trans (hp15.below.mono HB.out.size)⟩
    have HE := HM.out
    unfold podEnc
    rw [HE]
    have ho := ho15.mono HB.out.size
    rw [List.nil_append] at ho
    have hlen : ∀ {n m : Nat} {xs ys : List Value} {v : Value}, w15.ownsRow w.heap.size 5 1 v n xs → xs = ys → w15.ownsRow w.heap.size 5 1 v ys.length ys := fun {n m xs ys v} hh he => by
      subst he
      have := hh.1
      rw [Nat.mul_one] at this
      rw [this]; exact hh
    refine hlen (m := 0) ho ?_
    simp [podBytes, nbytes]
end Go.Proofs.YtaleceobkbgcnaaGreat
