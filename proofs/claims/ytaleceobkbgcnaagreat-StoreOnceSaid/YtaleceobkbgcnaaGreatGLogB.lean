/-
  Logs: where what is above a Rev begins. No conditions beyond what is written in each statement.
-/
import Derived.Test.YtaleceobkbgcnaaGreatGLogA
import Derived.Sort.Walk0
set_option linter.unusedSimpArgs false
set_option linter.unusedVariables false
namespace Go.Proofs.YtaleceobkbgcnaaGreat
open Go.RowKit

abbrev pt (b : Nat) : Value := .pointer (some ⟨b, 0, none⟩)
set_option maxRecDepth 100000 in
set_option maxHeartbeats 2000000 in
theorem search_any (n m : Nat) (b1 b2 : Value) (w : World) (hmn : m ≤ n) (hn : n < 4611686018427387904)
    (hf : ∀ wr k, k < n → Below w.heap.size w wr → Calls Tryz.prog 121 #[.int .i64 (k : Nat), b1, b2] wr fun e w' => e = .returned (.bool (decide (m ≤ k))) ∧ Below wr.heap.size wr w') :
    Calls Tryz.prog 120 #[.int .i64 n, .func (.func 121) #[] #[b1, b2]] w fun e w' => e = .returned (.int .i64 m) ∧ Below w.heap.size w w' := by
  have HF := Lib.hid hf
  clear hf
  go_enter Tryz.func120, Tryz.ntmps120
  go_wp2_with fail
  go_loopw [5, 6] (fun i j wr => ∃ a b : Nat, i = .int .i64 a ∧ j = .int .i64 b ∧ a ≤ m ∧ m ≤ b ∧ b ≤ n ∧ Hid (Below w.heap.size w wr)) (fun i j _ => (intOf j - intOf i).toNat)
  case atStart => exact ⟨0, n, rfl, rfl, Nat.zero_le _, hmn, Nat.le_refl _, Below.refl _ _⟩
  case round =>
    obtain ⟨a, b, rfl, rfl, ha, hb, hbn, HB⟩ := hrel
    by_cases hlt : a < b
    · have hc := HF.out wr ((a + b) / 2) (by omega) HB.out
      have HE : Hid ((((a + b) / 2 : Nat) : Int) = ((a : Int) + (b : Int)) / 2) := by show _ = _; omega
      rw [HE.out] at hc
      by_cases hp : m ≤ (a + b) / 2
      · rw [decide_eq_true hp] at hc
        have HP := Lib.hid hp
        clear hp
        go_wp2_with fail
        refine hc.mono ?_
        rintro e w1 ⟨rfl, hb1⟩
        go_wp2_with fail
        go_roundw
        case rel => exact ⟨a, (a + b) / 2, rfl, by rw [HE.out], ha, HP.out, by omega, HB.out.trans (hb1.mono HB.out.size)⟩
        case measure => simp [intOf]; omega
      · rw [decide_eq_false hp] at hc
        have HP := Lib.hid hp
        clear hp
        go_wp2_with fail
        refine hc.mono ?_
        rintro e w1 ⟨rfl, hb1⟩
        go_wp2_with fail
        go_roundw
        case rel =>
          have := HP.out
          exact ⟨(a + b) / 2 + 1, b, by rw [show (((a + b) / 2 + 1 : Nat) : Int) = ((a : Int) + (b : Int)) / 2 + 1 by omega], rfl, by omega, hb, hbn, HB.out.trans (hb1.mono HB.out.size)⟩
        case measure => simp [intOf]; omega
    · obtain rfl : a = m := by omega
      go_wp2
      go_ret
      exact ⟨rfl, HB.out⟩
set_option maxRecDepth 100000 in
set_option maxHeartbeats 1000000 in
theorem upTo1_any (G : Nat) (m : Int) (a : Option Addr) (c : Nat) (base last rev : Int) (l : List EvD) (b1 b2 k : Nat) (w : World) (hG : w.heap[G]? = some (.cells #[.int .i64 m, .slice a l.length c, .int .i64 base, .int .i64 last] 121))
    (hl : AtE w a l) (h1 : w.cell? ⟨b1, 0, none⟩ = some (pt G)) (h2 : w.cell? ⟨b2, 0, none⟩ = some (.int .i64 rev)) (hk : k < l.length) :
    Calls Tryz.prog 121 #[.int .i64 k, pt b1, pt b2] w fun e w' => e = .returned (.bool (decide (rev < (l.getD k v0).rev))) ∧ Below w.heap.size w w' := by
  have lm := hl.1
  have c1 := cell_of_obj hG 1
  simp at c1
  obtain ⟨g, off, va, vc, rfl, hg, c0, _⟩ := hl.2 k hk
  generalize (l.getD k v0).rev = x at *
  have k0 : (0 : Int) ≤ (k : Int) := by omega
  have k1 : (k : Int) < (l.length : Int) := by omega
  clear hl hG
  go_enter Tryz.func121, Tryz.ntmps121
  go_wp2_with fail
  go_quiet (fail)
  go_wp2
  all_goals
    go_ret
    exact ⟨ret_bool (by simp_all), below_drewN (Below.refl _ _) _⟩
set_option maxRecDepth 100000 in
set_option maxHeartbeats 1000000 in
theorem upTo_any (G : Nat) (m : Int) (a : Option Addr) (c : Nat) (base last rev : Int) (l : List EvD) (w : World) (hG : w.heap[G]? = some (.cells #[.int .i64 m, .slice a l.length c, .int .i64 base, .int .i64 last] 121))
    (hl : AtE w a l) (hr : Rising l) (hn : l.length ≤ 1000000) :
    Calls Tryz.prog 68 #[pt G, .int .i64 rev] w fun e w' => e = .returned (.int .i64 (upN rev l : Nat)) ∧ Below w.heap.size w w' := by
  have c1 := cell_of_obj hG 1
  simp at c1
  have hG0 : G < w.heap.size := (Array.getElem?_eq_some_iff.1 hG).1
  have hB : Below w.heap.size w ((w.alloc (.cells #[pt G] 25)).alloc (.cells #[.int .i64 rev] 2)) := ((Below.refl _ _).alloc (Nat.le_refl _) _).alloc (by simp) _
  have k0 := heap_two0 w (.cells #[pt G] 25) (.cells #[.int .i64 rev] 2)
  have k1 := heap_two1 w (.cells #[pt G] 25) (.cells #[.int .i64 rev] 2)
  have hs := search_any l.length (upN rev l) (pt w.heap.size) (pt (w.heap.size + 1)) _ (upN_le rev l) (by omega) (fun wr k hk hb => by
    have hb' : Below w.heap.size w wr := hB.trans (hb.mono (by simp; omega))
    have d0 := (hb.block w.heap.size (by simp; omega)).trans k0
    have d1 := (hb.block (w.heap.size + 1) (by simp)).trans k1
    refine (upTo1_any G m a c base last rev l w.heap.size (w.heap.size + 1) k wr ((hb'.block G hG0).trans hG) (hl.below hb') (by rw [cell_of_obj d0]; rfl) (by rw [cell_of_obj d1]; rfl) hk).mono ?_
    rintro e w1 ⟨rfl, hb1⟩
    exact ⟨ret_bool (at_upN rev l k hr hk), hb1⟩)
  have HB := Lib.hid hB
  clear k0 k1 hl hB hG
  go_enter Tryz.func68, Tryz.ntmps68
  go_wp2_with fail
  refine hs.mono ?_
  rintro e w1 ⟨rfl, hb1⟩
  go_wp2
  go_ret
  exact ⟨rfl, HB.out.trans (hb1.mono (by simp; omega))⟩
end Go.Proofs.YtaleceobkbgcnaaGreat
namespace Go.Proofs.YtaleceobkbgcnaaGreat
open Go.RowKit

abbrev evs (H : List EvH) : List EvD := H.map (·.1)
abbrev h0 : EvH := (v0, none, 0)
/-- Events in a slice of the call's own, each Val in memory of its own. -/
structure EvOwn (w : World) (B : Nat) (v : Value) (H : List EvH) : Prop where
  row : OwnsOff w B 30 4 v H.length (H.flatMap cellsE)
  val : ∀ x ∈ H, ValOwn w B x.1.val x.2.1 x.2.2
theorem OwnsOff.shape {w : World} {B : Nat} {e : TypeId} {size : Nat} {v : Value} {n : Nat} {xs : List Value} (h : OwnsOff w B e size v n xs) : ∃ a c, v = .slice a n c ∧ n ≤ c ∧ c ≤ maxLen ∧ (a = none → c = 0 ∧ n = 0) ∧ (∀ b, a = some b → b.spot = none) := by
  rcases h.2 with ⟨rfl, rfl⟩ | ⟨g, off, cap, cur, rfl, _, _, h1, h2, _⟩
  · exact ⟨none, 0, rfl, Nat.le_refl _, Nat.zero_le _, fun _ => ⟨rfl, rfl⟩, fun b hb => by cases hb⟩
  · exact ⟨_, _, rfl, h1, h2, fun h => by (cases h), fun b hb => by cases hb; rfl⟩
theorem EvOwn.at {w : World} {B : Nat} {a : Option Addr} {n c : Nat} {H : List EvH} (h : EvOwn w B (.slice a n c) H) (hm : H.length ≤ 9223372036854775807) : AtE w a (evs H) := by
  refine ⟨by simpa using hm, fun i hi => ?_⟩
  have hi' : i < H.length := by simpa using hi
  have hx : (evs H).getD i v0 = (H.getD i h0).1 := by
    rw [List.getD_eq_getElem?_getD, List.getElem?_eq_getElem hi, List.getD_eq_getElem?_getD, List.getElem?_eq_getElem hi']
    simp
  have hmem : H.getD i h0 ∈ H := by
    rw [List.getD_eq_getElem?_getD, List.getElem?_eq_getElem hi']
    exact List.getElem_mem _
  obtain ⟨hv, h1, h2, h3⟩ := (h.val _ hmem).at
  rcases h.row.2 with ⟨_, e0⟩ | ⟨g, off, cap, cur, e, hb, hg, _⟩
  · omega
  · cases e
    have hc : ∀ j, j < 4 → w.cell? ⟨g, off + i * 4 + j, none⟩ = (cellsE (H.getD i h0))[j]? := fun j hj => by
      have hf := flat_at (f := cellsE) (sz := 4) (l := H) (i := i) (j := j) (d := h0) (fun _ => rfl) hi' hj
      cases hu : (cellsE (H.getD i h0))[j]? with
      | none => rw [List.getElem?_eq_none_iff] at hu; simp at hu; omega
      | some u => rw [hu] at hf; rw [Nat.add_assoc]; exact h.row.cells _ _ hf
    rw [hx]
    exact ⟨g, off, _, _, rfl, (Array.getElem?_eq_some_iff.1 hg).1, hc 0 (by decide), hc 1 (by decide), hc 2 (by decide), hc 3 (by decide), hv, h1, h2, h3⟩
theorem val_turns {S : Nat → Prop} {w w' : World} {B : Nat} {l : List Int} {a : Option Addr} {c : Nat} (h : ValOwn w B l a c) (ht : Turns S w w') (hS : ∀ k, S k → ∃ t, HasTy w k t ∧ t ≠ 5) : ValOwn w' B l a c :=
  ⟨row_turns h.1 ht fun k hk hs => by
    obtain ⟨t, ht, hne⟩ := hS k hs
    exact own_ne h.1 ht hne hk, h.2⟩
theorem EvOwn.turns {S : Nat → Prop} {w w' : World} {B : Nat} {v : Value} {H : List EvH} (h : EvOwn w B v H) (ht : Turns S w w') (hv : ∀ k, v.ownBlock = some k → ¬ S k) (hS : ∀ k, S k → ∃ t, HasTy w k t ∧ t ≠ 5) : EvOwn w' B v H :=
  ⟨h.row.turns ht hv, fun x hx => val_turns (h.val x hx) ht hS⟩
theorem EvOwn.below {w w' : World} {B : Nat} {v : Value} {H : List EvH} (h : EvOwn w B v H) (hb : Below w.heap.size w w') : EvOwn w' B v H :=
  h.turns (S := fun _ => False) (turns_of_below hb) (fun _ _ h => h) (fun _ h => h.elim)
theorem EvOwn.hasTy {w : World} {B : Nat} {v : Value} {H : List EvH} (h : EvOwn w B v H) {k : Nat} (hk : v.ownBlock = some k) : HasTy w k 30 := by
  rcases h.row.2 with ⟨rfl, _⟩ | ⟨g, off, cap, cur, rfl, _, hg, _⟩
  · simp [Value.ownBlock] at hk
  · simp [Value.ownBlock] at hk
    subst hk
    exact ⟨_, _, hg⟩
theorem EvOwn.mono {w : World} {B B' : Nat} {v : Value} {H : List EvH} (h : EvOwn w B v H) (hB : B' ≤ B) : EvOwn w B' v H :=
  ⟨h.row.mono hB, fun x hx => ⟨World.ownsRow.mono (h.val x hx).1 hB, (h.val x hx).2⟩⟩
/-- A log's memory. -/
structure LogRaw (w : World) (B G : Nat) (v : Value) (H : List EvH) (m base last : Int) : Prop where
  lo : B ≤ w.heap.size
  obj : w.heap[G]? = some (.cells #[.int .i64 m, v, .int .i64 base, .int .i64 last] 121)
  own : EvOwn w B v H
def LogS (G : Nat) (v : Value) (k : Nat) : Prop := k = G ∨ v.ownBlock = some k
structure LogAt (w : World) (B G : Nat) (v : Value) (H : List EvH) (d : LogD) : Prop where
  raw : LogRaw w B G v H d.most d.base d.last
  same : evs H = d.evs
  ok : d.Ok
  few : ∀ x ∈ H, x.1.val.length ≤ 140737488355328
theorem LogRaw.ne {w : World} {B G : Nat} {v : Value} {H : List EvH} {m base last : Int} (h : LogRaw w B G v H m base last) : v.ownBlock ≠ some G := by
  intro hk
  obtain ⟨cs, fr, e⟩ := h.own.hasTy hk
  rw [h.obj] at e
  cases e
theorem LogRaw.tys {w : World} {B G : Nat} {v : Value} {H : List EvH} {m base last : Int} (h : LogRaw w B G v H m base last) : ∀ k, LogS G v k → ∃ t, HasTy w k t ∧ t ≠ 5 := by
  rintro k (rfl | hk)
  · exact ⟨_, ⟨_, _, h.obj⟩, by decide⟩
  · exact ⟨_, h.own.hasTy hk, by decide⟩
theorem LogRaw.below {w w' : World} {B G : Nat} {v : Value} {H : List EvH} {m base last : Int} (h : LogRaw w B G v H m base last) (hb : Below w.heap.size w w') : LogRaw w' B G v H m base last :=
  ⟨Nat.le_trans h.lo hb.size, (hb.block G (Array.getElem?_eq_some_iff.1 h.obj).1).trans h.obj, h.own.below hb⟩
theorem LogAt.below {w w' : World} {B G : Nat} {v : Value} {H : List EvH} {d : LogD} (h : LogAt w B G v H d) (hb : Below w.heap.size w w') : LogAt w' B G v H d := ⟨h.raw.below hb, h.same, h.ok, h.few⟩
/-- What is not of the log does not turn it. -/
theorem LogAt.turns {S : Nat → Prop} {w w' : World} {B G : Nat} {v : Value} {H : List EvH} {d : LogD} (h : LogAt w B G v H d) (ht : Turns S w w') (hG : ¬ S G) (hv : ∀ k, v.ownBlock = some k → ¬ S k) (hS : ∀ k, S k → ∃ t, HasTy w k t ∧ t ≠ 5) : LogAt w' B G v H d :=
  ⟨⟨Nat.le_trans h.raw.lo ht.size, ht.obj h.raw.obj hG, h.raw.own.turns ht hv hS⟩, h.same, h.ok, h.few⟩
theorem LogAt.len {w : World} {B G : Nat} {v : Value} {H : List EvH} {d : LogD} (h : LogAt w B G v H d) : H.length ≤ 1000 := by
  have h1 := h.ok.few
  have h2 := h.ok.hi
  have h3 : (evs H).length = H.length := List.length_map ..
  rw [h.same] at h3
  omega
theorem flat_drop {α : Type} {enc : α → List Value} {sz : Nat} (hf : ∀ x, (enc x).length = sz) : ∀ (l : List α) (k : Nat), (l.flatMap enc).drop (k * sz) = (l.drop k).flatMap enc
  | l, 0 => by simp
  | [], k + 1 => by simp
  | x :: r, k + 1 => by
    rw [List.flatMap_cons, Nat.add_mul, Nat.one_mul, Nat.add_comm, ← List.drop_drop, ← hf x, List.drop_left, hf x, flat_drop hf r k, List.drop_succ_cons]
theorem off_behind {w' : World} {B g off n c k sz : Nat} {e : TypeId} {cur cur' : Array Value} {xs : List Value} (hl : xs.length = n * sz) (hb : B ≤ g) (hg' : w'.heap[g]? = some (.cells cur' e (0, 0))) (hnc : n ≤ c) (hcm : c ≤ maxLen) (hsz : off + c * sz ≤ cur.size) (hcs : cur'.size = cur.size)
    (hd : cur'.toList.drop (off + k * sz) = cur.toList.drop (off + k * sz)) (hx : (cur.toList.drop off).take (n * sz) = xs) (hk : k ≤ n) : OwnsOff w' B e sz (.slice (some ⟨g, off + k * sz, none⟩) (n - k) (c - k)) (n - k) (xs.drop (k * sz)) := by
  have e1 : n * sz - k * sz = (n - k) * sz := (Nat.sub_mul _ _ _).symm
  have e2 : k * sz + (c - k) * sz = c * sz := by rw [← Nat.add_mul]; congr 1; omega
  refine ⟨by rw [List.length_drop, hl, e1], .inr ⟨g, off + k * sz, c - k, cur', rfl, hb, hg', by omega, by omega, by omega, ?_⟩⟩
  rw [hd, ← hx, List.drop_take, List.drop_drop, e1]
theorem zeroE (w : World) : (zeroValue 30).run Tryz.prog w = .ok (.agg #[.int .i64 0, .string ⟨#[]⟩, .slice none 0 0, .bool false]) w := Tryz.zeroValue30 w
end Go.Proofs.YtaleceobkbgcnaaGreat
namespace Go.Proofs.YtaleceobkbgcnaaGreat
open Go.RowKit

theorem block_of_slice {a : Option Addr} {n c n' c' : Nat} {b : Option Addr} (h : a.map (·.block) = b.map (·.block)) : (Value.slice a n c).ownBlock = (Value.slice b n' c').ownBlock := by
  cases a <;> cases b <;> simp_all [Value.ownBlock]
theorem log_forgot {w w1 w2 : World} {B G : Nat} {v v' : Value} {H H' : List EvH} {m base last : Int} (rev : Int) (hb : Below w.heap.size w w1) (h1 : LogRaw w1 B G v H m base last) (ht : Turns (fun x => v.ownBlock = some x) w1 w2) (hv' : v'.ownBlock = v.ownBlock)
    (hsub : ∀ x ∈ H', x ∈ H) (hrow : OwnsOff w2 B 30 4 v' H'.length (H'.flatMap cellsE)) :
    LogRaw ((w2.setCell ⟨G, 1, none⟩ v').setCell ⟨G, 2, none⟩ (.int .i64 rev)) B G v' H' m rev last ∧ Turns (LogS G v) w ((w2.setCell ⟨G, 1, none⟩ v').setCell ⟨G, 2, none⟩ (.int .i64 rev)) := by
  have hne := h1.ne
  have t2 : Turns (fun x => x = G) w2 ((w2.setCell ⟨G, 1, none⟩ v').setCell ⟨G, 2, none⟩ (.int .i64 rev)) := (turns_setCell (S := fun x => x = G) ⟨G, 1, none⟩ rfl _).trans (turns_setCell (S := fun x => x = G) ⟨G, 2, none⟩ rfl _)
  have o2 := ht.obj h1.obj hne
  refine ⟨⟨Nat.le_trans h1.lo (Nat.le_trans ht.size t2.size), obj_setN (obj_setN o2 rfl) rfl, hrow.turns t2 (fun k hk e => by subst e; exact hne (hv' ▸ hk)), fun x hx => ?_⟩, ?_⟩
  · refine val_turns (val_turns (h1.own.val x (hsub x hx)) ht (fun k hk => ⟨_, h1.own.hasTy hk, by decide⟩)) t2 (fun k hk => ?_)
    subst hk
    exact ⟨_, ⟨_, _, o2⟩, by decide⟩
  · refine (turns_of_below hb).transN (Turns.trans (S := LogS G v) (ht.mono fun k hk => .inr hk) (t2.mono fun k hk => .inl hk)) fun x hx => .inl hx
set_option maxRecDepth 100000 in
set_option maxHeartbeats 2000000 in
/-- Where events are cleared at the front. -/
theorem clear_any (B : Nat) (a : Option Addr) (n c k : Nat) (H : List EvH) (w : World) (hk : k ≤ n) (h : OwnsOff w B 30 4 (.slice a n c) n (H.flatMap cellsE)) :
    ∃ w', (∀ ty, (Builtin.clear_ #[23] ty #[.slice a k c]).run Tryz.prog w = .ok (.tuple #[]) w') ∧ Turns (fun x => (Value.slice a n c).ownBlock = some x) w w' ∧
      (∀ g off, a = some ⟨g, off, none⟩ → OwnsOff w' B 30 4 (.slice (some ⟨g, off + k * 4, none⟩) (n - k) (c - k)) (n - k) ((H.drop k).flatMap cellsE) ∧ (k = c → OwnsOff w' B 30 4 (.slice (some ⟨g, off, none⟩) 0 0) 0 [])) := by
  have e1 := flat_drop (enc := cellsE) (sz := 4) (fun _ => rfl) H k
  rcases h.2 with ⟨e, _⟩ | ⟨g, off, cap, cur, e, hb, hg, hnc, hcm, hcs, hx⟩
  · rw [Value.slice.injEq] at e
    obtain ⟨rfl, rfl, rfl⟩ := e
    obtain rfl : k = 0 := by omega
    exact ⟨w, fun ty => by simp [Builtin.clear_, run_underlying Tryz.underlying23], Turns.refl _ _, fun g off e => by cases e⟩
  · rw [Value.slice.injEq] at e
    obtain ⟨rfl, _, rfl⟩ := e
    have hnil : ∀ W : World, ∀ cur' : Array Value, W.heap[g]? = some (.cells cur' 30 (0, 0)) → cur'.size = cur.size → OwnsOff W B 30 4 (.slice (some ⟨g, off, none⟩) 0 0) 0 [] := fun W cur' h1 h2 => ⟨by simp, .inr ⟨g, off, 0, cur', rfl, hb, h1, Nat.le_refl _, Nat.zero_le _, by omega, by simp⟩⟩
    rcases Nat.eq_zero_or_pos k with rfl | hp
    · refine ⟨w, fun ty => by simp [Builtin.clear_, run_underlying Tryz.underlying23], Turns.refl _ _, fun g' off' e => ?_⟩
      cases e
      have := off_behind (sz := 4) (k := 0) h.1 hb hg hnc hcm hcs rfl rfl hx (Nat.zero_le _)
      rw [e1] at this
      exact ⟨this, fun _ => hnil w cur hg rfl⟩
    · obtain ⟨cur', q1, q2, q3⟩ := run_clear_off (P := Tryz.prog) w 23 30 0 _ 4 Tryz.underlying23 zeroE rfl (by decide) g off k c cur hp hg (by have := Nat.mul_le_mul_right 4 (Nat.le_trans hk hnc); omega)
      refine ⟨w.setRow g cur', fun ty => ?_, turns_setRow (S := fun x => (Value.slice (some ⟨g, off, none⟩) n c).ownBlock = some x) g rfl cur', fun g' off' e => ?_⟩
      · exact (by simpa [Builtin.clear_] using q3)
      · cases e
        have hg' := setRow_heap w g cur cur' 30 (0, 0) hg
        have := off_behind (sz := 4) (k := k) h.1 hb hg' hnc hcm hcs q1 q2 hx hk
        rw [e1] at this
        exact ⟨this, fun _ => hnil _ cur' hg' q1⟩
set_option maxRecDepth 100000 in
set_option maxHeartbeats 4000000 in
theorem forget_any (B G : Nat) (v : Value) (H : List EvH) (m base last rev : Int) (w : World) (h : LogRaw w B G v H m base last) (hr : Rising (evs H)) (hn : H.length ≤ 1000000) :
    Calls Tryz.prog 65 #[pt G, .int .i64 rev] w fun e w' => e = .returned (.tuple #[]) ∧ ∃ v', LogRaw w' B G v' (H.drop (upN rev (evs H))) m rev last ∧ Turns (LogS G v) w w' ∧ (v'.ownBlock = v.ownBlock) := by
  obtain ⟨a, c, rfl, hnc, hcm, hno, hsp⟩ := h.own.row.shape
  have hlen : (evs H).length = H.length := List.length_map ..
  have hu : upN rev (evs H) ≤ H.length := by have := upN_le rev (evs H); omega
  have hC := upTo_any G m a c base last rev (evs H) w (by rw [hlen]; exact h.obj) (h.own.at (by omega)) hr (by omega)
  generalize hk : upN rev (evs H) = k at *
  clear hk
  have hne := h.ne
  have HL := Lib.hid h
  unfold maxLen at hcm
  have hG := h.obj
  clear h
  go_enter Tryz.func65, Tryz.ntmps65
  go_wp2_with fail
  refine hC.mono ?_
  rintro e w1 ⟨rfl, hb1⟩
  have h1 := HL.out.below hb1
  obtain ⟨w2, hcl, ht2, ho2⟩ := clear_any B a H.length c k H w1 hu h1.own.row
  have d1 := cell_of_obj h1.obj 1
  simp at d1
  have hG2 := ht2.obj h1.obj hne
  have c1 := cell_of_obj hG2 1
  have c2 := cell_of_obj hG2 2
  simp at c1 c2
  have f1 := free_of_obj hG2 1
  have f2 := free_of_obj hG2 2
  have k1 : (k : Int) ≤ (c : Int) := by omega
  have k2 : (k : Int) ≤ (H.length : Int) := by omega
  have k3 : (H.length : Int) ≤ (c : Int) := by omega
  have kn : k ≤ c := by omega
  have HB := Lib.hid hb1
  have HT := Lib.hid ht2
  have HO := Lib.hid ho2
  have HN := Lib.hid hno
  have H1 := Lib.hid h1
  have HG := Lib.hid hG2
  clear hC hb1 ht2 ho2 hno h1 hG2 hlen hr hG
  cases a with
  | none =>
    obtain ⟨rfl, hl0⟩ := HN.out rfl
    obtain rfl : H = [] := List.eq_nil_of_length_eq_zero hl0
    obtain rfl : k = 0 := by omega
    go_wp2
    refine bodyPost_end (v := .tuple #[]) (by simp [results, Tryz.results65, go_sem]) rfl ⟨rfl, .slice none 0 0, ?_⟩
    have q := log_forgot (v' := .slice none 0 0) (H' := []) rev HB.out H1.out HT.out rfl (fun x hx => hx) ⟨by simp, .inl ⟨rfl, rfl⟩⟩
    exact ⟨q.1, q.2, rfl⟩
  | some b =>
    obtain ⟨g, off, spot⟩ := b
    have := hsp _ rfl
    subst this
    clear hsp
    have hd : (H.drop k).length = H.length - k := List.length_drop ..
    have HD := Lib.hid hd
    clear hd
    go_wp2
    · have hkl : H.length = k := by omega
      have hdn : H.drop k = [] := List.drop_eq_nil_of_le (by omega)
      refine bodyPost_end (v := .tuple #[]) (by simp [results, Tryz.results65, go_sem]) rfl ⟨rfl, .slice (some ⟨g, off, none⟩) 0 0, ?_⟩
      have q := log_forgot (v' := .slice (some ⟨g, off, none⟩) 0 0) (H' := []) rev HB.out H1.out HT.out rfl (fun x hx => by cases hx) ((HO.out g off rfl).2 (by omega))
      rw [hdn]
      exact ⟨(by rw [show H.length - k = 0 by omega]; exact q.1), (by rw [show H.length - k = 0 by omega]; exact q.2), rfl⟩
    · refine bodyPost_end (v := .tuple #[]) (by simp [results, Tryz.results65, go_sem]) rfl ⟨rfl, .slice (some ⟨g, off + k * 4, none⟩) (H.length - k) (c - k), ?_⟩
      have q := log_forgot (v' := .slice (some ⟨g, off + k * 4, none⟩) (H.length - k) (c - k)) (H' := H.drop k) rev HB.out H1.out HT.out rfl (fun x hx => List.mem_of_mem_drop hx) (by rw [HD.out]; exact (HO.out g off rfl).1)
      exact ⟨q.1, q.2, rfl⟩
end Go.Proofs.YtaleceobkbgcnaaGreat
namespace Go.Proofs.YtaleceobkbgcnaaGreat
open Go.RowKit

/-- A log behind a call that turns it. -/
def LogStep (B G : Nat) (v : Value) (w w' : World) (d : LogD) : Prop := ∃ v' H', LogAt w' B G v' H' d ∧ Turns (LogS G v) w w' ∧ (v'.ownBlock = v.ownBlock ∨ ∃ k, v'.ownBlock = some k ∧ w.heap.size ≤ k)
set_option maxRecDepth 100000 in
set_option maxHeartbeats 2000000 in
theorem cut_any (B G : Nat) (v : Value) (H : List EvH) (d : LogD) (rev : Int) (w : World) (h : LogAt w B G v H d) :
    Calls Tryz.prog 32 #[pt G, .int .i64 rev] w fun e w' => e = .returned (.tuple #[]) ∧ LogStep B G v w w' (cutD d rev) := by
  have c3 := cell_of_obj h.raw.obj 3
  have c2 := cell_of_obj h.raw.obj 2
  simp at c2 c3
  have hf := forget_any B G v H d.most d.base d.last (min rev d.last) w h.raw (by rw [h.same]; exact h.ok.up) (by have := h.len; omega)
  have HL := Lib.hid h
  clear h
  have hfin : ∀ (w1 : World) (v' : Value), d.base < min rev d.last → LogRaw w1 B G v' (H.drop (upN (min rev d.last) (evs H))) d.most (min rev d.last) d.last → LogAt w1 B G v' (H.drop (upN (min rev d.last) (evs H))) (cutD d rev) := fun w1 v' h1 h2 => by
    have hok := cutD_ok HL.out.ok rev
    have e : cutD d rev = ⟨d.most, d.evs.filter (fun x => decide (min rev d.last < x.rev)), min rev d.last, d.last⟩ := by unfold cutD; rw [if_pos h1]
    rw [e] at hok ⊢
    refine ⟨h2, ?_, hok, fun x hx => HL.out.few x (List.mem_of_mem_drop hx)⟩
    show (H.drop _).map (·.1) = _
    rw [List.map_drop, drop_upN _ _ (by rw [HL.out.same]; exact HL.out.ok.up), HL.out.same]
  have hsame : ¬ d.base < min rev d.last → cutD d rev = d := fun h1 => by unfold cutD; rw [if_neg h1]
  generalize cutD d rev = d' at hfin hsame ⊢
  obtain ⟨most, L, base, last⟩ := d
  dsimp only at *
  have HF := Lib.hid hf
  have HN := Lib.hid hfin
  have HS := Lib.hid hsame
  clear hf hfin hsame
  by_cases h3 : base < min rev last
  · have HF2 := Lib.hid (fun v' w1 => HN.out w1 v' h3)
    clear HN HS
    go_enter Tryz.func32, Tryz.ntmps32
    go_wp2_with fail
    all_goals first | (exfalso; omega) | skip
    refine HF.out.mono ?_
    rintro e w1 ⟨rfl, v', h2, h3, h4⟩
    go_wp2
    exact bodyPost_end (v := .tuple #[]) (by simp [results, Tryz.results32, go_sem]) rfl ⟨rfl, v', _, HF2.out _ _ h2, h3, .inl h4⟩
  · have hd := HS.out h3
    rw [hd]
    clear hd HS HN HF
    go_enter Tryz.func32, Tryz.ntmps32
    go_wp2_with fail
    all_goals first | (exfalso; omega) | exact bodyPost_end (v := .tuple #[]) (by simp [results, Tryz.results32, go_sem]) rfl ⟨rfl, v, H, HL.out, Turns.refl _ _, .inl rfl⟩
end Go.Proofs.YtaleceobkbgcnaaGreat
