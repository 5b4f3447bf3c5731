/-
  Stores: what is there, by keys; where it lies. No conditions beyond what is written in each statement.
-/
import Derived.Test.YtaleceobkbgcnaaGreatGStoA
import Derived.Maps.OwnSet
import Derived.Laws.LoneSync
set_option linter.unusedSimpArgs false
set_option linter.unusedVariables false
namespace Go.Proofs.YtaleceobkbgcnaaGreat
open Go.RowKit

structure EntD where
  key : ByteArray
  rev : Int
  val : List Int
/-- An entry, and where its Val lies. -/
abbrev EntH := EntD × Option Addr × Nat
abbrev entC (x : EntH) : Array Value := #[.string x.1.key, .int .i64 x.1.rev, .slice x.2.1 x.1.val.length x.2.2]
abbrev entV (x : EntH) : Value := .agg (entC x)
abbrev litK (k : ByteArray) : Lit := .string k.data.toList
abbrev DV := DataW Value
def encE (x : EntH) : Lit × DV := (litK x.1.key, .held (entV x))
def RE : Value → Option (DV × List MemPlace) := fun v => some (.held v, [])
abbrev mapE (E : List EntH) : DV := .map (E.map encE)
def hasK (k : ByteArray) (y : EntH) : Bool := decide (y.1.key = k)
def insE (x : EntH) : List EntH → List EntH
  | [] => [x]
  | y :: r => if bytesBefore x.1.key.data.toList y.1.key.data.toList then x :: y :: r else y :: insE x r
def putE (x : EntH) (E : List EntH) : List EntH := insE x (E.filter fun y => !hasK x.1.key y)
def delE (k : ByteArray) (E : List EntH) : List EntH := E.filter fun y => !hasK k y
theorem data_inj {a b : ByteArray} (h : a.data.toList = b.data.toList) : a = b := ByteArray.ext (Array.toList_inj.1 h)
theorem sameK (a b : ByteArray) : (litK a).sameKey (litK b) = decide (a = b) := by
  by_cases h : a = b
  · subst h
    rw [decide_eq_true rfl]
    exact WideAt.sameKey_self (by trivial)
  · rw [decide_eq_false h]
    cases hs : (litK a).sameKey (litK b)
    · rfl
    · have := WideAt.sameKey_eq hs
      simp only [litK, Lit.string.injEq] at this
      exact absurd (data_inj this) h
theorem ins_map (x : EntH) : ∀ E : List EntH, DataW.insert (encE x) (E.map encE) = (insE x E).map encE
  | [] => rfl
  | y :: r => by
    have ih := ins_map x r
    have hb : (encE x).1.before (encE y).1 = bytesBefore x.1.key.data.toList y.1.key.data.toList := rfl
    rw [List.map_cons, DataW.insert, hb, insE]
    by_cases h : bytesBefore x.1.key.data.toList y.1.key.data.toList = true
    · rw [if_pos h, if_pos h]; rfl
    · rw [if_neg h, if_neg h, ih]; rfl
theorem filt_map (k : ByteArray) (E : List EntH) : (E.map encE).filter (fun p => !p.1.sameKey (litK k)) = (E.filter fun y => !hasK k y).map encE := by
  rw [List.filter_map]
  congr 1
  refine List.filter_congr fun y _ => ?_
  show (!(litK y.1.key).sameKey (litK k)) = _
  rw [sameK]; rfl
theorem mapE_put (x : EntH) (E : List EntH) : (mapE E).put (litK x.1.key) (.held (entV x)) = mapE (putE x E) := by
  show DataW.map (DataW.insert (encE x) ((E.map encE).filter fun p => !p.1.sameKey (litK x.1.key))) = _
  rw [filt_map, ins_map]; rfl
theorem mapE_del (k : ByteArray) (E : List EntH) : (mapE E).del (litK k) = mapE (delE k E) := by
  show DataW.map ((E.map encE).filter fun p => !p.1.sameKey (litK k)) = _
  rw [filt_map]; rfl
theorem find_map (k : ByteArray) : ∀ E : List EntH, (E.map encE).find? (fun p => p.1.sameKey (litK k)) = (E.find? (hasK k)).map encE
  | [] => rfl
  | y :: r => by
    have ih := find_map k r
    have hs : (encE y).1.sameKey (litK k) = hasK k y := sameK _ _
    rw [List.map_cons, List.find?_cons, List.find?_cons, hs]
    cases hasK k y
    · exact ih
    · rfl
theorem mapE_at (k : ByteArray) (E : List EntH) (z : DV) : (mapE E).atKey (litK k) z = match E.find? (hasK k) with | some x => .held (entV x) | none => z := by
  simp only [DataW.atKey, find_map]
  cases E.find? (hasK k) <;> rfl
theorem mapE_has (k : ByteArray) (E : List EntH) : Maps.has (mapE E) (litK k) = (E.find? (hasK k)).isSome := by
  show (E.map encE).any (fun p => p.1.sameKey (litK k)) = _
  rw [Bool.eq_iff_iff, List.any_eq_true, List.find?_isSome]
  constructor
  · rintro ⟨p, hp, h⟩
    obtain ⟨y, hy, rfl⟩ := List.mem_map.1 hp
    exact ⟨y, hy, (sameK _ _).symm.trans h⟩
  · rintro ⟨y, hy, h⟩
    exact ⟨encE y, List.mem_map.2 ⟨y, hy, rfl⟩, (sameK _ _).trans h⟩
/-- What the other map says: of each beginning the last Rev. -/
def atT (D : DV) (k : ByteArray) (x : Int) : Prop := D.atKey (litK k) (.lit (.int .i64 0)) = .lit (.int .i64 x)
theorem find_ins {H : Type} (p : Lit × DataW H → Bool) (x : Lit × DataW H) (hx : p x = false) : ∀ l : List (Lit × DataW H), (DataW.insert x l).find? p = l.find? p
  | [] => by simp [DataW.insert, hx]
  | y :: r => by
    rw [DataW.insert]
    split
    · rw [List.find?_cons, hx]
    · rw [List.find?_cons, List.find?_cons, find_ins p x hx r]
theorem find_insT {H : Type} (p : Lit × DataW H → Bool) (x : Lit × DataW H) (hx : p x = true) : ∀ l : List (Lit × DataW H), (∀ y ∈ l, p y = false) → (DataW.insert x l).find? p = some x
  | [], _ => by simp [DataW.insert, hx]
  | y :: r, h => by
    rw [DataW.insert]
    split
    · rw [List.find?_cons, hx]
    · rw [List.find?_cons, h y (List.mem_cons_self ..)]
      exact find_insT p x hx r fun z hz => h z (List.mem_cons_of_mem _ hz)
theorem find_filt {H : Type} (p q : Lit × DataW H → Bool) (h : ∀ y, p y = true → q y = true) : ∀ l : List (Lit × DataW H), (l.filter q).find? p = l.find? p
  | [] => rfl
  | y :: r => by
    by_cases hq : q y = true
    · rw [List.filter_cons_of_pos hq, List.find?_cons, List.find?_cons, find_filt p q h r]
    · rw [List.filter_cons_of_neg hq, find_filt p q h r, List.find?_cons]
      cases hp : p y
      · rfl
      · exact absurd (h y hp) hq
/-- Behind a store at one key. -/
theorem atT_put {l : List (Lit × DV)} {T : ByteArray → Int} (h : ∀ k, atT (.map l) k (T k)) (k : ByteArray) (x : Int) : ∀ k', atT ((DataW.map l).put (litK k) (.lit (.int .i64 x))) k' (if k' = k then x else T k') := by
  intro k'
  unfold atT
  simp only [DataW.put, DataW.atKey]
  by_cases hk : k' = k
  · subst hk
    rw [if_pos rfl, find_insT _ _ (by rw [sameK]; exact decide_eq_true rfl) _ (fun y hy => by simpa using (List.mem_filter.1 hy).2)]
  · rw [if_neg hk, find_ins _ _ (by rw [sameK]; exact decide_eq_false (Ne.symm hk)), find_filt]
    · have hk' := h k'
      unfold atT at hk'
      simpa only [DataW.atKey] using hk'
    · intro y hy
      cases hs : y.1.sameKey (litK k)
      · rfl
      · have e1 := WideAt.sameKey_eq hs
        rw [e1, sameK, decide_eq_true_eq] at hy
        exact absurd hy.symm hk
end Go.Proofs.YtaleceobkbgcnaaGreat
namespace Go.Proofs.YtaleceobkbgcnaaGreat
open Go.RowKit

abbrev enV (x : EntD) (a : Option Addr) (c : Nat) : Value := .agg #[.string x.key, .int .i64 x.rev, .slice a x.val.length c]
theorem infoEn : (Tryz.prog.info? 75).map (fun i => (i.zero, i.size, i.bytes)) = some (some (.agg #[.string ⟨#[]⟩, .int .i64 0, .slice none 0 0]), 3, 48) := by kernel_rfl
theorem zeroEn (w : World) : (zeroValue 75).run Tryz.prog w = .ok (.agg #[.string ⟨#[]⟩, .int .i64 0, .slice none 0 0]) w := Tryz.zeroValue75 w
set_option maxRecDepth 100000 in
set_option maxHeartbeats 1000000 in
theorem copyEnt_any (x : EntD) (a : Option Addr) (c : Nat) (w : World) (hv : AtB w a x.val) (hno : a = none → c = 0) (hl : x.val.length ≤ 140737488355328) (hlc : x.val.length ≤ c) (hc : c ≤ maxLen) :
    Calls Tryz.prog 94 #[enV x a c] w fun e w' => ∃ a' c', e = .returned (enV x a' c') ∧ ValOwn w' w.heap.size x.val a' c' ∧ Below w.heap.size w w' := by
  obtain ⟨i0, hi, hz0, hz1, hz2⟩ := info_parts infoB8
  have hr := hv.range
  have hB : Below w.heap.size w ((w.alloc (.cells #[.string x.key, .int .i64 x.rev, .slice a x.val.length c] 75)).alloc (.cells #[.string ⟨#[]⟩, .int .i64 0, .slice none 0 0] 75)) := ((Below.refl _ _).alloc (Nat.le_refl _) _).alloc (by simp) _
  have HK0 := Lib.hid (heap_two0 w (.cells #[.string x.key, .int .i64 x.rev, .slice a x.val.length c] 75) (.cells #[.string ⟨#[]⟩, .int .i64 0, .slice none 0 0] 75))
  have HK1 := Lib.hid (heap_two1 w (.cells #[.string x.key, .int .i64 x.rev, .slice a x.val.length c] 75) (.cells #[.string ⟨#[]⟩, .int .i64 0, .slice none 0 0] 75))
  have hat := atB_news' (hv.below' hB)
  have hsz := hB.size
  obtain ⟨key, rev, val⟩ := x
  simp only at *
  go_enter Tryz.func94, Tryz.ntmps94
  go_wp2_with (at_builtin; refine stand ?_)
  show wpList _ _ _ _ _ _
  refine wpList_append_opt rfl _ _ 28 rfl w.heap.size 5 i0 _ 1 1 Tryz.underlying28 hi hz0 hz1 hz2 rfl (by decide) (.slice none 0 0) 0 [] rfl (World.ownsRow_nil _ _ 5 1) a val.length c (u8s val) rfl (fun h => ⟨by have := hno h; omega, hno h⟩) (by unfold u8s; rw [List.length_map, Nat.mul_one]) hat (by intro u hu; unfold u8s at hu; obtain ⟨z, _, rfl⟩ := List.mem_map.1 hu; rfl) (by rw [Nat.zero_add]; unfold maxLen; omega) (by omega) hsz ?_
  intro v3 w3 ho3 hg3
  rw [Nat.zero_add, List.nil_append] at ho3
  have k0 := (hg3.block w.heap.size (by simp; omega) (by simp [Value.ownBlock])).trans HK0.out
  have k1 := (hg3.block (w.heap.size + 1) (by simp) (by simp [Value.ownBlock])).trans HK1.out
  have hb3 : Below w.heap.size w w3 := hB.trans (grown_below hg3 (World.ownsRow_nil _ (w.heap.size) 5 1) hsz)
  obtain ⟨a3, c3, e3⟩ : ∃ a3 c3, v3 = .slice a3 val.length c3 := by
    rcases ho3.2 with ⟨e, h0⟩ | ⟨g, cap, cur, e, _⟩
    · exact ⟨none, 0, by rw [e, h0]⟩
    · exact ⟨_, _, e⟩
  subst e3
  have c0 := cell_of_obj k0 0
  have c1 := cell_of_obj k0 1
  have c2 := cell_of_obj k0 2
  simp at c0 c1 c2
  have f2 := free_of_obj k0 2
  have HA := Lib.hid (And.intro ho3 (And.intro hb3 (And.intro k0 k1)))
  have HP := Lib.hid (obj_setN (j := 2) (v := .slice a3 val.length c3) k0 rfl)
  clear hat hsz k0 k1 hb3 ho3 hg3 hB HK0 HK1
  go_wp2_with (first | (refine wpList_load_rowG (by first | rfl | kernel_rfl) 75 (.tmp 1) rfl w.heap.size rfl 75 _ (0, 0) _ HP.out Tryz.underlying75 rfl (by kernel_rfl) ?_) | (refine wpList_store_rowTo rfl 75 (.tmp 2) (.tmp 7) rfl rfl (w.heap.size + 1) #[.string key, .int .i64 rev, .slice a3 val.length c3] rfl rfl 75 #[.string ⟨#[]⟩, .int .i64 0, .slice none 0 0] (by rw [heap_setCell_other _ _ (w.heap.size + 1) _ (by simp)]; exact HA.out.2.2.2) (by kernel_rfl) rfl (by kernel_rfl) ?_))
  have hb : (w3.setCell ⟨w.heap.size, 2, none⟩ (.slice a3 val.length c3)).heap[w.heap.size + 1]? = some (.cells #[.string ⟨#[]⟩, .int .i64 0, .slice none 0 0] 75) := by rw [heap_setCell_other _ _ (w.heap.size + 1) _ (by simp)]; exact HA.out.2.2.2
  refine bodyPost_ret (v := .agg #[.string key, .int .i64 rev, .slice a3 val.length c3]) (results_cell_row Tryz.results94 _ _ (w.heap.size + 1) 75 _ (0, 0) _ rfl (setRow_heap _ _ _ _ _ _ hb) Tryz.underlying75 rfl (by kernel_rfl)) rfl ?_
  refine ⟨a3, c3, rfl, ⟨?_, hr⟩, Below.setRow (HA.out.2.1.setCell (Nat.le_refl _) _) (by omega) _⟩
  refine World.ownsRow.kept (World.ownsRow.kept HA.out.1 (grown_set w3 w.heap.size 2 _) (Or.inr (own_ne HA.out.1 ⟨_, _, HA.out.2.2.1⟩ (by decide)))) (grown_setRow _ (w.heap.size + 1) _) (Or.inr (own_ne (World.ownsRow.kept HA.out.1 (grown_set w3 w.heap.size 2 _) (Or.inr (own_ne HA.out.1 ⟨_, _, HA.out.2.2.1⟩ (by decide)))) ⟨_, _, hb⟩ (by decide)))
structure StoH where
  S : Nat
  mE : Nat
  mT : Nat
  G : Nat
  nT : Nat
  v : Value
  H : List EvH
  E : List EntH
  L : List (Lit × DV)
structure StoD where
  E : List EntD
  T : ByteArray → Int
  log : LogD
  reads : Int
  writes : Int
/-- A store's memory. -/
structure StoAt (w : World) (B : Nat) (h : StoH) (d : StoD) : Prop where
  lo : B ≤ w.heap.size
  obj : w.heap[h.S]? = some (.cells #[.map (some h.mE), .map (some h.mT), pt h.G, .int .i64 d.reads, .int .i64 d.writes] 152)
  ents : w.ownsMap Tryz.prog 9 RE h.mE h.E.length (mapE h.E)
  toch : w.ownsMap Tryz.prog 9 (plainElem Tryz.prog 2) h.mT h.nT (.map h.L)
  log : LogAt w B h.G h.v h.H d.log
  vals : ∀ x ∈ h.E, ValOwn w B x.1.val x.2.1 x.2.2
  same : h.E.map (·.1) = d.E
  tval : ∀ k, atT (.map h.L) k (d.T k)
  ne : h.mE ≠ h.mT
  few : ∀ x ∈ h.E, x.1.val.length ≤ 140737488355328
/-- Where a store stands: behind B. -/
def StoLo (B : Nat) (h : StoH) : Prop := B ≤ h.S ∧ B ≤ h.mE ∧ B ≤ h.mT ∧ B ≤ h.G
def StoS (h : StoH) (k : Nat) : Prop := k = h.S ∨ k = h.mE ∨ k = h.mT ∨ LogS h.G h.v k
theorem owns_block {H : Type} {P : Program} {k : TypeId} {R : Value → Option (DataW H × List MemPlace)} {w w' : World} {b n : Nat} {D : DataW H} (h : w.ownsMap P k R b n D) (hb : w'.heap[b]? = w.heap[b]?) : w'.ownsMap P k R b n D := by
  obtain ⟨es, clock, h1, r⟩ := h
  exact ⟨es, clock, hb.trans h1, r⟩
theorem StoAt.turns {S : Nat → Prop} {w w' : World} {B : Nat} {h : StoH} {d : StoD} (ha : StoAt w B h d) (ht : Turns S w w') (hs : ∀ k, StoS h k → ¬ S k) (hS : ∀ k, S k → ∃ t, HasTy w k t ∧ t ≠ 5) : StoAt w' B h d :=
  ⟨Nat.le_trans ha.lo ht.size, ht.obj ha.obj (hs _ (.inl rfl)), owns_block ha.ents (ht.block _ ha.ents.lt (hs _ (.inr (.inl rfl)))), owns_block ha.toch (ht.block _ ha.toch.lt (hs _ (.inr (.inr (.inl rfl))))),
    ha.log.turns ht (hs _ (.inr (.inr (.inr (.inl rfl))))) (fun k hk => hs _ (.inr (.inr (.inr (.inr hk))))) hS, fun x hx => val_turns (ha.vals x hx) ht hS, ha.same, ha.tval, ha.ne, ha.few⟩
theorem StoAt.below {w w' : World} {B : Nat} {h : StoH} {d : StoD} (ha : StoAt w B h d) (hb : Below w.heap.size w w') : StoAt w' B h d :=
  ha.turns (S := fun _ => False) (turns_of_below hb) (fun _ _ h => h) (fun _ h => h.elim)
/-- A store's own block is none of the others'. -/
theorem StoAt.apart {w : World} {B : Nat} {h : StoH} {d : StoD} (ha : StoAt w B h d) : h.S ≠ h.mE ∧ h.S ≠ h.mT ∧ h.S ≠ h.G ∧ h.v.ownBlock ≠ some h.S ∧ h.G ≠ h.mE ∧ h.G ≠ h.mT ∧ h.v.ownBlock ≠ some h.mE ∧ h.v.ownBlock ≠ some h.mT := by
  obtain ⟨e1, k1, m1, _⟩ := ha.ents
  obtain ⟨e2, k2, m2, _⟩ := ha.toch
  have g := ha.log.raw.obj
  have s := ha.obj
  refine ⟨fun e => ?_, fun e => ?_, fun e => ?_, fun e => ?_, fun e => ?_, fun e => ?_, fun e => ?_, fun e => ?_⟩
  · rw [e, m1] at s; cases s
  · rw [e, m2] at s; cases s
  · rw [e, g] at s; cases s
  · obtain ⟨cs, fr, q⟩ := ha.log.raw.own.hasTy e; rw [s] at q; cases q
  · rw [e, m1] at g; cases g
  · rw [e, m2] at g; cases g
  · obtain ⟨cs, fr, q⟩ := ha.log.raw.own.hasTy e; rw [m1] at q; cases q
  · obtain ⟨cs, fr, q⟩ := ha.log.raw.own.hasTy e; rw [m2] at q; cases q
/-- Another number of what was asked. -/
theorem StoAt.count {w : World} {B : Nat} {h : StoH} {d : StoD} (ha : StoAt w B h d) (r : Int) : StoAt (w.setCell ⟨h.S, 3, none⟩ (.int .i64 r)) B h { d with reads := r } ∧ Turns (fun k => k = h.S) w (w.setCell ⟨h.S, 3, none⟩ (.int .i64 r)) := by
  have ht : Turns (fun k => k = h.S) w (w.setCell ⟨h.S, 3, none⟩ (.int .i64 r)) := turns_setCell (S := fun k => k = h.S) ⟨h.S, 3, none⟩ rfl _
  obtain ⟨a1, a2, a3, a4, _⟩ := ha.apart
  have hty : ∀ k, k = h.S → ∃ t, HasTy w k t ∧ t ≠ 5 := fun k hk => by subst hk; exact ⟨_, ⟨_, _, ha.obj⟩, by decide⟩
  exact ⟨⟨Nat.le_trans ha.lo ht.size, obj_setN ha.obj rfl, owns_block ha.ents (ht.block _ ha.ents.lt (fun e => a1 e.symm)), owns_block ha.toch (ht.block _ ha.toch.lt (fun e => a2 e.symm)),
    ha.log.turns ht (fun e => a3 e.symm) (fun k hk e => a4 (e ▸ hk)) hty, fun x hx => val_turns (ha.vals x hx) ht hty, ha.same, ha.tval, ha.ne, ha.few⟩, ht⟩
theorem StoAt.countW {w : World} {B : Nat} {h : StoH} {d : StoD} (ha : StoAt w B h d) (r : Int) : StoAt (w.setCell ⟨h.S, 4, none⟩ (.int .i64 r)) B h { d with writes := r } ∧ Turns (fun k => k = h.S) w (w.setCell ⟨h.S, 4, none⟩ (.int .i64 r)) := by
  have ht : Turns (fun k => k = h.S) w (w.setCell ⟨h.S, 4, none⟩ (.int .i64 r)) := turns_setCell (S := fun k => k = h.S) ⟨h.S, 4, none⟩ rfl _
  obtain ⟨a1, a2, a3, a4, _⟩ := ha.apart
  have hty : ∀ k, k = h.S → ∃ t, HasTy w k t ∧ t ≠ 5 := fun k hk => by subst hk; exact ⟨_, ⟨_, _, ha.obj⟩, by decide⟩
  exact ⟨⟨Nat.le_trans ha.lo ht.size, obj_setN ha.obj rfl, owns_block ha.ents (ht.block _ ha.ents.lt (fun e => a1 e.symm)), owns_block ha.toch (ht.block _ ha.toch.lt (fun e => a2 e.symm)),
    ha.log.turns ht (fun e => a3 e.symm) (fun k hk e => a4 (e ▸ hk)) hty, fun x hx => val_turns (ha.vals x hx) ht hty, ha.same, ha.tval, ha.ne, ha.few⟩, ht⟩
set_option maxRecDepth 100000 in
theorem off_any (S : Nat) (e t : Value) (G : Nat) (r x : Value) (w : World) (hS : w.heap[S]? = some (.cells #[e, t, pt G, r, x] 152)) : Calls Tryz.prog 88 #[pt S] w fun e w' => e = .returned (.bool false) ∧ w' = w := by
  have c2 := cell_of_obj hS 2
  simp at c2
  go_enter Tryz.func88, Tryz.ntmps88
  go_wp2
  go_ret
  exact ⟨rfl, rfl⟩
set_option maxRecDepth 100000 in
theorem addInt_any (S j : Nat) (x : Int) (w : World) (hc : w.cell? ⟨S, j, none⟩ = some (.int .i64 x)) (hf : w.frozen? ⟨S, j, none⟩ = false) : Calls Tryz.prog 89 #[.pointer (some ⟨S, j, none⟩), .int .i64 1] w fun e w' => e = .returned (.int .i64 (wrap64 (x + 1))) ∧ w' = w.setCell ⟨S, j, none⟩ (.int .i64 (wrap64 (x + 1))) := by
  have e : IntKind.i64.wrap (x + 1) = wrap64 (x + 1) := by rw [IntKind.wrap_i64]; try (unfold wrap64; omega)
  have hcall := run_call_add (P := Tryz.prog) (f := 133) Tryz.func133 (by kernel_rfl) rfl (by kernel_rfl) .i64 (by rfl) (y := 1) (s := wrap64 (x + 1)) hc hf (by simp [Op.intArith, e])
  clear e
  go_enter Tryz.func89, Tryz.ntmps89
  go_wp2
  go_ret
  exact ⟨rfl, rfl⟩
end Go.Proofs.YtaleceobkbgcnaaGreat
namespace Go.Proofs.YtaleceobkbgcnaaGreat
open Go.RowKit

def newS : StoD := ⟨[], fun _ => 0, newD 64, 0, 0⟩
theorem logAt_new (m : Int) (w : World) (B : Nat) (hB : B ≤ w.heap.size) : LogAt (w.alloc (logO (mostOf m) none 0 0 0 0)) B w.heap.size (.slice none 0 0) [] (newD m) :=
  ⟨⟨(by simp; omega), heap_alloc_self _ _, ⟨off_of_row (World.ownsRow_nil _ _ _ _), fun x hx => by cases hx⟩⟩, rfl, newD_ok m, fun x hx => by cases hx⟩
/-- What New tells. -/
def NewP (w : World) (e : Ending) (w' : World) : Prop := ∃ h, e = .returned (pt h.S) ∧ StoAt w' w.heap.size h newS ∧ Below w.heap.size w w' ∧ h.nT = 0 ∧ StoLo w.heap.size h ∧ h.E = [] ∧ h.H = [] ∧ h.v = .slice none 0 0
set_option maxRecDepth 100000 in
set_option maxHeartbeats 2000000 in
theorem stoNew_any (w : World) : Calls Tryz.prog 40 #[] w (NewP w) := by
  have hm1 := fun W => run_makeMap (P := Tryz.prog) 145 W
  have hm2 := fun W => run_makeMap (P := Tryz.prog) 93 W
  have hL := logNew_any 64 ((w.alloc (.map #[] 0)).alloc (.map #[] 0))
  go_enter Tryz.func40, Tryz.ntmps40
  go_wp2_with fail
  refine hL.mono ?_
  rintro e w1 ⟨rfl, rfl⟩
  clear hL hm1 hm2
  go_wp2_with fail
  go_ret
  have hb : Below w.heap.size w ((((w.alloc (.map #[] 0)).alloc (.map #[] 0)).alloc (logO (mostOf 64) none 0 0 0 0)).alloc (.cells #[.map (some w.heap.size), .map (some (w.heap.size + 1)), pt (w.heap.size + 1 + 1), .int .i64 0, .int .i64 0] 152)) := by
    refine (((((Below.refl _ _).alloc (Nat.le_refl _) _).alloc ?_ _).alloc ?_ _).alloc ?_ _) <;> (simp; try omega)
  refine ⟨⟨w.heap.size + 1 + 1 + 1, w.heap.size, w.heap.size + 1, w.heap.size + 1 + 1, 0, .slice none 0 0, [], [], []⟩, ?_, ?_, ?_, rfl, ⟨(by dsimp only; omega), Nat.le_refl _, (by dsimp only; omega), (by dsimp only; omega)⟩, rfl, rfl, rfl⟩
  · simp
  · have z1 : (w.alloc (.map #[] 0)).heap.size = w.heap.size + 1 := by simp
    have z2 : ((w.alloc (.map #[] 0)).alloc (.map #[] 0)).heap.size = w.heap.size + 1 + 1 := by simp
    have z3 : (((w.alloc (.map #[] 0)).alloc (.map #[] 0)).alloc (logO (mostOf 64) none 0 0 0 0)).heap.size = w.heap.size + 1 + 1 + 1 := by simp
    have hLA := logAt_new 64 ((w.alloc (.map #[] 0)).alloc (.map #[] 0)) w.heap.size (by omega)
    rw [z2] at hLA
    have hE := (((World.ownsMap_made w Tryz.prog 9 RE).alloc (.map #[] 0)).alloc (logO (mostOf 64) none 0 0 0 0)).alloc (.cells #[.map (some w.heap.size), .map (some (w.heap.size + 1)), pt (w.heap.size + 1 + 1), .int .i64 0, .int .i64 0] 152)
    have hT := ((World.ownsMap_made (w.alloc (.map #[] 0)) Tryz.prog 9 (plainElem (H := Value) Tryz.prog 2)).alloc (logO (mostOf 64) none 0 0 0 0)).alloc (.cells #[.map (some w.heap.size), .map (some (w.heap.size + 1)), pt (w.heap.size + 1 + 1), .int .i64 0, .int .i64 0] 152)
    rw [z1] at hT
    have hS := heap_alloc_self (((w.alloc (.map #[] 0)).alloc (.map #[] 0)).alloc (logO (mostOf 64) none 0 0 0 0)) (.cells #[.map (some w.heap.size), .map (some (w.heap.size + 1)), pt (w.heap.size + 1 + 1), .int .i64 0, .int .i64 0] 152)
    rw [z3] at hS
    exact ⟨hb.size, hS, hE, hT, hLA.below ((Below.refl _ _).alloc (Nat.le_refl _) _), fun x hx => (by cases hx), rfl, fun k => rfl, (by dsimp only; omega), fun x hx => (by cases hx)⟩
  · exact hb
set_option maxRecDepth 100000 in
theorem stoRev_any (w : World) (B : Nat) (h : StoH) (d : StoD) (ha : StoAt w B h d) : Calls Tryz.prog 48 #[pt h.S] w fun e w' => e = .returned (.int .i64 d.log.last) ∧ w' = w := by
  have c2 := cell_of_obj ha.obj 2
  simp at c2
  have hoff := off_any h.S _ _ h.G _ _ w ha.obj
  have hl : Calls Tryz.prog 29 #[pt h.G] w fun e w' => e = .returned (.int .i64 d.log.last) ∧ w' = w := by
    obtain ⟨a, c, hv, _⟩ := ha.log.raw.own.row.shape
    have ho := ha.log.raw.obj
    rw [hv] at ho
    exact logLast_any _ a _ c _ _ h.G w ho
  clear ha
  go_enter Tryz.func48, Tryz.ntmps48
  go_wp2_with fail
  refine hoff.mono ?_
  rintro e w1 ⟨rfl, rfl⟩
  go_wp2_with fail
  refine hl.mono ?_
  rintro e w1 ⟨rfl, rfl⟩
  go_wp2
  go_ret
  exact ⟨rfl, rfl⟩
def e0 : EntD := ⟨⟨#[]⟩, 0, []⟩
def isK (k : ByteArray) (x : EntD) : Bool := decide (x.key = k)
def getS (d : StoD) (k : ByteArray) : EntD := (d.E.find? (isK k)).getD e0
theorem find_isK (k : ByteArray) (E : List EntH) : (E.map (·.1)).find? (isK k) = (E.find? (hasK k)).map (·.1) := by
  rw [List.find?_map]; rfl
/-- What Get tells. -/
def GetP (w : World) (B : Nat) (h : StoH) (d : StoD) (k : ByteArray) (e : Ending) (w' : World) : Prop := ∃ a c, e = .returned (.tuple #[enV (getS d k) a c, .bool (d.E.find? (isK k)).isSome]) ∧ ValOwn w' w.heap.size (getS d k).val a c ∧ StoAt w' B h { d with reads := wrap64 (d.reads + 1) } ∧ Turns (fun x => x = h.S) w w'
theorem StoAt.lt {w : World} {B : Nat} {h : StoH} {d : StoD} (ha : StoAt w B h d) : ∀ k, StoS h k → k < w.heap.size := by
  rintro k (rfl | rfl | rfl | rfl | hk)
  · exact (Array.getElem?_eq_some_iff.1 ha.obj).1
  · exact ha.ents.lt
  · exact ha.toch.lt
  · exact (Array.getElem?_eq_some_iff.1 ha.log.raw.obj).1
  · exact (ha.log.raw.own.row.lt k hk).2
theorem StoAt.row {W : World} {B g : Nat} {h : StoH} {d : StoD} {cs0 : Array Value} {t : TypeId} (ha : StoAt W B h d) (hg : W.heap[g]? = some (.cells cs0 t (0, 0))) (ht : t ≠ 5) (hne : ∀ k, StoS h k → k < g) (cs : Array Value) : StoAt (W.setRow g cs) B h d :=
  ha.turns (S := fun k => k = g) (turns_setRow (S := fun k => k = g) g rfl cs) (fun k hk e => by have := hne k hk; omega) (fun k hk => by subst hk; exact ⟨_, ⟨_, _, hg⟩, ht⟩)
set_option maxRecDepth 100000 in
set_option maxHeartbeats 4000000 in
theorem stoGet_any (w : World) (B : Nat) (h : StoH) (d : StoD) (k : ByteArray) (ha : StoAt w B h d) (hk : k.size ≤ maxLen) : Calls Tryz.prog 42 #[pt h.S, .string k] w (GetP w B h d k) := by
  have hb0 : Below w.heap.size w (w.alloc (.cells #[.string ⟨#[]⟩, .int .i64 0, .slice none 0 0] 75)) := (Below.refl _ _).alloc (Nat.le_refl _) _
  have hk0 := heap_alloc_self w (.cells #[.string ⟨#[]⟩, .int .i64 0, .slice none 0 0] 75)
  have HX := Lib.hid ha
  have HF : Hid ((d.E.find? (isK k)) = (h.E.find? (hasK k)).map (·.1)) := by show _ = _; rw [← ha.same]; exact find_isK k h.E
  have hSw : h.S < w.heap.size := (Array.getElem?_eq_some_iff.1 ha.obj).1
  clear ha
  go_enter Tryz.func42, Tryz.ntmps42
  go_wp2_with fail
  generalize w.alloc (.cells #[.string ⟨#[]⟩, .int .i64 0, .slice none 0 0] 75) = W0 at *
  have ha0 := HX.out.below hb0
  refine (off_any h.S _ _ h.G _ _ W0 ha0.obj).mono ?_
  rintro e W0 ⟨rfl, rfl⟩
  have c3 := cell_of_obj ha0.obj 3
  simp at c3
  have hadd := addInt_any h.S 3 d.reads W0 c3 (free_of_obj ha0.obj 3)
  obtain ⟨ha1, ht1⟩ := ha0.count (wrap64 (d.reads + 1))
  have hk1 := ht1.obj hk0 (by omega)
  have ht0 : Turns (fun x => x = h.S) w (W0.setCell ⟨h.S, 3, none⟩ (.int .i64 (wrap64 (d.reads + 1)))) := (turns_of_below hb0).trans ht1
  clear ha0 c3 hk0 ht1 hb0
  go_wp2_with fail
  refine hadd.mono ?_
  rintro e w1 ⟨rfl, rfl⟩
  clear hadd
  generalize W0.setCell ⟨h.S, 3, none⟩ (.int .i64 (wrap64 (d.reads + 1))) = W1 at *
  have hkey := Go.WideMaps.keyOf_string_mk (P := Tryz.prog) (k := 9) Tryz.underlying9 hk
  obtain ⟨v, ps, hrun, hR⟩ := ha1.ents.look_ok (Maps.string_keyed Tryz.underlying9) Tryz.underlying145 (zeroEn W1) (zd := .held (.agg #[.string ⟨#[]⟩, .int .i64 0, .slice none 0 0])) (zp := []) rfl hkey
  rw [mapE_at] at hR
  rw [mapE_has] at hrun
  have d0 := cell_of_obj ha1.obj 0
  simp at d0
  cases hfd : h.E.find? (hasK k) with
  | none =>
    rw [hfd] at hrun hR HF
    have hv : v = .agg #[.string ⟨#[]⟩, .int .i64 0, .slice none 0 0] := by
      simp only [RE, Option.some.injEq, Prod.mk.injEq, DataW.held.injEq] at hR
      exact hR.1
    subst hv
    have hG : Hid (getS d k = e0 ∧ (d.E.find? (isK k)).isSome = false) := by show _ ∧ _; unfold getS; rw [HF.out]; exact ⟨rfl, rfl⟩
    have HA := Lib.hid (And.intro ha1 (And.intro ht0 hk1))
    have hk2 : ∀ o, (W1.alloc o).heap[w.heap.size]? = some (.cells #[.string ⟨#[]⟩, .int .i64 0, .slice none 0 0] 75) := fun o => heap_older' hk1 o
    have HK := Lib.hid hk2
    clear hR ha1 ht0 hk1 hk2
    go_wp2_with (refine wpList_store_rowTo rfl 75 (.tmp 4) (.tmp 26) rfl rfl w.heap.size #[.string ⟨#[]⟩, .int .i64 0, .slice none 0 0] rfl rfl 75 #[.string ⟨#[]⟩, .int .i64 0, .slice none 0 0] (HK.out _) (by kernel_rfl) rfl (by kernel_rfl) ?_)
    refine bodyPost_ret (results_row2 Tryz.results42 _ _ w.heap.size 75 _ (0, 0) _ rfl (setRow_heap _ _ _ _ _ _ (HK.out _)) Tryz.underlying75 rfl (by kernel_rfl)) rfl ?_
    have hba : Below W1.heap.size W1 (W1.alloc (.cells #[.string ⟨#[]⟩, .int .i64 0, .slice none 0 0] 75)) := (Below.refl _ _).alloc (Nat.le_refl _) _
    refine ⟨none, 0, by rw [hG.out.1, hG.out.2]; rfl, ?_, ?_, ?_⟩
    · rw [hG.out.1]; exact ⟨World.ownsRow_nil _ _ _ _, fun y hy => by cases hy⟩
    · exact (HA.out.1.below hba).row (HK.out _) (by decide) HX.out.lt _
    · exact (HA.out.2.1.trans (turns_of_below hba)).transN (turns_setRow (S := fun x => x = w.heap.size) w.heap.size rfl _) (fun x hx => .inr (by omega))
  | some x =>
    rw [hfd] at hrun hR HF
    have hv : v = entV x := by
      simp only [RE, Option.some.injEq, Prod.mk.injEq, DataW.held.injEq] at hR
      exact hR.1
    subst hv
    have hxm : x ∈ h.E := List.mem_of_find?_eq_some hfd
    have hG : Hid (getS d k = x.1 ∧ (d.E.find? (isK k)).isSome = true) := by show _ ∧ _; unfold getS; rw [HF.out]; exact ⟨rfl, rfl⟩
    obtain ⟨q1, q2, q3, q4⟩ := (ha1.vals x hxm).at
    have hfw := ha1.few x hxm
    have hba : Below W1.heap.size W1 (W1.alloc (.cells (entC x) 75)) := (Below.refl _ _).alloc (Nat.le_refl _) _
    have hcp := copyEnt_any x.1 x.2.1 x.2.2 (W1.alloc (.cells (entC x) 75)) (q1.below' hba) q4 hfw q2 q3
    have hk2 := heap_older' hk1 (.cells (entC x) 75)
    have HA := Lib.hid (And.intro ha1 (And.intro ht0 (And.intro hba hk2)))
    clear hR ha1 ht0 hk1 hba hk2
    obtain ⟨⟨ke, re, va⟩, xa, xc⟩ := x
    dsimp only at *
    go_wp2_with fail
    refine hcp.mono ?_
    rintro e w2 ⟨a2, c2, rfl, hv2, hb2⟩
    have hk3 := (hb2.block w.heap.size (Array.getElem?_eq_some_iff.1 HA.out.2.2.2).1).trans HA.out.2.2.2
    clear hcp
    go_wp2_with (refine wpList_store_rowTo rfl 75 (.tmp 4) (.tmp 28) rfl rfl w.heap.size #[.string ke, .int .i64 re, .slice a2 va.length c2] rfl rfl 75 #[.string ⟨#[]⟩, .int .i64 0, .slice none 0 0] hk3 (by kernel_rfl) rfl (by kernel_rfl) ?_)
    refine bodyPost_ret (results_row2 Tryz.results42 _ _ w.heap.size 75 _ (0, 0) _ rfl (setRow_heap _ _ _ _ _ _ hk3) Tryz.underlying75 rfl (by kernel_rfl)) rfl ?_
    have hsz := HA.out.2.1.size
    have hs2 : w.heap.size < (W1.alloc (.cells #[.string ke, .int .i64 re, .slice xa va.length xc] 75)).heap.size := by simp; omega
    refine ⟨a2, c2, by rw [hG.out.1, hG.out.2]; rfl, ?_, ?_, ?_⟩
    · rw [hG.out.1]
      exact val_turns (S := fun k => k = w.heap.size) ⟨World.ownsRow.mono hv2.1 (Nat.le_of_lt hs2), hv2.2⟩ (turns_setRow (S := fun k => k = w.heap.size) w.heap.size rfl _) (fun k hk => by subst hk; exact ⟨_, ⟨_, _, hk3⟩, by decide⟩)
    · exact ((HA.out.1.below HA.out.2.2.1).below hb2).row hk3 (by decide) HX.out.lt _
    · exact (HA.out.2.1.trans (turns_of_below (HA.out.2.2.1.trans (hb2.mono HA.out.2.2.1.size)))).transN (turns_setRow (S := fun x => x = w.heap.size) w.heap.size rfl _) (fun x hx => .inr (by omega))
theorem LogAt.rebase {w : World} {B B' G : Nat} {d : LogD} (h : LogAt w B G (.slice none 0 0) [] d) (hB : B' ≤ w.heap.size) : LogAt w B' G (.slice none 0 0) [] d :=
  ⟨⟨hB, h.raw.obj, ⟨off_of_row (World.ownsRow_nil _ _ _ _), fun x hx => by cases hx⟩⟩, h.same, h.ok, h.few⟩
/-- A store with nothing in it: what it will hold lies where one likes. -/
theorem StoAt.rebase {w : World} {B B' : Nat} {h : StoH} {d : StoD} (ha : StoAt w B h d) (hE : h.E = []) (hH : h.H = []) (hv : h.v = .slice none 0 0) (hB : B' ≤ w.heap.size) : StoAt w B' h d := by
  refine ⟨hB, ha.obj, ha.ents, ha.toch, ?_, fun x hx => (by rw [hE] at hx; cases hx), ha.same, ha.tval, ha.ne, ha.few⟩
  have hl := ha.log
  rw [hH, hv] at hl ⊢
  exact hl.rebase hB
theorem StoLo.ge {w : World} {B N : Nat} {h : StoH} {d : StoD} (hl : StoLo N h) (ha : StoAt w B h d) (hB : N ≤ B) : ∀ k, StoS h k → N ≤ k := by
  rintro k (rfl | rfl | rfl | rfl | hk)
  · exact hl.1
  · exact hl.2.1
  · exact hl.2.2.1
  · exact hl.2.2.2
  · exact Nat.le_trans hB (ha.log.raw.own.row.lt k hk).1
end Go.Proofs.YtaleceobkbgcnaaGreat
