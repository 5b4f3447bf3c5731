/-
  Stores: a write, done. No conditions beyond what is written in each statement.
-/
import Derived.Test.YtaleceobkbgcnaaGreatGStoC
set_option linter.unusedSimpArgs false
set_option linter.unusedVariables false
namespace Go.Proofs.YtaleceobkbgcnaaGreat
open Go.RowKit

def evOf (rev : Int) (x : Wr) (a : Option Addr) (c : Nat) : Value := if x.gone then .agg #[.int .i64 rev, .string x.key, .slice none 0 0, .bool true] else .agg #[.int .i64 rev, .string x.key, .slice a x.val.length c, .bool false]
def MapS (h : StoH) (k : Nat) : Prop := k = h.mE ∨ k = h.mT
/-- What a write leaves in memory. -/
def WriteP (w : World) (B : Nat) (h : StoH) (d : StoD) (rev : Int) (x : Wr) (a : Option Addr) (c : Nat) (e : Ending) (w' : World) : Prop :=
  e = .returned (evOf rev x a c) ∧ ∃ n L E, StoAt w' B { h with nT := n, L := L, E := E } (writeS d rev x) ∧ n ≤ h.nT + x.key.size ∧ E.length ≤ h.E.length + 1 ∧ Turns (MapS h) w w'
/-- What the loop over a key's beginnings leaves. -/
def TouchP (w wr : World) (B : Nat) (h : StoH) (d : StoD) (rev : Int) (key : ByteArray) (j : Nat) : Prop := ∃ n L, StoAt wr B { h with nT := n, L := L } { d with T := touchF d.T key rev j } ∧ n = h.nT + j ∧ Turns (MapS h) w wr
theorem maps_ty {w : World} {B : Nat} {h : StoH} {d : StoD} (ha : StoAt w B h d) {k : Nat} (hk : MapS h k) (t : TypeId) : ¬ HasTy w k t := fun hb => by
  rcases hk with rfl | rfl
  · exact no_ty ha.ents hb
  · exact no_ty ha.toch hb
theorem delE_len (k : ByteArray) (E : List EntH) : (delE k E).length ≤ E.length := List.length_filter_le _ _
theorem putE_len (x : EntH) (E : List EntH) : (putE x E).length ≤ E.length + 1 := by
  unfold putE
  rw [len_insE]
  exact Nat.add_le_add_right (List.length_filter_le _ _) 1
set_option maxRecDepth 100000 in
set_option maxHeartbeats 8000000 in
theorem stoDo_any (w : World) (B : Nat) (h : StoH) (d : StoD) (rev : Int) (x : Wr) (a : Option Addr) (c : Nat) (ha : StoAt w B h d) (hv : ∀ w', Turns (MapS h) w w' → AtB w' a x.val) (hlc : x.val.length ≤ c) (hc : c ≤ maxLen) (hno : a = none → c = 0)
    (hk1 : 1 ≤ x.key.size) (hk2 : x.key.size ≤ 20) (hl : x.val.length ≤ 4000) (hn : h.nT ≤ 1000000000) (hE : h.E.length ≤ 1000000000) (hr : -9223372036854775808 ≤ rev ∧ rev ≤ 9223372036854775807) :
    Calls Tryz.prog 93 #[pt h.S, .int .i64 rev, wrV x a c] w (WriteP w B h d rev x a c) := by
  obtain ⟨key, val, gone⟩ := x
  dsimp only at *
  have hb0 : Below w.heap.size w ((w.alloc (.cells #[.string key, .slice a val.length c, .bool gone] 73)).alloc (.cells #[.int .i64 0, .string ⟨#[]⟩, .slice none 0 0, .bool false] 30)) := ((Below.refl _ _).alloc (Nat.le_refl _) _).alloc (by simp) _
  have q0 := heap_two0 w (.cells #[.string key, .slice a val.length c, .bool gone] 73) (.cells #[.int .i64 0, .string ⟨#[]⟩, .slice none 0 0, .bool false] 30)
  have q1 := heap_two1 w (.cells #[.string key, .slice a val.length c, .bool gone] 73) (.cells #[.int .i64 0, .string ⟨#[]⟩, .slice none 0 0, .bool false] 30)
  have c0 := cell_of_obj q0 0
  simp at c0
  have HA := Lib.hid ha
  have HV := Lib.hid hv
  clear ha hv
  go_enter Tryz.func93, Tryz.ntmps93
  go_wp2_with fail
  refine (clone_any key _ (by omega)).mono ?_
  rintro e w1 ⟨rfl, hb1⟩
  have hbw : Below w.heap.size w w1 := hb0.trans (hb1.mono hb0.size)
  have p0 := (hb1.block w.heap.size (by simp; omega)).trans q0
  have p1 := (hb1.block (w.heap.size + 1) (by simp)).trans q1
  have HS := Lib.hid (And.intro p0 p1)
  have hT0 : Hid (TouchP w w1 B h d rev key 0) := ⟨h.nT, h.L, by rw [touch_0]; exact HA.out.below hbw, rfl, turns_of_below hbw⟩
  clear hb0 q0 q1 hb1 p0 p1 c0 hbw
  go_wp2_with fail
  go_loopw [14] (fun i wr => ∃ k : Nat, k ≤ key.size ∧ i = .int .i64 k ∧ Hid (TouchP w wr B h d rev key k) ∧ Hid (wr.heap[w.heap.size]? = some (.cells #[.string key, .slice a val.length c, .bool gone] 73) ∧ wr.heap[w.heap.size + 1]? = some (.cells #[.int .i64 0, .string ⟨#[]⟩, .slice none 0 0, .bool false] 30))) (fun i _ => key.size - (intOf i).toNat)
  case atStart => exact ⟨0, Nat.zero_le _, rfl, hT0, HS.out⟩
  case round =>
    clear hT0 HS
    obtain ⟨k, hk, rfl, HT, HS⟩ := hrel
    obtain ⟨n, L, hat, hnn, htu⟩ := HT.out
    by_cases hlt : k < key.size
    · have y1 := cell_of_obj hat.obj 1
      simp at y1
      have k0 : (0 : Int) ≤ (k : Int) := by omega
      have k1 : (k : Int) + 1 ≤ (key.size : Int) := by omega
      have s1 : wrap64 ((k : Int) + 1) = ((k + 1 : Nat) : Int) := by rw [IntWalk.wrap64_in _ (by omega)]; omega
      obtain ⟨w2, L2, hup, hat2, htu2⟩ := (hat.below (Below.refl _ _).drew).touch (key.extract 0 (k + 1)) (by rw [ByteArray.size_extract]; unfold maxLen; omega) rev hr (by subst hnn; unfold maxLen; dsimp only; omega)
      clear hat
      go_wp2_with fail
      go_region
      have HN : Hid (TouchP w w2 B h d rev key (k + 1)) := by
        refine ⟨n + 1, L2, ?_, by omega, (htu.trans (turns_of_below (Below.refl _ _).drew)).trans (htu2.mono fun x hx => .inr hx)⟩
        rw [← touch_step _ _ _ _ hlt]
        exact hat2
      have hmT : h.mT < w.heap.size := HA.out.toch.lt
      have HS2 := Lib.hid (And.intro (htu2.obj HS.out.1 (by omega)) (htu2.obj HS.out.2 (by omega)))
      clear hat2 htu2 htu
      go_wp2_with fail
      go_roundw
      case rel => exact ⟨k + 1, by omega, by go_num, HN, HS2⟩
      case measure => simp [intOf]; omega
    · obtain rfl : k = key.size := by omega
      have y2 := cell_of_obj HS.out.1 2
      have y0 := cell_of_obj hat.obj 0
      simp at y0 y2
      have hkey := Go.WideMaps.keyOf_string_mk (P := Tryz.prog) (k := 9) Tryz.underlying9 (s := key) (by unfold maxLen; omega)
      have HAT := Lib.hid (And.intro hat htu)
      clear hat htu HT
      cases gone
      · have hva := HV.out wr HAT.out.2
        have hcp0 := copyEnt_any ⟨key, rev, val⟩ a c wr.drew (hva.below' (Below.refl _ _).drew) hno (by dsimp only; omega) hlc hc
        have hcp : Calls Tryz.prog 94 #[.agg #[.string key, .int .i64 rev, .slice a val.length c]] wr.drew fun e w' => ∃ a' c', e = .returned (.agg #[.string key, .int .i64 rev, .slice a' val.length c']) ∧ ValOwn w' wr.heap.size val a' c' ∧ Below wr.drew.heap.size wr.drew w' := hcp0
        have y1 := cell_of_obj HS.out.1 1
        simp at y1
        have hmE : h.mE < w.heap.size := HA.out.ents.lt
        have hsz := HAT.out.2.size
        have hBB : B ≤ wr.heap.size := by have := HA.out.lo; omega
        clear hcp0 hva
        go_wp2_with fail
        go_region_with
          (first
            | (go_at_call 94
               refine hcp.mono ?_
               rintro e w2 ⟨a2, c2, rfl, hv2, hb2⟩
               have hb2' : Below wr.heap.size wr w2 := ((Below.refl _ wr).drew).trans hb2
               have hat2 := HAT.out.1.below hb2'
               obtain ⟨w3, hupd, hat3, ht3⟩ := hat2.put (⟨key, rev, val⟩, a2, c2) (by unfold maxLen; dsimp only; omega) (by unfold maxLen; dsimp only; omega) ⟨World.ownsRow.mono hv2.1 hBB, hv2.2⟩ (by dsimp only; omega)
               change (Instr.mapUpdate 145 (.map (some h.mE)) (.string key) (.agg #[.string key, .int .i64 rev, .slice a2 val.length c2])).run Tryz.prog w2 = .ok () w3 at hupd
               have g0 := cell_of_obj hat2.obj 0
               simp at g0
               clear hat2 hv2 hb2))
        all_goals
          have p0 := ht3.obj ((hb2'.block _ (Array.getElem?_eq_some_iff.1 HS.out.1).1).trans HS.out.1) (by omega)
          have p1 := ht3.obj ((hb2'.block _ (Array.getElem?_eq_some_iff.1 HS.out.2).1).trans HS.out.2) (by omega)
          have z1 := cell_of_obj p0 1
          simp at z1
          have HF := Lib.hid (And.intro hat3 (And.intro ht3 (And.intro p1 hb2')))
          clear hat3 ht3 p1 p0 hupd g0 hcp hb2' y0 y1 y2
          go_wp2_with (refine wpList_store_rowTo rfl 30 (.tmp 6) (.tmp 52) rfl rfl (w.heap.size + 1) #[.int .i64 rev, .string key, .slice a val.length c, .bool false] rfl rfl 30 #[.int .i64 0, .string ⟨#[]⟩, .slice none 0 0, .bool false] HF.out.2.2.1 (by kernel_rfl) rfl (by kernel_rfl) ?_)
          refine bodyPost_ret (results_cell_row Tryz.results93 _ _ (w.heap.size + 1) 30 _ (0, 0) _ rfl (setRow_heap _ _ _ _ _ _ HF.out.2.2.1) Tryz.underlying30 rfl (by kernel_rfl)) rfl ?_
          have hlt9 : ∀ k, StoS h k → k < w.heap.size + 1 := fun k hk => Nat.lt_succ_of_lt (HA.out.lt k hk)
          refine ⟨rfl, _, _, _, HF.out.1.row HF.out.2.2.1 (by decide) hlt9 _, Nat.le_of_eq hnn, putE_len _ _, ?_⟩
          exact ((HAT.out.2.trans (turns_of_below HF.out.2.2.2)).trans (HF.out.2.1.mono fun x hx => .inl hx)).transN (turns_setRow (S := fun x => x = w.heap.size + 1) (w.heap.size + 1) rfl _) (fun x hx => .inr (by omega))
      · obtain ⟨w3, hdel, hown3, htu3⟩ := HAT.out.1.ents.drop (Maps.string_keyed Tryz.underlying9) Tryz.underlying145 hkey 0
        have ht3 := turned_turns htu3
        have hat3 := HAT.out.1.del key hown3 ht3
        have hmE : h.mE < w.heap.size := HA.out.ents.lt
        have p1 := ht3.obj HS.out.2 (by dsimp only; omega)
        have HF := Lib.hid (And.intro hat3 (And.intro ht3 p1))
        clear hown3 htu3 ht3 hat3 p1
        go_wp2_with (refine wpList_store_rowTo rfl 30 (.tmp 6) (.tmp 36) rfl rfl (w.heap.size + 1) #[.int .i64 rev, .string key, .slice none 0 0, .bool true] rfl rfl 30 #[.int .i64 0, .string ⟨#[]⟩, .slice none 0 0, .bool false] HF.out.2.2 (by kernel_rfl) rfl (by kernel_rfl) ?_)
        refine bodyPost_ret (results_cell_row Tryz.results93 _ _ (w.heap.size + 1) 30 _ (0, 0) _ rfl (setRow_heap _ _ _ _ _ _ HF.out.2.2) Tryz.underlying30 rfl (by kernel_rfl)) rfl ?_
        have hlt9 : ∀ k, StoS h k → k < w.heap.size + 1 := fun k hk => Nat.lt_succ_of_lt (HA.out.lt k hk)
        refine ⟨rfl, _, _, _, HF.out.1.row HF.out.2.2 (by decide) hlt9 _, Nat.le_of_eq hnn, Nat.le_trans (delE_len _ _) (Nat.le_succ _), ?_⟩
        exact (HAT.out.2.trans (HF.out.2.1.mono fun x hx => .inl hx)).transN (turns_setRow (S := fun x => x = w.heap.size + 1) (w.heap.size + 1) rfl _) (fun x hx => .inr (by omega))
end Go.Proofs.YtaleceobkbgcnaaGreat
namespace Go.Proofs.YtaleceobkbgcnaaGreat
open Go.RowKit

def evD (rev : Int) (x : Wr) : EvD := ⟨rev, x.key, if x.gone then [] else x.val, x.gone⟩
def writesS (d : StoD) (rev : Int) (ws : List Wr) : StoD := ws.foldl (fun d x => writeS d rev x) d
def txnErr (d : StoD) (gs : List Gd) (ws : List Wr) : Int := if txnS gs ws then (if holdAllB d gs then (if ws.all (goneB d) then 0 else 3) else 6) else 1
def revS (d : StoD) : Int := d.log.last + 1
def txnF (d : StoD) (gs : List Gd) (ws : List Wr) : StoD :=
  if txnErr d gs ws = 0 then { writesS { d with writes := wrap64 (d.writes + 1) } (revS d) ws with log := addD d.log (ws.map (evD (revS d))) } else { d with writes := wrap64 (d.writes + 1) }
def txnRev (d : StoD) (gs : List Gd) (ws : List Wr) : Int := if txnErr d gs ws = 0 then revS d else 0
theorem writeS_log (d : StoD) (rev : Int) (x : Wr) : (writeS d rev x).log = d.log := rfl
theorem writesS_log (rev : Int) : ∀ (ws : List Wr) (d : StoD), (writesS d rev ws).log = d.log
  | [], d => rfl
  | x :: r, d => by
    show (writesS (writeS d rev x) rev r).log = _
    rw [writesS_log rev r]; rfl
theorem writesS_take (d : StoD) (rev : Int) (ws : List Wr) {j : Nat} (h : j < ws.length) : writesS d rev (ws.take (j + 1)) = writeS (writesS d rev (ws.take j)) rev (ws.getD j r0) := by
  unfold writesS
  rw [List.take_add_one, List.getD_eq_getElem?_getD, List.getElem?_eq_getElem h, List.foldl_append]
  rfl
/-- Bytes that lie where they lay whatever turns of a store. -/
def Steady (h : StoH) (w : World) (x : EvH) : Prop := (∀ w', Turns (StoS h) w w' → AtB w' x.2.1 x.1.val) ∧ x.1.val.length ≤ x.2.2 ∧ x.2.2 ≤ maxLen ∧ (x.2.1 = none → x.2.2 = 0)
theorem rowE_at {w : World} {N : Nat} {a : Option Addr} {n c : Nat} {H : List EvH} (h : w.ownsRow N 30 4 (.slice a n c) H.length (H.flatMap cellsE)) (hv : ∀ x ∈ H, AtB w x.2.1 x.1.val ∧ x.1.val.length ≤ x.2.2 ∧ x.2.2 ≤ maxLen ∧ (x.2.1 = none → x.2.2 = 0)) (hm : H.length ≤ 9223372036854775807) : AtE w a (evs H) := by
  refine ⟨by simpa using hm, fun i hi => ?_⟩
  have hi' : i < H.length := by simpa using hi
  have hx : (evs H).getD i v0 = (H.getD i h0).1 := by
    rw [List.getD_eq_getElem?_getD, List.getElem?_eq_getElem hi, List.getD_eq_getElem?_getD, List.getElem?_eq_getElem hi']
    simp
  have hmem : H.getD i h0 ∈ H := by
    rw [List.getD_eq_getElem?_getD, List.getElem?_eq_getElem hi']
    exact List.getElem_mem _
  obtain ⟨hv1, h1, h2, h3⟩ := hv _ hmem
  have ho := off_of_row h
  rcases ho.2 with ⟨_, e0⟩ | ⟨g, off, cap, cur, e, hb, hg, _⟩
  · omega
  · cases e
    have hc : ∀ j, j < 4 → w.cell? ⟨g, off + i * 4 + j, none⟩ = (cellsE (H.getD i h0))[j]? := fun j hj => by
      have hf := flat_at (f := cellsE) (sz := 4) (l := H) (i := i) (j := j) (d := h0) (fun _ => rfl) hi' hj
      cases hu : (cellsE (H.getD i h0))[j]? with
      | none => rw [List.getElem?_eq_none_iff] at hu; simp at hu; omega
      | some u => rw [hu] at hf; rw [Nat.add_assoc]; exact ho.cells _ _ hf
    rw [hx]
    exact ⟨g, off, _, _, rfl, (Array.getElem?_eq_some_iff.1 hg).1, hc 0 (by decide), hc 1 (by decide), hc 2 (by decide), hc 3 (by decide), hv1, h1, h2, h3⟩
/-- What Txn leaves. -/
def TxnP (w : World) (B : Nat) (h : StoH) (d : StoD) (gs : List Gd) (ws : List Wr) (e : Ending) (w' : World) : Prop :=
  e = .returned (.tuple #[.int .i64 (txnRev d gs ws), .int .i64 (txnErr d gs ws)]) ∧ ∃ n L E v H, StoAt w' B { h with nT := n, L := L, E := E, v := v, H := H } (txnF d gs ws) ∧ n ≤ h.nT + 1280 ∧ E.length ≤ h.E.length + 64 ∧ Turns (StoS h) w w' ∧ (v.ownBlock = h.v.ownBlock ∨ ∃ k, v.ownBlock = some k ∧ w.heap.size ≤ k)
theorem txnS_use {gs : List Gd} {ws : List Wr} (h : txnS gs ws = true) : ws.length ≤ 64 ∧ (∀ g ∈ gs, keyB g.1 = true) ∧ (∀ x ∈ ws, wrS x = true) := by
  unfold txnS at h
  simp only [Bool.and_eq_true, decide_eq_true_eq, List.all_eq_true] at h
  obtain ⟨⟨⟨⟨_, _⟩, h3⟩, h4⟩, h5⟩ := h
  refine ⟨h3, fun g hg => ?_, fun x hx => ?_⟩
  · have := h4 g hg
    unfold gdS at this
    simp only [Bool.and_eq_true] at this
    exact this.1
  · obtain ⟨i, hi, rfl⟩ := List.getElem_of_mem hx
    have := h5 i (by simpa using hi)
    unfold stepW at this
    simp only [Bool.and_eq_true] at this
    rw [List.getD_eq_getElem?_getD, List.getElem?_eq_getElem hi] at this
    exact this.1
theorem wrS_use {x : Wr} (h : wrS x = true) : 1 ≤ x.key.size ∧ x.key.size ≤ 20 ∧ x.val.length ≤ 4000 ∧ (x.gone = true → x.val = []) := by
  unfold wrS keyB at h
  simp only [Bool.and_eq_true, decide_eq_true_eq] at h
  refine ⟨h.1.1, h.1.2, ?_, fun hg => ?_⟩
  · cases hg : x.gone
    · have := h.2; rw [hg] at this; simpa using this
    · have := h.2; rw [hg] at this; simp at this; rw [this]; simp
  · have := h.2; rw [hg] at this; simpa using this
theorem keyB_use {k : ByteArray} (h : keyB k = true) : k.size ≤ 20 := by
  unfold keyB at h
  simp only [Bool.and_eq_true, decide_eq_true_eq] at h
  exact h.2
/-- Writes that lie where they lay whatever turns of S. -/
def WsAt (S : Nat → Prop) (w : World) (a : Option Addr) (l : List Wr) : Prop :=
  l.length ≤ 9223372036854775807 ∧ ∀ i, i < l.length → ∃ b off va vc, a = some ⟨b, off, none⟩ ∧ (l.getD i r0).val.length ≤ vc ∧ vc ≤ maxLen ∧ (va = none → vc = 0) ∧ ∀ w', Turns S w w' → b < w'.heap.size ∧ w'.cell? ⟨b, off + i * 3, none⟩ = some (.string (l.getD i r0).key) ∧ w'.cell? ⟨b, off + i * 3 + 1, none⟩ = some (.slice va (l.getD i r0).val.length vc) ∧ w'.cell? ⟨b, off + i * 3 + 2, none⟩ = some (.bool (l.getD i r0).gone) ∧ AtB w' va (l.getD i r0).val
theorem WsAt.at {S : Nat → Prop} {w w' : World} {a : Option Addr} {l : List Wr} (h : WsAt S w a l) (ht : Turns S w w') : AtW w' a l := ⟨h.1, fun i hi => by
  obtain ⟨b, off, va, vc, ha, h1, h2, h3, h4⟩ := h.2 i hi
  obtain ⟨k0, k1, k2, k3, k4⟩ := h4 w' ht
  exact ⟨b, off, va, vc, ha, k0, k1, k2, k3, k4, h1, h2, h3⟩⟩
end Go.Proofs.YtaleceobkbgcnaaGreat
