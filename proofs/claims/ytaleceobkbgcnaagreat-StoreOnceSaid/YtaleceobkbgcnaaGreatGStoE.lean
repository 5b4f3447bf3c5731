/-
  maps.Keys, slices.Sorted, slices.Sort: their bodies are the library's. No conditions beyond what is written in each statement.
-/
import Derived.Test.YtaleceobkbgcnaaGreatSto11
import Derived.Shelf.SlIter.Nil
import Derived.Shelf.SortM.Plain
import Derived.Shelf.SortM.SortNone
set_option linter.unusedSimpArgs false
set_option linter.unusedVariables false
namespace Go.Proofs.YtaleceobkbgcnaaGreat
open Go.RowKit Go.Maps Go.Sort Go.Shelf

def keysR : Ren := ⟨fun | 7 => 96 | 10 => 141 | n => n, fun | 23 => 145 | 26 => 9 | 3 => 75 | 28 => 161 | 0 => 0 | 27 => 160 | 33 => 186 | 4 => 4 | n => n, fun n => n⟩
theorem keysL : Go.Proofs.SlLaysZ.n7 Tryz.prog keysR where
  mixed := by kernel_rfl
  f7 := ⟨Tryz.f96.name, by kernel_rfl, Tryz.func96.trans (congrArg some (by kernel_rfl))⟩
  f10 := ⟨Tryz.f141.name, by kernel_rfl, Tryz.func141.trans (congrArg some (by kernel_rfl))⟩
  t0 := Tryz.underlying0
  a0 := Tryz.isAgg0
  z0 := Tryz.sizeOf0
  v0 := Tryz.zeroValue0
  t4 := Tryz.underlying4
  a4 := Tryz.isAgg4
  z4 := Tryz.sizeOf4
  v4 := Tryz.zeroValue4
  t23 := Tryz.underlying145
  a23 := Tryz.isAgg145
  z23 := Tryz.sizeOf145
  v23 := Tryz.zeroValue145
  t26 := Tryz.underlying9
  a26 := Tryz.isAgg9
  z26 := Tryz.sizeOf9
  v26 := Tryz.zeroValue9
  t27 := Tryz.underlying160
  a27 := Tryz.isAgg160
  z27 := Tryz.sizeOf160
  v27 := Tryz.zeroValue160
  t28 := Tryz.underlying161
  a28 := Tryz.isAgg161
  z28 := Tryz.sizeOf161
  v28 := Tryz.zeroValue161
  t33 := Tryz.underlying186
  a33 := Tryz.isAgg186
  z33 := Tryz.sizeOf186
  v33 := Tryz.zeroValue186
def sortedR : Ren := ⟨fun | 6 => 95 | 8 => 139 | 9 => 140 | 11 => 167 | 13 => 169 | 12 => 168 | 23 => 220 | 24 => 221 | 14 => 211 | 15 => 212 | 16 => 213 | 17 => 214 | 18 => 215 | 19 => 216 | 20 => 217 | 21 => 218 | 22 => 219 | 25 => 239 | 26 => 240 | 27 => 241 | 28 => 242 | 29 => 243 | 30 => 244 | 31 => 249 | n => n, fun | 26 => 9 | 28 => 161 | 24 => 88 | 0 => 0 | 3 => 3 | 37 => 192 | 48 => 294 | 50 => 188 | 4 => 4 | 40 => 287 | 39 => 286 | 45 => 164 | 5 => 5 | 9 => 9 | 51 => 314 | 55 => 318 | 57 => 323 | 58 => 324 | 33 => 186 | n => n, fun n => n⟩
theorem sortedL : Go.Proofs.SlLaysZ.n6 Tryz.prog sortedR where
  mixed := by kernel_rfl
  f6 := ⟨Tryz.f95.name, by kernel_rfl, Tryz.func95.trans (congrArg some (by kernel_rfl))⟩
  f8 := ⟨Tryz.f139.name, by kernel_rfl, Tryz.func139.trans (congrArg some (by kernel_rfl))⟩
  f11 := ⟨Tryz.f167.name, by kernel_rfl, Tryz.func167.trans (congrArg some (by kernel_rfl))⟩
  t0 := Tryz.underlying0
  a0 := Tryz.isAgg0
  z0 := Tryz.sizeOf0
  v0 := Tryz.zeroValue0
  t24 := Tryz.underlying88
  a24 := Tryz.isAgg88
  z24 := Tryz.sizeOf88
  v24 := Tryz.zeroValue88
  t26 := Tryz.underlying9
  a26 := Tryz.isAgg9
  z26 := Tryz.sizeOf9
  v26 := Tryz.zeroValue9
  t28 := Tryz.underlying161
  a28 := Tryz.isAgg161
  z28 := Tryz.sizeOf161
  v28 := Tryz.zeroValue161
  i26 := by kernel_rfl
def sortR : Ren := ⟨fun | 6 => 140 | 8 => 169 | 9 => 168 | 19 => 220 | 20 => 221 | 21 => 211 | 22 => 212 | 23 => 213 | 24 => 214 | 25 => 215 | 26 => 216 | 27 => 217 | 28 => 218 | 29 => 219 | 36 => 239 | 31 => 240 | 32 => 241 | 37 => 242 | 38 => 243 | 39 => 244 | 41 => 249 | n => n, fun | 27 => 88 | 29 => 9 | 3 => 3 | 32 => 192 | 26 => 88 | 0 => 0 | 44 => 294 | 46 => 188 | 4 => 4 | 36 => 287 | 35 => 286 | 41 => 164 | 5 => 5 | 9 => 9 | 53 => 314 | 57 => 318 | 63 => 323 | 64 => 324 | n => n, fun n => n⟩
theorem sortL : Go.Proofs.SlLaysM.n6 Tryz.prog sortR where
  mixed := by kernel_rfl
  f6 := ⟨Tryz.f140.name, by kernel_rfl, Tryz.func140.trans (congrArg some (by kernel_rfl))⟩
  f8 := Tryz.func169.trans (congrArg some (by kernel_rfl))
  f9 := ⟨Tryz.f168.name, by kernel_rfl, Tryz.func168.trans (congrArg some (by kernel_rfl))⟩
  f19 := Tryz.func220.trans (congrArg some (by kernel_rfl))
  f20 := Tryz.func221.trans (congrArg some (by kernel_rfl))
  f21 := ⟨Tryz.f211.name, by kernel_rfl, Tryz.func211.trans (congrArg some (by kernel_rfl))⟩
  f22 := ⟨Tryz.f212.name, by kernel_rfl, Tryz.func212.trans (congrArg some (by kernel_rfl))⟩
  f23 := ⟨Tryz.f213.name, by kernel_rfl, Tryz.func213.trans (congrArg some (by kernel_rfl))⟩
  f24 := ⟨Tryz.f214.name, by kernel_rfl, Tryz.func214.trans (congrArg some (by kernel_rfl))⟩
  f25 := ⟨Tryz.f215.name, by kernel_rfl, Tryz.func215.trans (congrArg some (by kernel_rfl))⟩
  f26 := ⟨Tryz.f216.name, by kernel_rfl, Tryz.func216.trans (congrArg some (by kernel_rfl))⟩
  f27 := ⟨Tryz.f217.name, by kernel_rfl, Tryz.func217.trans (congrArg some (by kernel_rfl))⟩
  f28 := ⟨Tryz.f218.name, by kernel_rfl, Tryz.func218.trans (congrArg some (by kernel_rfl))⟩
  f29 := ⟨Tryz.f219.name, by kernel_rfl, Tryz.func219.trans (congrArg some (by kernel_rfl))⟩
  f31 := Tryz.func240.trans (congrArg some (by kernel_rfl))
  f32 := Tryz.func241.trans (congrArg some (by kernel_rfl))
  f36 := ⟨Tryz.f239.name, by kernel_rfl, Tryz.func239.trans (congrArg some (by kernel_rfl))⟩
  f37 := ⟨Tryz.f242.name, by kernel_rfl, Tryz.func242.trans (congrArg some (by kernel_rfl))⟩
  f38 := ⟨Tryz.f243.name, by kernel_rfl, Tryz.func243.trans (congrArg some (by kernel_rfl))⟩
  f39 := ⟨Tryz.f244.name, by kernel_rfl, Tryz.func244.trans (congrArg some (by kernel_rfl))⟩
  f41 := ⟨Tryz.f249.name, by kernel_rfl, Tryz.func249.trans (congrArg some (by kernel_rfl))⟩
  t0 := Tryz.underlying0
  a0 := Tryz.isAgg0
  z0 := Tryz.sizeOf0
  v0 := Tryz.zeroValue0
  t3 := Tryz.underlying3
  a3 := Tryz.isAgg3
  z3 := Tryz.sizeOf3
  v3 := Tryz.zeroValue3
  t4 := Tryz.underlying4
  a4 := Tryz.isAgg4
  z4 := Tryz.sizeOf4
  v4 := Tryz.zeroValue4
  t5 := Tryz.underlying5
  a5 := Tryz.isAgg5
  z5 := Tryz.sizeOf5
  v5 := Tryz.zeroValue5
  t9 := Tryz.underlying9
  a9 := Tryz.isAgg9
  z9 := Tryz.sizeOf9
  v9 := Tryz.zeroValue9
  t26 := Tryz.underlying88
  a26 := Tryz.isAgg88
  z26 := Tryz.sizeOf88
  v26 := Tryz.zeroValue88
  t27 := Tryz.underlying88
  a27 := Tryz.isAgg88
  z27 := Tryz.sizeOf88
  v27 := Tryz.zeroValue88
  t29 := Tryz.underlying9
  a29 := Tryz.isAgg9
  z29 := Tryz.sizeOf9
  v29 := Tryz.zeroValue9
  t32 := Tryz.underlying192
  a32 := Tryz.isAgg192
  z32 := Tryz.sizeOf192
  v32 := Tryz.zeroValue192
  t35 := Tryz.underlying286
  a35 := Tryz.isAgg286
  z35 := Tryz.sizeOf286
  v35 := Tryz.zeroValue286
  t36 := Tryz.underlying287
  a36 := Tryz.isAgg287
  z36 := Tryz.sizeOf287
  v36 := Tryz.zeroValue287
  t41 := Tryz.underlying164
  a41 := Tryz.isAgg164
  z41 := Tryz.sizeOf164
  v41 := Tryz.zeroValue164
  t44 := Tryz.underlying294
  a44 := Tryz.isAgg294
  z44 := Tryz.sizeOf294
  v44 := Tryz.zeroValue294
  t46 := Tryz.underlying188
  a46 := Tryz.isAgg188
  z46 := Tryz.sizeOf188
  v46 := Tryz.zeroValue188
  t53 := Tryz.underlying314
  a53 := Tryz.isAgg314
  z53 := Tryz.sizeOf314
  v53 := Tryz.zeroValue314
  t57 := Tryz.underlying318
  a57 := Tryz.isAgg318
  z57 := Tryz.sizeOf318
  v57 := Tryz.zeroValue318
  t63 := Tryz.underlying323
  a63 := Tryz.isAgg323
  z63 := Tryz.sizeOf323
  v63 := Tryz.zeroValue323
  t64 := Tryz.underlying324
  a64 := Tryz.isAgg324
  z64 := Tryz.sizeOf324
  v64 := Tryz.zeroValue324
end Go.Proofs.YtaleceobkbgcnaaGreat
namespace Go.Proofs.YtaleceobkbgcnaaGreat
open Go.RowKit Go.Maps Go.Sort Go.Shelf

theorem sorts_any (m : Nat) : AnyZ.SortsIn Tryz.prog sortedR Fence.wide m :=
  ⟨fun blk off cap ss W h1 h2 h3 => callsIn_wide.2 (AnyM.slices_Sort_string sortL blk off cap ss W h1 h2 h3), fun p cap W => callsIn_wide.2 (AnyM.slices_Sort_string_none sortL p cap W)⟩
theorem keys_any (mb : Option Nat) (W : World) : Calls Tryz.prog 96 #[.map mb] W fun e w' => e = .returned (.func (.func 141) #[] #[.pointer (some ⟨W.heap.size, 0, none⟩)]) ∧ w' = W.alloc (.cells #[.map mb] 145) :=
  (callsIn_wide (n := 5)).1 (AnyZ.keys_in keysL Fence.wide 5 trivial rfl mb W)
/-- What slices.Sorted tells of a map's keys. -/
def SortP (W : World) (ks : List (List UInt8)) (e : Ending) (w' : World) : Prop := ∃ (v : Value) (ss : List (List UInt8)), e = .returned v ∧ ss.Perm ks ∧ w'.ownsRow W.heap.size 9 1 v ss.length ((ss.mergeSort (fun x y => decide (x ≤ y))).map encStr) ∧ Below W.heap.size W w'
theorem sorted_any {H : Type} (b nn : Nat) (D0 : DataW H) (R : Value → Option (DataW H × List MemPlace)) (w : World) (hown : w.ownsMap Tryz.prog 9 R b nn D0) (hmax : Maps.size D0 ≤ maxLen) (hbytes : Maps.size D0 * 16 ≤ 140737488355328) :
    Calls Tryz.prog 95 #[.func (.func 141) #[] #[.pointer (some ⟨w.heap.size, 0, none⟩)]] (w.alloc (.cells #[.map (some b)] 145)) (SortP (w.alloc (.cells #[.map (some b)] 145)) (strKeys D0)) := by
  have hseq : SeqGives Fence.wide 2 Tryz.prog 141 #[.pointer (some ⟨w.heap.size, 0, none⟩)] encStr (fun ss => ss.Perm (strKeys D0)) (Maps.size D0) (w.alloc (.cells #[.map (some b)] 145)) :=
    AnyZ.keys_gives (ρ := keysR) { keysL with } Fence.wide _ trivial rfl (by omega) w.heap.size b nn D0 _ (by simp) (by simp) (hown.alloc _)
  have cS := AnyZ.sorted_in sortedL Fence.wide 5 trivial trivial trivial trivial rfl (by omega) (sorts_any _) (enters_of Tryz.func140 (by kernel_rfl) rfl) 141 #[.pointer (some ⟨w.heap.size, 0, none⟩)] trivial (enters_of Tryz.func141 (by kernel_rfl) rfl) _ _ hmax hbytes _ hseq
  refine ((callsIn_wide (n := 5)).1 cS).mono ?_
  rintro e w' ⟨v, ss, rfl, h1, h2, h3, h4⟩
  exact ⟨v, ss, rfl, h1, h2, h4⟩
end Go.Proofs.YtaleceobkbgcnaaGreat
namespace Go.Proofs.YtaleceobkbgcnaaGreat
open Go.RowKit

abbrev kb (k : ByteArray) : List UInt8 := k.data.toList
/-- By rising keys, each once. -/
def Keyed (E : List EntD) : Prop := E.Pairwise fun x y => bytesBefore (kb x.key) (kb y.key) = true
theorem lt_of_before : ∀ a b : List UInt8, bytesBefore a b = true → a ≤ b
  | [], _, _ => List.nil_le _
  | _ :: _, [], h => by simp [bytesBefore] at h
  | a :: r, b :: s, h => by
    simp only [bytesBefore, Bool.or_eq_true, decide_eq_true_eq, Bool.and_eq_true, beq_iff_eq] at h
    rw [List.cons_le_cons_iff]
    rcases h with h | ⟨rfl, h⟩
    · exact .inl h
    · exact .inr ⟨rfl, lt_of_before r s h⟩
theorem keyed_ins (x : EntD) : ∀ (E : List EntD), Keyed E → (∀ y ∈ E, y.key ≠ x.key) → Keyed (insD x E)
  | [], _, _ => List.pairwise_singleton _ _
  | y :: r, h, hn => by
    obtain ⟨h1, h2⟩ := List.pairwise_cons.1 h
    rw [insD]
    split
    · rename_i hb
      refine List.pairwise_cons.2 ⟨fun z hz => ?_, h⟩
      rcases List.mem_cons.1 hz with rfl | hz
      · exact hb
      · exact WideShapes.bytes_trans _ _ _ hb (h1 z hz)
    · rename_i hb
      have hyx : bytesBefore (kb y.key) (kb x.key) = true := by
        rcases WideAt.bytes_total (kb x.key) (kb y.key) (fun e => hn y (List.mem_cons_self ..) (data_inj e.symm)) with h' | h'
        · exact absurd h' hb
        · exact h'
      refine List.pairwise_cons.2 ⟨fun z hz => ?_, keyed_ins x r h2 fun z hz => hn z (List.mem_cons_of_mem _ hz)⟩
      have hz' : z = x ∨ z ∈ r := by
        have : ∀ (l : List EntD), z ∈ insD x l → z = x ∨ z ∈ l := by
          intro l
          induction l with
          | nil => intro h; simpa [insD] using h
          | cons w l ih =>
            intro h
            rw [insD] at h
            split at h
            · rcases List.mem_cons.1 h with h | h
              · exact .inl h
              · exact .inr h
            · rcases List.mem_cons.1 h with h | h
              · exact .inr (List.mem_cons.2 (.inl h))
              · exact (ih h).imp id fun h => List.mem_cons_of_mem _ h
        exact this r hz
      rcases hz' with rfl | hz'
      · exact hyx
      · exact h1 z hz'
theorem keyed_put (x : EntD) (E : List EntD) (h : Keyed E) : Keyed (putD x E) :=
  keyed_ins x _ (h.filter _) fun y hy => by
    have := (List.mem_filter.1 hy).2
    unfold isK at this
    simpa using this
theorem keyed_del (k : ByteArray) (E : List EntD) (h : Keyed E) : Keyed (delD k E) := h.filter _
theorem keyed_write (d : StoD) (rev : Int) (x : Wr) (h : Keyed d.E) : Keyed (writeS d rev x).E := by
  unfold writeS
  dsimp only
  split
  · exact keyed_del _ _ h
  · exact keyed_put _ _ h
theorem keyed_writes (rev : Int) : ∀ (ws : List Wr) (d : StoD), Keyed d.E → Keyed (writesS d rev ws).E
  | [], _, h => h
  | x :: r, d, h => keyed_writes rev r (writeS d rev x) (keyed_write d rev x h)
theorem keyed_txn (d : StoD) (gs : List Gd) (ws : List Wr) (h : Keyed d.E) : Keyed (txnF d gs ws).E := by
  unfold txnF
  split
  · exact keyed_writes _ ws _ h
  · exact h
theorem keyed_sort (E : List EntD) (h : Keyed E) : (E.map fun x => kb x.key).mergeSort (fun x y => decide (x ≤ y)) = E.map fun x => kb x.key := by
  refine List.mergeSort_of_pairwise ?_
  refine List.pairwise_map.2 (h.imp fun {x y} hxy => ?_)
  exact decide_eq_true (lt_of_before _ _ hxy)
theorem keyed_find {E : List EntD} (h : Keyed E) {x : EntD} (hx : x ∈ E) : E.find? (isK x.key) = some x := by
  induction E with
  | nil => cases hx
  | cons y r ih =>
    obtain ⟨h1, h2⟩ := List.pairwise_cons.1 h
    rcases List.mem_cons.1 hx with rfl | hx
    · rw [List.find?_cons]
      simp [isK]
    · have hb := h1 x hx
      have hne : y.key ≠ x.key := fun e => by rw [e] at hb; rw [WideAt.bytes_irrefl] at hb; cases hb
      rw [List.find?_cons]
      have : isK x.key y = false := decide_eq_false hne
      rw [this]
      exact ih h2 hx
theorem strKeys_mapE (E : List EntH) : Go.strKeys (mapE E) = E.map fun x => kb x.1.key := by
  show (E.map encE).map _ = _
  rw [List.map_map]; rfl
end Go.Proofs.YtaleceobkbgcnaaGreat
