/-
  The law ObjPart's walk: the region that copies. Its conditions: the sizes of what came in.
-/
import Derived.Test.YtnobgmdknalpdaaLPart1
import Derived.Test.YtnobgmdknalpdaaBeg2
import Derived.Deep.RegionHeld3
import Derived.Deep.RegionHeldLaw
import Derived.Deep.CutRange
set_option linter.unusedSimpArgs false
set_option linter.unusedVariables false
namespace Go.Proofs.Ytnobgmdknalpdaa
open Go.RowKit

set_option maxRecDepth 100000 in
set_option maxHeartbeats 4000000 in
theorem objPart_walk (p : PodD) (h : PodH) (n : NodeD) (g : NodeH) (x : Int) (w : World) (hp : PodIn w p h) (hc : PodC w p h) (z1 : p.name.size ≤ reachBytes) (z2 : p.topo.size ≤ reachBytes) (z3 : p.node.size ≤ reachBytes) (hn : NodeIn w n g) (hz : NodeSz n) :
    Calls Try.prog 5 #[podV p h, nodeV n g, .int .i64 x] w fun e w' => e = .returned (.bool true) ∧ Below w.heap.size w w' := by
  obtain ⟨N, hN, eN⟩ : ∃ N : Nat, N < 12 ∧ (wrap64 (x.tmod 12 + 12)).tmod 12 = (N : Int) := by
    have b := turn_in x (n := 12) (by omega) (by omega)
    exact ⟨((wrap64 (x.tmod 12 + 12)).tmod 12).toNat, by omega, by omega⟩
  have HB0 : Hid (Below w.heap.size w ((w.alloc (podBox p h)).alloc (nodeBox n g))) := ((Below.refl _ _).alloc (Nat.le_refl _) _).alloc (by simp) _
  have hcp := hp.at'
  have hcn : NodeAt w n g := hn.at'
  have hcl := hn.lc
  have hct := hn.tc
  go_enter Try.func5, Try.ntmps5
  go_wp2_with fail
  refine (begun_any _).mono ?_
  rintro e w1 ⟨rfl, hb1⟩
  have hA : ∀ o, w1.cell? ⟨w.heap.size, o, none⟩ = (podC p h)[o]? := fun o => (hb1.cell (p := ⟨w.heap.size, o, none⟩) (by simp <;> omega)).trans (by rw [cell_of_obj (heap_allocC w _ _)])
  have hB : ∀ o, w1.cell? ⟨w.heap.size + 1, o, none⟩ = (nodeC n g)[o]? := fun o => (hb1.cell (p := ⟨w.heap.size + 1, o, none⟩) (by simp)).trans (by rw [cell_of_obj (heap_allocD w _ _)])
  have hz1 : w.heap.size + 1 < w1.heap.size := by have := hb1.size; simp at this; omega
  have hbw1 : Below w.heap.size w w1 := HB0.out.trans (hb1.mono HB0.out.size)
  have hc1 : PodC w1 p h := hc.below hbw1
  have hcp1 := hcp.below hbw1
  have hn1 := hcn.below hbw1
  clear hb1 HB0 hc hcn hcp hn hp
  go_upto_region 4 with fail
  have hbd : Below w1.heap.size w1 w1.drew := (Below.refl _ _).drew
  have A1 : ∀ W : World, (Below w1.heap.size w1 W ∧ (∀ o, W.cell? ⟨w.heap.size, o, none⟩ = (podC p h)[o]?) ∧ (∀ o, W.cell? ⟨w.heap.size + 1, o, none⟩ = (nodeC n g)[o]?)) → Calls Try.prog 7 #[podV p h] W (fun e w' => ∃ k, e = .returned (podV p k) ∧ PodNew w' W.heap.size p k ∧ Below W.heap.size W w') := fun W hS => copyPod_any p h W (hc1.below hS.1)
  have A2 : ∀ W : World, (Below w1.heap.size w1 W ∧ (∀ o, W.cell? ⟨w.heap.size, o, none⟩ = (podC p h)[o]?) ∧ (∀ o, W.cell? ⟨w.heap.size + 1, o, none⟩ = (nodeC n g)[o]?)) → Calls Try.prog 8 #[nodeV n g] W (fun e w' => ∃ k, e = .returned (nodeV n k) ∧ NodeRows w' W.heap.size n k ∧ Below W.heap.size W w') := fun W hS => copyNode_any n g W (hn1.below hS.1) hcl hct hz
  have HA1 := Lib.hid A1
  have HA2 := Lib.hid A2
  clear A1 A2
  go_cut [8, 9] from 10 (fun v8 v9 W => ∃ Q M k m Ls La Le, v8 = .pointer (some ⟨Q, 0, none⟩) ∧ v9 = .pointer (some ⟨M, 0, none⟩) ∧ Fi w1 W Q M p k n m Ls La Le)
  case first J K' hJ hK' =>
    as_aux_lemma =>
      refine wp_region_held_drew (S := fun W => Below w1.heap.size w1 W ∧ (∀ o, W.cell? ⟨w.heap.size, o, none⟩ = (podC p h)[o]?) ∧ (∀ o, W.cell? ⟨w.heap.size + 1, o, none⟩ = (nodeC n g)[o]?)) (by kernel_rfl) ⟨hbd, hA, hB⟩ (fun hHeld => ?_)
      have HM : Hid (Mid w1 w1.drew none none p none n none) := ⟨hbd, fun _ e => (by cases e), fun _ e => (by cases e), fun _ e => (by cases e), fun _ e => (by cases e)⟩
      refine wpAnyH_take (i := 0) (v := podV p h) rfl (by kernel_rfl) (by kernel_rfl) (by kernel_rfl) (fun _ _ _ h => h) (Or.inl ⟨by rfl, ?_⟩) hHeld ?_
      · intro W hSw
        try dsimp only at hSw
        go_simp
      try simp only [Act.put, List.setIfInBounds_toArray, List.set_cons_zero, List.set_cons_succ]
      refine wpAnyH_take (i := 2) (v := nodeV n g) rfl (by kernel_rfl) (by kernel_rfl) (by kernel_rfl) (fun _ _ _ h => h) (Or.inl ⟨by rfl, ?_⟩) hHeld ?_
      · intro W hSw
        try dsimp only at hSw
        go_simp
      try simp only [Act.put, List.setIfInBounds_toArray, List.set_cons_zero, List.set_cons_succ]
      generalize hWz : w1.drew = wz at HM hHeld hbd ⊢
      clear hWz hbd
      refine wpAnyH_ready (rs := [1, 4, 5]) (by kernel_rfl) (by simp) ?_
      refine AllReadyH.cons rfl (fun K hK => ?_) ?_
      ·
        go_simp
        go_wp2_with (go_at_call 7; refine Calls.mono (HA1.out _ hHeld) ?_; rintro e wc ⟨k2, rfl, ho2, hb2⟩)
        have HMn := Lib.hid (HM.out.addC hb2 ho2)
        have hSn := two_later hHeld hb2 (by omega) hz1
        clear ho2 hb2
        clear HM hHeld
        have HM := HMn
        clear HMn
        refine hK.out _ _ hSn (fun hHeld => ?_)
        clear hK K hSn
        try simp only [Act.put, List.setIfInBounds_toArray, List.set_cons_zero, List.set_cons_succ]
        refine wpAnyH_ready (rs := [3, 4, 5]) (by kernel_rfl) (by simp) ?_
        refine AllReadyH.cons rfl (fun K hK => ?_) ?_
        ·
          go_simp
          go_wp2_with (go_at_call 8; refine Calls.mono (HA2.out _ hHeld) ?_; rintro e wd ⟨k3, rfl, ho3, hb3⟩)
          have HMn := Lib.hid (HM.out.addD hb3 ho3)
          have hSn := two_later hHeld hb3 (by omega) hz1
          clear ho3 hb3
          clear HM hHeld
          have HM := HMn
          clear HMn
          refine hK.out _ _ hSn (fun hHeld => ?_)
          clear hK K hSn
          try simp only [Act.put, List.setIfInBounds_toArray, List.set_cons_zero, List.set_cons_succ]
          refine wpAnyH_ready (rs := [4, 5]) (by kernel_rfl) (by simp) ?_
          refine AllReadyH.cons rfl (fun K hK => ?_) ?_
          ·
            go_simp
            have HMn := Lib.hid HM.out.addQ
            have hSn := two_alloc hHeld (.cells zeroCells 29) (by omega) hz1
            generalize hWn : World.alloc wd (.cells zeroCells 29) = wq at HMn hSn ⊢
            clear hWn
            clear HM hHeld
            have HM := HMn
            clear HMn
            refine hK.out _ _ hSn (fun hHeld => ?_)
            clear hK K hSn
            try simp only [Act.put, List.setIfInBounds_toArray, List.set_cons_zero, List.set_cons_succ]
            refine wpAnyH_ready (rs := [5]) (by kernel_rfl) (by simp) ?_
            refine AllReadyH.cons rfl (fun K hK => ?_) ?_
            ·
              go_simp
              have HMn := Lib.hid HM.out.addM
              have hSn := two_alloc hHeld (.cells zeroNode 32) (by omega) hz1
              generalize hWn : World.alloc wq (.cells zeroNode 32) = wm at HMn hSn ⊢
              clear hWn
              clear HM hHeld
              have HM := HMn
              clear HMn
              refine hK.out _ _ hSn (fun hHeld => ?_)
              clear hK K hSn
              try simp only [Act.put, List.setIfInBounds_toArray, List.set_cons_zero, List.set_cons_succ]
              refine wpAnyH_ready (rs := [6]) (by kernel_rfl) (by simp) ?_
              refine AllReadyH.cons rfl (fun K hK => ?_) ?_
              ·
                refine step_store_row rfl 29 (.tmp 8) (.tmp 14) rfl rfl _ (podCs p k2) rfl rfl 29 zeroCells (HM.out.q _ rfl).2 (by kernel_rfl) rfl (by kernel_rfl) ?_
                have hSn := two_row hHeld _ (podCs p k2) (HM.out.q _ rfl).1 (by omega) hz1
                refine hK.out _ _ hSn (fun hHeld2 => ?_)
                clear hK K hSn hHeld
                refine wpAnyH_ready (rs := [7]) (by kernel_rfl) (by simp) ?_
                refine AllReadyH.cons rfl (fun K hK => ?_) ?_
                ·
                  refine step_store_row rfl 32 (.tmp 9) (.tmp 16) rfl rfl _ (nodeC n k3) rfl rfl 32 zeroNode (HM.out.other rfl rfl _) (by kernel_rfl) rfl (by kernel_rfl) ?_
                  have hSn := two_row hHeld2 _ (nodeC n k3) (HM.out.m _ rfl).1 (by omega) hz1
                  refine hK.out _ _ hSn (fun _ => ?_)
                  clear hK K hSn hHeld2
                  refine wpAnyH_done (by kernel_rfl) ?_ _
                  show K' _ _
                  refine hK' _ _ (Met.intro (hJ _ _ ?_))
                  (repeat apply Exists.intro)
                  refine ⟨?rel, rfl⟩
                  case rel =>
                    obtain ⟨Ls, La, Le, hF⟩ := HM.out.fin
                    exact ⟨_, _, k2, k3, Ls, La, Le, rfl, rfl, hF⟩
                exact AllReadyH.nil
              exact AllReadyH.nil
            exact AllReadyH.nil
          refine AllReadyH.cons rfl (fun K hK => ?_) ?_
          ·
            go_simp
            have HMn := Lib.hid HM.out.addM
            have hSn := two_alloc hHeld (.cells zeroNode 32) (by omega) hz1
            generalize hWn : World.alloc wd (.cells zeroNode 32) = wm at HMn hSn ⊢
            clear hWn
            clear HM hHeld
            have HM := HMn
            clear HMn
            refine hK.out _ _ hSn (fun hHeld => ?_)
            clear hK K hSn
            try simp only [Act.put, List.setIfInBounds_toArray, List.set_cons_zero, List.set_cons_succ]
            refine wpAnyH_ready (rs := [4]) (by kernel_rfl) (by simp) ?_
            refine AllReadyH.cons rfl (fun K hK => ?_) ?_
            ·
              go_simp
              have HMn := Lib.hid HM.out.addQ
              have hSn := two_alloc hHeld (.cells zeroCells 29) (by omega) hz1
              generalize hWn : World.alloc wm (.cells zeroCells 29) = wq at HMn hSn ⊢
              clear hWn
              clear HM hHeld
              have HM := HMn
              clear HMn
              refine hK.out _ _ hSn (fun hHeld => ?_)
              clear hK K hSn
              try simp only [Act.put, List.setIfInBounds_toArray, List.set_cons_zero, List.set_cons_succ]
              refine wpAnyH_ready (rs := [6]) (by kernel_rfl) (by simp) ?_
              refine AllReadyH.cons rfl (fun K hK => ?_) ?_
              ·
                refine step_store_row rfl 29 (.tmp 8) (.tmp 14) rfl rfl _ (podCs p k2) rfl rfl 29 zeroCells (HM.out.q _ rfl).2 (by kernel_rfl) rfl (by kernel_rfl) ?_
                have hSn := two_row hHeld _ (podCs p k2) (HM.out.q _ rfl).1 (by omega) hz1
                refine hK.out _ _ hSn (fun hHeld2 => ?_)
                clear hK K hSn hHeld
                refine wpAnyH_ready (rs := [7]) (by kernel_rfl) (by simp) ?_
                refine AllReadyH.cons rfl (fun K hK => ?_) ?_
                ·
                  refine step_store_row rfl 32 (.tmp 9) (.tmp 16) rfl rfl _ (nodeC n k3) rfl rfl 32 zeroNode (HM.out.other rfl rfl _) (by kernel_rfl) rfl (by kernel_rfl) ?_
                  have hSn := two_row hHeld2 _ (nodeC n k3) (HM.out.m _ rfl).1 (by omega) hz1
                  refine hK.out _ _ hSn (fun _ => ?_)
                  clear hK K hSn hHeld2
                  refine wpAnyH_done (by kernel_rfl) ?_ _
                  show K' _ _
                  refine hK' _ _ (Met.intro (hJ _ _ ?_))
                  (repeat apply Exists.intro)
                  refine ⟨?rel, rfl⟩
                  case rel =>
                    obtain ⟨Ls, La, Le, hF⟩ := HM.out.fin
                    exact ⟨_, _, k2, k3, Ls, La, Le, rfl, rfl, hF⟩
                exact AllReadyH.nil
              exact AllReadyH.nil
            exact AllReadyH.nil
          exact AllReadyH.nil
        refine AllReadyH.cons rfl (fun K hK => ?_) ?_
        ·
          go_simp
          have HMn := Lib.hid HM.out.addQ
          have hSn := two_alloc hHeld (.cells zeroCells 29) (by omega) hz1
          generalize hWn : World.alloc wc (.cells zeroCells 29) = wq at HMn hSn ⊢
          clear hWn
          clear HM hHeld
          have HM := HMn
          clear HMn
          refine hK.out _ _ hSn (fun hHeld => ?_)
          clear hK K hSn
          try simp only [Act.put, List.setIfInBounds_toArray, List.set_cons_zero, List.set_cons_succ]
          refine wpAnyH_ready (rs := [3, 5]) (by kernel_rfl) (by simp) ?_
          refine AllReadyH.cons rfl (fun K hK => ?_) ?_
          ·
            go_simp
            go_wp2_with (go_at_call 8; refine Calls.mono (HA2.out _ hHeld) ?_; rintro e wd ⟨k3, rfl, ho3, hb3⟩)
            have HMn := Lib.hid (HM.out.addD hb3 ho3)
            have hSn := two_later hHeld hb3 (by omega) hz1
            clear ho3 hb3
            clear HM hHeld
            have HM := HMn
            clear HMn
            refine hK.out _ _ hSn (fun hHeld => ?_)
            clear hK K hSn
            try simp only [Act.put, List.setIfInBounds_toArray, List.set_cons_zero, List.set_cons_succ]
            refine wpAnyH_ready (rs := [5]) (by kernel_rfl) (by simp) ?_
            refine AllReadyH.cons rfl (fun K hK => ?_) ?_
            ·
              go_simp
              have HMn := Lib.hid HM.out.addM
              have hSn := two_alloc hHeld (.cells zeroNode 32) (by omega) hz1
              generalize hWn : World.alloc wd (.cells zeroNode 32) = wm at HMn hSn ⊢
              clear hWn
              clear HM hHeld
              have HM := HMn
              clear HMn
              refine hK.out _ _ hSn (fun hHeld => ?_)
              clear hK K hSn
              try simp only [Act.put, List.setIfInBounds_toArray, List.set_cons_zero, List.set_cons_succ]
              refine wpAnyH_ready (rs := [6]) (by kernel_rfl) (by simp) ?_
              refine AllReadyH.cons rfl (fun K hK => ?_) ?_
              ·
                refine step_store_row rfl 29 (.tmp 8) (.tmp 14) rfl rfl _ (podCs p k2) rfl rfl 29 zeroCells (HM.out.q _ rfl).2 (by kernel_rfl) rfl (by kernel_rfl) ?_
                have hSn := two_row hHeld _ (podCs p k2) (HM.out.q _ rfl).1 (by omega) hz1
                refine hK.out _ _ hSn (fun hHeld2 => ?_)
                clear hK K hSn hHeld
                refine wpAnyH_ready (rs := [7]) (by kernel_rfl) (by simp) ?_
                refine AllReadyH.cons rfl (fun K hK => ?_) ?_
                ·
                  refine step_store_row rfl 32 (.tmp 9) (.tmp 16) rfl rfl _ (nodeC n k3) rfl rfl 32 zeroNode (HM.out.other rfl rfl _) (by kernel_rfl) rfl (by kernel_rfl) ?_
                  have hSn := two_row hHeld2 _ (nodeC n k3) (HM.out.m _ rfl).1 (by omega) hz1
                  refine hK.out _ _ hSn (fun _ => ?_)
                  clear hK K hSn hHeld2
                  refine wpAnyH_done (by kernel_rfl) ?_ _
                  show K' _ _
                  refine hK' _ _ (Met.intro (hJ _ _ ?_))
                  (repeat apply Exists.intro)
                  refine ⟨?rel, rfl⟩
                  case rel =>
                    obtain ⟨Ls, La, Le, hF⟩ := HM.out.fin
                    exact ⟨_, _, k2, k3, Ls, La, Le, rfl, rfl, hF⟩
                exact AllReadyH.nil
              exact AllReadyH.nil
            exact AllReadyH.nil
          refine AllReadyH.cons rfl (fun K hK => ?_) ?_
          ·
            go_simp
            have HMn := Lib.hid HM.out.addM
            have hSn := two_alloc hHeld (.cells zeroNode 32) (by omega) hz1
            generalize hWn : World.alloc wq (.cells zeroNode 32) = wm at HMn hSn ⊢
            clear hWn
            clear HM hHeld
            have HM := HMn
            clear HMn
            refine hK.out _ _ hSn (fun hHeld => ?_)
            clear hK K hSn
            try simp only [Act.put, List.setIfInBounds_toArray, List.set_cons_zero, List.set_cons_succ]
            refine wpAnyH_ready (rs := [3]) (by kernel_rfl) (by simp) ?_
            refine AllReadyH.cons rfl (fun K hK => ?_) ?_
            ·
              go_simp
              go_wp2_with (go_at_call 8; refine Calls.mono (HA2.out _ hHeld) ?_; rintro e wd ⟨k3, rfl, ho3, hb3⟩)
              have HMn := Lib.hid (HM.out.addD hb3 ho3)
              have hSn := two_later hHeld hb3 (by omega) hz1
              clear ho3 hb3
              clear HM hHeld
              have HM := HMn
              clear HMn
              refine hK.out _ _ hSn (fun hHeld => ?_)
              clear hK K hSn
              try simp only [Act.put, List.setIfInBounds_toArray, List.set_cons_zero, List.set_cons_succ]
              refine wpAnyH_ready (rs := [6]) (by kernel_rfl) (by simp) ?_
              refine AllReadyH.cons rfl (fun K hK => ?_) ?_
              ·
                refine step_store_row rfl 29 (.tmp 8) (.tmp 14) rfl rfl _ (podCs p k2) rfl rfl 29 zeroCells (HM.out.q _ rfl).2 (by kernel_rfl) rfl (by kernel_rfl) ?_
                have hSn := two_row hHeld _ (podCs p k2) (HM.out.q _ rfl).1 (by omega) hz1
                refine hK.out _ _ hSn (fun hHeld2 => ?_)
                clear hK K hSn hHeld
                refine wpAnyH_ready (rs := [7]) (by kernel_rfl) (by simp) ?_
                refine AllReadyH.cons rfl (fun K hK => ?_) ?_
                ·
                  refine step_store_row rfl 32 (.tmp 9) (.tmp 16) rfl rfl _ (nodeC n k3) rfl rfl 32 zeroNode (HM.out.other rfl rfl _) (by kernel_rfl) rfl (by kernel_rfl) ?_
                  have hSn := two_row hHeld2 _ (nodeC n k3) (HM.out.m _ rfl).1 (by omega) hz1
                  refine hK.out _ _ hSn (fun _ => ?_)
                  clear hK K hSn hHeld2
                  refine wpAnyH_done (by kernel_rfl) ?_ _
                  show K' _ _
                  refine hK' _ _ (Met.intro (hJ _ _ ?_))
                  (repeat apply Exists.intro)
                  refine ⟨?rel, rfl⟩
                  case rel =>
                    obtain ⟨Ls, La, Le, hF⟩ := HM.out.fin
                    exact ⟨_, _, k2, k3, Ls, La, Le, rfl, rfl, hF⟩
                exact AllReadyH.nil
              exact AllReadyH.nil
            exact AllReadyH.nil
          exact AllReadyH.nil
        refine AllReadyH.cons rfl (fun K hK => ?_) ?_
        ·
          go_simp
          have HMn := Lib.hid HM.out.addM
          have hSn := two_alloc hHeld (.cells zeroNode 32) (by omega) hz1
          generalize hWn : World.alloc wc (.cells zeroNode 32) = wm at HMn hSn ⊢
          clear hWn
          clear HM hHeld
          have HM := HMn
          clear HMn
          refine hK.out _ _ hSn (fun hHeld => ?_)
          clear hK K hSn
          try simp only [Act.put, List.setIfInBounds_toArray, List.set_cons_zero, List.set_cons_succ]
          refine wpAnyH_ready (rs := [3, 4]) (by kernel_rfl) (by simp) ?_
          refine AllReadyH.cons rfl (fun K hK => ?_) ?_
          ·
            go_simp
            go_wp2_with (go_at_call 8; refine Calls.mono (HA2.out _ hHeld) ?_; rintro e wd ⟨k3, rfl, ho3, hb3⟩)
            have HMn := Lib.hid (HM.out.addD hb3 ho3)
            have hSn := two_later hHeld hb3 (by omega) hz1
            clear ho3 hb3
            clear HM hHeld
            have HM := HMn
            clear HMn
            refine hK.out _ _ hSn (fun hHeld => ?_)
            clear hK K hSn
            try simp only [Act.put, List.setIfInBounds_toArray, List.set_cons_zero, List.set_cons_succ]
            refine wpAnyH_ready (rs := [4]) (by kernel_rfl) (by simp) ?_
            refine AllReadyH.cons rfl (fun K hK => ?_) ?_
            ·
              go_simp
              have HMn := Lib.hid HM.out.addQ
              have hSn := two_alloc hHeld (.cells zeroCells 29) (by omega) hz1
              generalize hWn : World.alloc wd (.cells zeroCells 29) = wq at HMn hSn ⊢
              clear hWn
              clear HM hHeld
              have HM := HMn
              clear HMn
              refine hK.out _ _ hSn (fun hHeld => ?_)
              clear hK K hSn
              try simp only [Act.put, List.setIfInBounds_toArray, List.set_cons_zero, List.set_cons_succ]
              refine wpAnyH_ready (rs := [6]) (by kernel_rfl) (by simp) ?_
              refine AllReadyH.cons rfl (fun K hK => ?_) ?_
              ·
                refine step_store_row rfl 29 (.tmp 8) (.tmp 14) rfl rfl _ (podCs p k2) rfl rfl 29 zeroCells (HM.out.q _ rfl).2 (by kernel_rfl) rfl (by kernel_rfl) ?_
                have hSn := two_row hHeld _ (podCs p k2) (HM.out.q _ rfl).1 (by omega) hz1
                refine hK.out _ _ hSn (fun hHeld2 => ?_)
                clear hK K hSn hHeld
                refine wpAnyH_ready (rs := [7]) (by kernel_rfl) (by simp) ?_
                refine AllReadyH.cons rfl (fun K hK => ?_) ?_
                ·
                  refine step_store_row rfl 32 (.tmp 9) (.tmp 16) rfl rfl _ (nodeC n k3) rfl rfl 32 zeroNode (HM.out.other rfl rfl _) (by kernel_rfl) rfl (by kernel_rfl) ?_
                  have hSn := two_row hHeld2 _ (nodeC n k3) (HM.out.m _ rfl).1 (by omega) hz1
                  refine hK.out _ _ hSn (fun _ => ?_)
                  clear hK K hSn hHeld2
                  refine wpAnyH_done (by kernel_rfl) ?_ _
                  show K' _ _
                  refine hK' _ _ (Met.intro (hJ _ _ ?_))
                  (repeat apply Exists.intro)
                  refine ⟨?rel, rfl⟩
                  case rel =>
                    obtain ⟨Ls, La, Le, hF⟩ := HM.out.fin
                    exact ⟨_, _, k2, k3, Ls, La, Le, rfl, rfl, hF⟩
                exact AllReadyH.nil
              exact AllReadyH.nil
            exact AllReadyH.nil
          refine AllReadyH.cons rfl (fun K hK => ?_) ?_
          ·
            go_simp
            have HMn := Lib.hid HM.out.addQ
            have hSn := two_alloc hHeld (.cells zeroCells 29) (by omega) hz1
            generalize hWn : World.alloc wm (.cells zeroCells 29) = wq at HMn hSn ⊢
            clear hWn
            clear HM hHeld
            have HM := HMn
            clear HMn
            refine hK.out _ _ hSn (fun hHeld => ?_)
            clear hK K hSn
            try simp only [Act.put, List.setIfInBounds_toArray, List.set_cons_zero, List.set_cons_succ]
            refine wpAnyH_ready (rs := [3]) (by kernel_rfl) (by simp) ?_
            refine AllReadyH.cons rfl (fun K hK => ?_) ?_
            ·
              go_simp
              go_wp2_with (go_at_call 8; refine Calls.mono (HA2.out _ hHeld) ?_; rintro e wd ⟨k3, rfl, ho3, hb3⟩)
              have HMn := Lib.hid (HM.out.addD hb3 ho3)
              have hSn := two_later hHeld hb3 (by omega) hz1
              clear ho3 hb3
              clear HM hHeld
              have HM := HMn
              clear HMn
              refine hK.out _ _ hSn (fun hHeld => ?_)
              clear hK K hSn
              try simp only [Act.put, List.setIfInBounds_toArray, List.set_cons_zero, List.set_cons_succ]
              refine wpAnyH_ready (rs := [6]) (by kernel_rfl) (by simp) ?_
              refine AllReadyH.cons rfl (fun K hK => ?_) ?_
              ·
                refine step_store_row rfl 29 (.tmp 8) (.tmp 14) rfl rfl _ (podCs p k2) rfl rfl 29 zeroCells (HM.out.q _ rfl).2 (by kernel_rfl) rfl (by kernel_rfl) ?_
                have hSn := two_row hHeld _ (podCs p k2) (HM.out.q _ rfl).1 (by omega) hz1
                refine hK.out _ _ hSn (fun hHeld2 => ?_)
                clear hK K hSn hHeld
                refine wpAnyH_ready (rs := [7]) (by kernel_rfl) (by simp) ?_
                refine AllReadyH.cons rfl (fun K hK => ?_) ?_
                ·
                  refine step_store_row rfl 32 (.tmp 9) (.tmp 16) rfl rfl _ (nodeC n k3) rfl rfl 32 zeroNode (HM.out.other rfl rfl _) (by kernel_rfl) rfl (by kernel_rfl) ?_
                  have hSn := two_row hHeld2 _ (nodeC n k3) (HM.out.m _ rfl).1 (by omega) hz1
                  refine hK.out _ _ hSn (fun _ => ?_)
                  clear hK K hSn hHeld2
                  refine wpAnyH_done (by kernel_rfl) ?_ _
                  show K' _ _
                  refine hK' _ _ (Met.intro (hJ _ _ ?_))
                  (repeat apply Exists.intro)
                  refine ⟨?rel, rfl⟩
                  case rel =>
                    obtain ⟨Ls, La, Le, hF⟩ := HM.out.fin
                    exact ⟨_, _, k2, k3, Ls, La, Le, rfl, rfl, hF⟩
                exact AllReadyH.nil
              exact AllReadyH.nil
            exact AllReadyH.nil
          exact AllReadyH.nil
        exact AllReadyH.nil
      refine AllReadyH.cons rfl (fun K hK => ?_) ?_
      ·
        go_simp
        have HMn := Lib.hid HM.out.addQ
        have hSn := two_alloc hHeld (.cells zeroCells 29) (by omega) hz1
        generalize hWn : World.alloc wz (.cells zeroCells 29) = wq at HMn hSn ⊢
        clear hWn
        clear HM hHeld
        have HM := HMn
        clear HMn
        refine hK.out _ _ hSn (fun hHeld => ?_)
        clear hK K hSn
        try simp only [Act.put, List.setIfInBounds_toArray, List.set_cons_zero, List.set_cons_succ]
        refine wpAnyH_ready (rs := [1, 5]) (by kernel_rfl) (by simp) ?_
        refine AllReadyH.cons rfl (fun K hK => ?_) ?_
        ·
          go_simp
          go_wp2_with (go_at_call 7; refine Calls.mono (HA1.out _ hHeld) ?_; rintro e wc ⟨k2, rfl, ho2, hb2⟩)
          have HMn := Lib.hid (HM.out.addC hb2 ho2)
          have hSn := two_later hHeld hb2 (by omega) hz1
          clear ho2 hb2
          clear HM hHeld
          have HM := HMn
          clear HMn
          refine hK.out _ _ hSn (fun hHeld => ?_)
          clear hK K hSn
          try simp only [Act.put, List.setIfInBounds_toArray, List.set_cons_zero, List.set_cons_succ]
          refine wpAnyH_ready (rs := [3, 5]) (by kernel_rfl) (by simp) ?_
          refine AllReadyH.cons rfl (fun K hK => ?_) ?_
          ·
            go_simp
            go_wp2_with (go_at_call 8; refine Calls.mono (HA2.out _ hHeld) ?_; rintro e wd ⟨k3, rfl, ho3, hb3⟩)
            have HMn := Lib.hid (HM.out.addD hb3 ho3)
            have hSn := two_later hHeld hb3 (by omega) hz1
            clear ho3 hb3
            clear HM hHeld
            have HM := HMn
            clear HMn
            refine hK.out _ _ hSn (fun hHeld => ?_)
            clear hK K hSn
            try simp only [Act.put, List.setIfInBounds_toArray, List.set_cons_zero, List.set_cons_succ]
            refine wpAnyH_ready (rs := [5]) (by kernel_rfl) (by simp) ?_
            refine AllReadyH.cons rfl (fun K hK => ?_) ?_
            ·
              go_simp
              have HMn := Lib.hid HM.out.addM
              have hSn := two_alloc hHeld (.cells zeroNode 32) (by omega) hz1
              generalize hWn : World.alloc wd (.cells zeroNode 32) = wm at HMn hSn ⊢
              clear hWn
              clear HM hHeld
              have HM := HMn
              clear HMn
              refine hK.out _ _ hSn (fun hHeld => ?_)
              clear hK K hSn
              try simp only [Act.put, List.setIfInBounds_toArray, List.set_cons_zero, List.set_cons_succ]
              refine wpAnyH_ready (rs := [6]) (by kernel_rfl) (by simp) ?_
              refine AllReadyH.cons rfl (fun K hK => ?_) ?_
              ·
                refine step_store_row rfl 29 (.tmp 8) (.tmp 14) rfl rfl _ (podCs p k2) rfl rfl 29 zeroCells (HM.out.q _ rfl).2 (by kernel_rfl) rfl (by kernel_rfl) ?_
                have hSn := two_row hHeld _ (podCs p k2) (HM.out.q _ rfl).1 (by omega) hz1
                refine hK.out _ _ hSn (fun hHeld2 => ?_)
                clear hK K hSn hHeld
                refine wpAnyH_ready (rs := [7]) (by kernel_rfl) (by simp) ?_
                refine AllReadyH.cons rfl (fun K hK => ?_) ?_
                ·
                  refine step_store_row rfl 32 (.tmp 9) (.tmp 16) rfl rfl _ (nodeC n k3) rfl rfl 32 zeroNode (HM.out.other rfl rfl _) (by kernel_rfl) rfl (by kernel_rfl) ?_
                  have hSn := two_row hHeld2 _ (nodeC n k3) (HM.out.m _ rfl).1 (by omega) hz1
                  refine hK.out _ _ hSn (fun _ => ?_)
                  clear hK K hSn hHeld2
                  refine wpAnyH_done (by kernel_rfl) ?_ _
                  show K' _ _
                  refine hK' _ _ (Met.intro (hJ _ _ ?_))
                  (repeat apply Exists.intro)
                  refine ⟨?rel, rfl⟩
                  case rel =>
                    obtain ⟨Ls, La, Le, hF⟩ := HM.out.fin
                    exact ⟨_, _, k2, k3, Ls, La, Le, rfl, rfl, hF⟩
                exact AllReadyH.nil
              exact AllReadyH.nil
            exact AllReadyH.nil
          refine AllReadyH.cons rfl (fun K hK => ?_) ?_
          ·
            go_simp
            have HMn := Lib.hid HM.out.addM
            have hSn := two_alloc hHeld (.cells zeroNode 32) (by omega) hz1
            generalize hWn : World.alloc wc (.cells zeroNode 32) = wm at HMn hSn ⊢
            clear hWn
            clear HM hHeld
            have HM := HMn
            clear HMn
            refine hK.out _ _ hSn (fun hHeld => ?_)
            clear hK K hSn
            try simp only [Act.put, List.setIfInBounds_toArray, List.set_cons_zero, List.set_cons_succ]
            refine wpAnyH_ready (rs := [3]) (by kernel_rfl) (by simp) ?_
            refine AllReadyH.cons rfl (fun K hK => ?_) ?_
            ·
              go_simp
              go_wp2_with (go_at_call 8; refine Calls.mono (HA2.out _ hHeld) ?_; rintro e wd ⟨k3, rfl, ho3, hb3⟩)
              have HMn := Lib.hid (HM.out.addD hb3 ho3)
              have hSn := two_later hHeld hb3 (by omega) hz1
              clear ho3 hb3
              clear HM hHeld
              have HM := HMn
              clear HMn
              refine hK.out _ _ hSn (fun hHeld => ?_)
              clear hK K hSn
              try simp only [Act.put, List.setIfInBounds_toArray, List.set_cons_zero, List.set_cons_succ]
              refine wpAnyH_ready (rs := [6]) (by kernel_rfl) (by simp) ?_
              refine AllReadyH.cons rfl (fun K hK => ?_) ?_
              ·
                refine step_store_row rfl 29 (.tmp 8) (.tmp 14) rfl rfl _ (podCs p k2) rfl rfl 29 zeroCells (HM.out.q _ rfl).2 (by kernel_rfl) rfl (by kernel_rfl) ?_
                have hSn := two_row hHeld _ (podCs p k2) (HM.out.q _ rfl).1 (by omega) hz1
                refine hK.out _ _ hSn (fun hHeld2 => ?_)
                clear hK K hSn hHeld
                refine wpAnyH_ready (rs := [7]) (by kernel_rfl) (by simp) ?_
                refine AllReadyH.cons rfl (fun K hK => ?_) ?_
                ·
                  refine step_store_row rfl 32 (.tmp 9) (.tmp 16) rfl rfl _ (nodeC n k3) rfl rfl 32 zeroNode (HM.out.other rfl rfl _) (by kernel_rfl) rfl (by kernel_rfl) ?_
                  have hSn := two_row hHeld2 _ (nodeC n k3) (HM.out.m _ rfl).1 (by omega) hz1
                  refine hK.out _ _ hSn (fun _ => ?_)
                  clear hK K hSn hHeld2
                  refine wpAnyH_done (by kernel_rfl) ?_ _
                  show K' _ _
                  refine hK' _ _ (Met.intro (hJ _ _ ?_))
                  (repeat apply Exists.intro)
                  refine ⟨?rel, rfl⟩
                  case rel =>
                    obtain ⟨Ls, La, Le, hF⟩ := HM.out.fin
                    exact ⟨_, _, k2, k3, Ls, La, Le, rfl, rfl, hF⟩
                exact AllReadyH.nil
              exact AllReadyH.nil
            exact AllReadyH.nil
          exact AllReadyH.nil
        refine AllReadyH.cons rfl (fun K hK => ?_) ?_
        ·
          go_simp
          have HMn := Lib.hid HM.out.addM
          have hSn := two_alloc hHeld (.cells zeroNode 32) (by omega) hz1
          generalize hWn : World.alloc wq (.cells zeroNode 32) = wm at HMn hSn ⊢
          clear hWn
          clear HM hHeld
          have HM := HMn
          clear HMn
          refine hK.out _ _ hSn (fun hHeld => ?_)
          clear hK K hSn
          try simp only [Act.put, List.setIfInBounds_toArray, List.set_cons_zero, List.set_cons_succ]
          refine wpAnyH_ready (rs := [1]) (by kernel_rfl) (by simp) ?_
          refine AllReadyH.cons rfl (fun K hK => ?_) ?_
          ·
            go_simp
            go_wp2_with (go_at_call 7; refine Calls.mono (HA1.out _ hHeld) ?_; rintro e wc ⟨k2, rfl, ho2, hb2⟩)
            have HMn := Lib.hid (HM.out.addC hb2 ho2)
            have hSn := two_later hHeld hb2 (by omega) hz1
            clear ho2 hb2
            clear HM hHeld
            have HM := HMn
            clear HMn
            refine hK.out _ _ hSn (fun hHeld => ?_)
            clear hK K hSn
            try simp only [Act.put, List.setIfInBounds_toArray, List.set_cons_zero, List.set_cons_succ]
            refine wpAnyH_ready (rs := [3]) (by kernel_rfl) (by simp) ?_
            refine AllReadyH.cons rfl (fun K hK => ?_) ?_
            ·
              go_simp
              go_wp2_with (go_at_call 8; refine Calls.mono (HA2.out _ hHeld) ?_; rintro e wd ⟨k3, rfl, ho3, hb3⟩)
              have HMn := Lib.hid (HM.out.addD hb3 ho3)
              have hSn := two_later hHeld hb3 (by omega) hz1
              clear ho3 hb3
              clear HM hHeld
              have HM := HMn
              clear HMn
              refine hK.out _ _ hSn (fun hHeld => ?_)
              clear hK K hSn
              try simp only [Act.put, List.setIfInBounds_toArray, List.set_cons_zero, List.set_cons_succ]
              refine wpAnyH_ready (rs := [6]) (by kernel_rfl) (by simp) ?_
              refine AllReadyH.cons rfl (fun K hK => ?_) ?_
              ·
                refine step_store_row rfl 29 (.tmp 8) (.tmp 14) rfl rfl _ (podCs p k2) rfl rfl 29 zeroCells (HM.out.q _ rfl).2 (by kernel_rfl) rfl (by kernel_rfl) ?_
                have hSn := two_row hHeld _ (podCs p k2) (HM.out.q _ rfl).1 (by omega) hz1
                refine hK.out _ _ hSn (fun hHeld2 => ?_)
                clear hK K hSn hHeld
                refine wpAnyH_ready (rs := [7]) (by kernel_rfl) (by simp) ?_
                refine AllReadyH.cons rfl (fun K hK => ?_) ?_
                ·
                  refine step_store_row rfl 32 (.tmp 9) (.tmp 16) rfl rfl _ (nodeC n k3) rfl rfl 32 zeroNode (HM.out.other rfl rfl _) (by kernel_rfl) rfl (by kernel_rfl) ?_
                  have hSn := two_row hHeld2 _ (nodeC n k3) (HM.out.m _ rfl).1 (by omega) hz1
                  refine hK.out _ _ hSn (fun _ => ?_)
                  clear hK K hSn hHeld2
                  refine wpAnyH_done (by kernel_rfl) ?_ _
                  show K' _ _
                  refine hK' _ _ (Met.intro (hJ _ _ ?_))
                  (repeat apply Exists.intro)
                  refine ⟨?rel, rfl⟩
                  case rel =>
                    obtain ⟨Ls, La, Le, hF⟩ := HM.out.fin
                    exact ⟨_, _, k2, k3, Ls, La, Le, rfl, rfl, hF⟩
                exact AllReadyH.nil
              exact AllReadyH.nil
            exact AllReadyH.nil
          exact AllReadyH.nil
        exact AllReadyH.nil
      refine AllReadyH.cons rfl (fun K hK => ?_) ?_
      ·
        go_simp
        have HMn := Lib.hid HM.out.addM
        have hSn := two_alloc hHeld (.cells zeroNode 32) (by omega) hz1
        generalize hWn : World.alloc wz (.cells zeroNode 32) = wm at HMn hSn ⊢
        clear hWn
        clear HM hHeld
        have HM := HMn
        clear HMn
        refine hK.out _ _ hSn (fun hHeld => ?_)
        clear hK K hSn
        try simp only [Act.put, List.setIfInBounds_toArray, List.set_cons_zero, List.set_cons_succ]
        refine wpAnyH_ready (rs := [1, 4]) (by kernel_rfl) (by simp) ?_
        refine AllReadyH.cons rfl (fun K hK => ?_) ?_
        ·
          go_simp
          go_wp2_with (go_at_call 7; refine Calls.mono (HA1.out _ hHeld) ?_; rintro e wc ⟨k2, rfl, ho2, hb2⟩)
          have HMn := Lib.hid (HM.out.addC hb2 ho2)
          have hSn := two_later hHeld hb2 (by omega) hz1
          clear ho2 hb2
          clear HM hHeld
          have HM := HMn
          clear HMn
          refine hK.out _ _ hSn (fun hHeld => ?_)
          clear hK K hSn
          try simp only [Act.put, List.setIfInBounds_toArray, List.set_cons_zero, List.set_cons_succ]
          refine wpAnyH_ready (rs := [3, 4]) (by kernel_rfl) (by simp) ?_
          refine AllReadyH.cons rfl (fun K hK => ?_) ?_
          ·
            go_simp
            go_wp2_with (go_at_call 8; refine Calls.mono (HA2.out _ hHeld) ?_; rintro e wd ⟨k3, rfl, ho3, hb3⟩)
            have HMn := Lib.hid (HM.out.addD hb3 ho3)
            have hSn := two_later hHeld hb3 (by omega) hz1
            clear ho3 hb3
            clear HM hHeld
            have HM := HMn
            clear HMn
            refine hK.out _ _ hSn (fun hHeld => ?_)
            clear hK K hSn
            try simp only [Act.put, List.setIfInBounds_toArray, List.set_cons_zero, List.set_cons_succ]
            refine wpAnyH_ready (rs := [4]) (by kernel_rfl) (by simp) ?_
            refine AllReadyH.cons rfl (fun K hK => ?_) ?_
            ·
              go_simp
              have HMn := Lib.hid HM.out.addQ
              have hSn := two_alloc hHeld (.cells zeroCells 29) (by omega) hz1
              generalize hWn : World.alloc wd (.cells zeroCells 29) = wq at HMn hSn ⊢
              clear hWn
              clear HM hHeld
              have HM := HMn
              clear HMn
              refine hK.out _ _ hSn (fun hHeld => ?_)
              clear hK K hSn
              try simp only [Act.put, List.setIfInBounds_toArray, List.set_cons_zero, List.set_cons_succ]
              refine wpAnyH_ready (rs := [6]) (by kernel_rfl) (by simp) ?_
              refine AllReadyH.cons rfl (fun K hK => ?_) ?_
              ·
                refine step_store_row rfl 29 (.tmp 8) (.tmp 14) rfl rfl _ (podCs p k2) rfl rfl 29 zeroCells (HM.out.q _ rfl).2 (by kernel_rfl) rfl (by kernel_rfl) ?_
                have hSn := two_row hHeld _ (podCs p k2) (HM.out.q _ rfl).1 (by omega) hz1
                refine hK.out _ _ hSn (fun hHeld2 => ?_)
                clear hK K hSn hHeld
                refine wpAnyH_ready (rs := [7]) (by kernel_rfl) (by simp) ?_
                refine AllReadyH.cons rfl (fun K hK => ?_) ?_
                ·
                  refine step_store_row rfl 32 (.tmp 9) (.tmp 16) rfl rfl _ (nodeC n k3) rfl rfl 32 zeroNode (HM.out.other rfl rfl _) (by kernel_rfl) rfl (by kernel_rfl) ?_
                  have hSn := two_row hHeld2 _ (nodeC n k3) (HM.out.m _ rfl).1 (by omega) hz1
                  refine hK.out _ _ hSn (fun _ => ?_)
                  clear hK K hSn hHeld2
                  refine wpAnyH_done (by kernel_rfl) ?_ _
                  show K' _ _
                  refine hK' _ _ (Met.intro (hJ _ _ ?_))
                  (repeat apply Exists.intro)
                  refine ⟨?rel, rfl⟩
                  case rel =>
                    obtain ⟨Ls, La, Le, hF⟩ := HM.out.fin
                    exact ⟨_, _, k2, k3, Ls, La, Le, rfl, rfl, hF⟩
                exact AllReadyH.nil
              exact AllReadyH.nil
            exact AllReadyH.nil
          refine AllReadyH.cons rfl (fun K hK => ?_) ?_
          ·
            go_simp
            have HMn := Lib.hid HM.out.addQ
            have hSn := two_alloc hHeld (.cells zeroCells 29) (by omega) hz1
            generalize hWn : World.alloc wc (.cells zeroCells 29) = wq at HMn hSn ⊢
            clear hWn
            clear HM hHeld
            have HM := HMn
            clear HMn
            refine hK.out _ _ hSn (fun hHeld => ?_)
            clear hK K hSn
            try simp only [Act.put, List.setIfInBounds_toArray, List.set_cons_zero, List.set_cons_succ]
            refine wpAnyH_ready (rs := [3]) (by kernel_rfl) (by simp) ?_
            refine AllReadyH.cons rfl (fun K hK => ?_) ?_
            ·
              go_simp
              go_wp2_with (go_at_call 8; refine Calls.mono (HA2.out _ hHeld) ?_; rintro e wd ⟨k3, rfl, ho3, hb3⟩)
              have HMn := Lib.hid (HM.out.addD hb3 ho3)
              have hSn := two_later hHeld hb3 (by omega) hz1
              clear ho3 hb3
              clear HM hHeld
              have HM := HMn
              clear HMn
              refine hK.out _ _ hSn (fun hHeld => ?_)
              clear hK K hSn
              try simp only [Act.put, List.setIfInBounds_toArray, List.set_cons_zero, List.set_cons_succ]
              refine wpAnyH_ready (rs := [6]) (by kernel_rfl) (by simp) ?_
              refine AllReadyH.cons rfl (fun K hK => ?_) ?_
              ·
                refine step_store_row rfl 29 (.tmp 8) (.tmp 14) rfl rfl _ (podCs p k2) rfl rfl 29 zeroCells (HM.out.q _ rfl).2 (by kernel_rfl) rfl (by kernel_rfl) ?_
                have hSn := two_row hHeld _ (podCs p k2) (HM.out.q _ rfl).1 (by omega) hz1
                refine hK.out _ _ hSn (fun hHeld2 => ?_)
                clear hK K hSn hHeld
                refine wpAnyH_ready (rs := [7]) (by kernel_rfl) (by simp) ?_
                refine AllReadyH.cons rfl (fun K hK => ?_) ?_
                ·
                  refine step_store_row rfl 32 (.tmp 9) (.tmp 16) rfl rfl _ (nodeC n k3) rfl rfl 32 zeroNode (HM.out.other rfl rfl _) (by kernel_rfl) rfl (by kernel_rfl) ?_
                  have hSn := two_row hHeld2 _ (nodeC n k3) (HM.out.m _ rfl).1 (by omega) hz1
                  refine hK.out _ _ hSn (fun _ => ?_)
                  clear hK K hSn hHeld2
                  refine wpAnyH_done (by kernel_rfl) ?_ _
                  show K' _ _
                  refine hK' _ _ (Met.intro (hJ _ _ ?_))
                  (repeat apply Exists.intro)
                  refine ⟨?rel, rfl⟩
                  case rel =>
                    obtain ⟨Ls, La, Le, hF⟩ := HM.out.fin
                    exact ⟨_, _, k2, k3, Ls, La, Le, rfl, rfl, hF⟩
                exact AllReadyH.nil
              exact AllReadyH.nil
            exact AllReadyH.nil
          exact AllReadyH.nil
        refine AllReadyH.cons rfl (fun K hK => ?_) ?_
        ·
          go_simp
          have HMn := Lib.hid HM.out.addQ
          have hSn := two_alloc hHeld (.cells zeroCells 29) (by omega) hz1
          generalize hWn : World.alloc wm (.cells zeroCells 29) = wq at HMn hSn ⊢
          clear hWn
          clear HM hHeld
          have HM := HMn
          clear HMn
          refine hK.out _ _ hSn (fun hHeld => ?_)
          clear hK K hSn
          try simp only [Act.put, List.setIfInBounds_toArray, List.set_cons_zero, List.set_cons_succ]
          refine wpAnyH_ready (rs := [1]) (by kernel_rfl) (by simp) ?_
          refine AllReadyH.cons rfl (fun K hK => ?_) ?_
          ·
            go_simp
            go_wp2_with (go_at_call 7; refine Calls.mono (HA1.out _ hHeld) ?_; rintro e wc ⟨k2, rfl, ho2, hb2⟩)
            have HMn := Lib.hid (HM.out.addC hb2 ho2)
            have hSn := two_later hHeld hb2 (by omega) hz1
            clear ho2 hb2
            clear HM hHeld
            have HM := HMn
            clear HMn
            refine hK.out _ _ hSn (fun hHeld => ?_)
            clear hK K hSn
            try simp only [Act.put, List.setIfInBounds_toArray, List.set_cons_zero, List.set_cons_succ]
            refine wpAnyH_ready (rs := [3]) (by kernel_rfl) (by simp) ?_
            refine AllReadyH.cons rfl (fun K hK => ?_) ?_
            ·
              go_simp
              go_wp2_with (go_at_call 8; refine Calls.mono (HA2.out _ hHeld) ?_; rintro e wd ⟨k3, rfl, ho3, hb3⟩)
              have HMn := Lib.hid (HM.out.addD hb3 ho3)
              have hSn := two_later hHeld hb3 (by omega) hz1
              clear ho3 hb3
              clear HM hHeld
              have HM := HMn
              clear HMn
              refine hK.out _ _ hSn (fun hHeld => ?_)
              clear hK K hSn
              try simp only [Act.put, List.setIfInBounds_toArray, List.set_cons_zero, List.set_cons_succ]
              refine wpAnyH_ready (rs := [6]) (by kernel_rfl) (by simp) ?_
              refine AllReadyH.cons rfl (fun K hK => ?_) ?_
              ·
                refine step_store_row rfl 29 (.tmp 8) (.tmp 14) rfl rfl _ (podCs p k2) rfl rfl 29 zeroCells (HM.out.q _ rfl).2 (by kernel_rfl) rfl (by kernel_rfl) ?_
                have hSn := two_row hHeld _ (podCs p k2) (HM.out.q _ rfl).1 (by omega) hz1
                refine hK.out _ _ hSn (fun hHeld2 => ?_)
                clear hK K hSn hHeld
                refine wpAnyH_ready (rs := [7]) (by kernel_rfl) (by simp) ?_
                refine AllReadyH.cons rfl (fun K hK => ?_) ?_
                ·
                  refine step_store_row rfl 32 (.tmp 9) (.tmp 16) rfl rfl _ (nodeC n k3) rfl rfl 32 zeroNode (HM.out.other rfl rfl _) (by kernel_rfl) rfl (by kernel_rfl) ?_
                  have hSn := two_row hHeld2 _ (nodeC n k3) (HM.out.m _ rfl).1 (by omega) hz1
                  refine hK.out _ _ hSn (fun _ => ?_)
                  clear hK K hSn hHeld2
                  refine wpAnyH_done (by kernel_rfl) ?_ _
                  show K' _ _
                  refine hK' _ _ (Met.intro (hJ _ _ ?_))
                  (repeat apply Exists.intro)
                  refine ⟨?rel, rfl⟩
                  case rel =>
                    obtain ⟨Ls, La, Le, hF⟩ := HM.out.fin
                    exact ⟨_, _, k2, k3, Ls, La, Le, rfl, rfl, hF⟩
                exact AllReadyH.nil
              exact AllReadyH.nil
            exact AllReadyH.nil
          exact AllReadyH.nil
        exact AllReadyH.nil
      exact AllReadyH.nil
  case rest =>
    obtain ⟨Q, M, k, m, Ls, La, Le, rfl, rfl, hF⟩ := hcut
    have HF := Lib.hid hF
    clear HA1 HA2 hbd hF
    go_step
    go_step
    go_cut [] from 10 (fun W => ∃ p' k', Fj w1 W Q M (podCs p' k') p' k' n m ∧ p ≠ p')
    case first J K' hJ hK' =>
      have hr : reachBytes ≤ 140737488351232 := by decide
      have hLs : Ls.length = p.sel.length := by rw [← HF.out.e1, List.length_map]
      have hLa : La.length = p.anti.length := by rw [← HF.out.e2, List.length_map]
      have hLe : Le.length = p.even.length := by rw [← HF.out.e3, List.length_map]
      have h12 : N = 0 ∨ N = 1 ∨ N = 2 ∨ N = 3 ∨ N = 4 ∨ N = 5 ∨ N = 6 ∨ N = 7 ∨ N = 8 ∨ N = 9 ∨ N = 10 ∨ N = 11 := by omega
      rcases h12 with rfl | rfl | rfl | rfl | rfl | rfl | rfl | rfl | rfl | rfl | rfl | rfl
      · as_aux_lemma =>
          have hs : ¬ 9223372036854775807 < p.name.size + 1 := by omega
          have cQ := fun o => cell_of_obj HF.out.q o
          have fQ := fun o => free_of_obj HF.out.q o
          go_wp2_with fail
          go_meet
          case rel => exact ⟨{ p with name := p.name ++ ⟨#[120]⟩ }, k, (HF.out.toJ.set 0 _).to (by rfl) id, fun e => ne_str rfl (congrArg PodD.name e)⟩
      · as_aux_lemma =>
          have cQ := fun o => cell_of_obj HF.out.q o
          have fQ := fun o => free_of_obj HF.out.q o
          go_wp2_with fail
          go_meet
          case rel => exact ⟨{ p with uid := wrap64 (p.uid + 1) }, k, (HF.out.toJ.set 1 _).to (by rfl) id, fun e => ne_inc (congrArg PodD.uid e)⟩
      · as_aux_lemma =>
          have cQ := fun o => cell_of_obj HF.out.q o
          have fQ := fun o => free_of_obj HF.out.q o
          go_wp2_with fail
          go_meet
          case rel => exact ⟨{ p with prio := wrap64 (p.prio + 1) }, k, (HF.out.toJ.set 2 _).to (by rfl) id, fun e => ne_inc (congrArg PodD.prio e)⟩
      · as_aux_lemma =>
          have cQ := fun o => cell_of_obj HF.out.q o
          have fQ := fun o => free_of_obj HF.out.q o
          go_wp2_with fail
          go_meet
          case rel => exact ⟨{ p with r1 := wrap64 (p.r1 + 1) }, k, (HF.out.toJ.set 4 _).to (by rfl) id, fun e => ne_inc (congrArg PodD.r1 e)⟩
      · as_aux_lemma =>
          have cQ := fun o => cell_of_obj HF.out.q o
          have fQ := fun o => free_of_obj HF.out.q o
          go_wp2_with (at_builtin; refine stand ?_)
          show wpList _ _ _ _ _ _
          have hbnd := hc1.ports.2.2
          have hv : (rowI k.pa k.pc p.ports).v = .slice k.pa p.ports.length k.pc := by simp [rowI, rowP, rowL, rowT, hLs, hLa, hLe]
          obtain ⟨iX, i0, i1, i2, i3⟩ := info_parts infoI5
          have G := Lib.hid (HF.out.later ((Below.refl _ _).alloc (Nat.le_refl _) (.cells #[Value.int .i64 9] 3)))
          refine wpList_append_own_at _ rfl _ _ 24 rfl w1.heap.size 3 iX _ 1 8 Try.underlying24 i0 i1 i2 i3 rfl (by decide) (rowI k.pa k.pc p.ports).v (rowI k.pa k.pc p.ports).n (rowI k.pa k.pc p.ports).xs hv.symm (G.out.own (rowI k.pa k.pc p.ports) (by simp [podRows, rowsT])) ⟨wc.heap.size, 0, none⟩ 1 1 (#[Value.int .i64 9] : Array Value).toList rfl rfl (new_cells _ _ _) (by simp [Value.oneCell']) (by show p.ports.length + 1 ≤ _; unfold maxLen; omega) (by show (p.ports.length + 1) * 8 ≤ _; omega) G.out.b.size ?_
          intro v' w3 o3 g3 _ _
          obtain ⟨a3, c3, rfl, _, _, _⟩ := own_len o3
          have F3 := G.out.ports (V' := w3) (a' := a3) (c' := c3) 9 g3 (by simpa [rowI, RowF.In] using o3)
          have HF3 := Lib.hid F3
          have cQ := fun o => cell_of_obj HF3.out.q o
          have fQ := fun o => free_of_obj HF3.out.q o
          clear F3 g3 o3 G hbnd hv
          go_wp2_with fail
          go_meet
          case rel => exact ⟨_, _, (HF3.out.set 6 _).to (by simp [rowI, rowP, rowL, rowT, hLs, hLa, hLe]) id, fun e => ne_app (congrArg PodD.ports e)⟩
      · as_aux_lemma =>
          have cQ := fun o => cell_of_obj HF.out.q o
          have fQ := fun o => free_of_obj HF.out.q o
          go_wp2_with (at_builtin; refine stand ?_)
          show wpList _ _ _ _ _ _
          have hbnd := hc1.labels.2.2
          have hv : (rowP 36 k.la k.lc p.labels).v = .slice k.la p.labels.length k.lc := by simp [rowI, rowP, rowL, rowT, hLs, hLa, hLe]
          obtain ⟨iX, i0, i1, i2, i3⟩ := info_parts infoP5
          have G := Lib.hid (HF.out.later ((Below.refl _ _).alloc (Nat.le_refl _) (.cells #[Value.string ⟨#[122, 122]⟩, Value.string ⟨#[122]⟩] 36)))
          refine wpList_append_own_at _ rfl _ _ 25 rfl w1.heap.size 36 iX _ 2 32 Try.underlying25 i0 i1 i2 i3 rfl (by decide) (rowP 36 k.la k.lc p.labels).v (rowP 36 k.la k.lc p.labels).n (rowP 36 k.la k.lc p.labels).xs hv.symm (G.out.own (rowP 36 k.la k.lc p.labels) (by simp [podRows, rowsT])) ⟨wc.heap.size, 0, none⟩ 1 1 (#[Value.string ⟨#[122, 122]⟩, Value.string ⟨#[122]⟩] : Array Value).toList rfl rfl (new_cells _ _ _) (by simp [Value.oneCell']) (by show p.labels.length + 1 ≤ _; unfold maxLen; omega) (by show (p.labels.length + 1) * 32 ≤ _; omega) G.out.b.size ?_
          intro v' w3 o3 g3 _ _
          obtain ⟨a3, c3, rfl, _, _, _⟩ := own_len o3
          have F3 := G.out.labels (V' := w3) (a' := a3) (c' := c3) (⟨#[122, 122]⟩, ⟨#[122]⟩) g3 (by simpa [rowP, RowF.In] using o3)
          have HF3 := Lib.hid F3
          have cQ := fun o => cell_of_obj HF3.out.q o
          have fQ := fun o => free_of_obj HF3.out.q o
          clear F3 g3 o3 G hbnd hv
          go_wp2_with fail
          go_meet
          case rel => exact ⟨_, _, (HF3.out.set 7 _).to (by simp [rowI, rowP, rowL, rowT, hLs, hLa, hLe]) id, fun e => ne_app (congrArg PodD.labels e)⟩
      · as_aux_lemma =>
          have cQ := fun o => cell_of_obj HF.out.q o
          have fQ := fun o => free_of_obj HF.out.q o
          go_wp2_with (at_builtin; refine stand ?_)
          show wpList _ _ _ _ _ _
          have hbnd := hc1.sel.sz
          have hv : (rowT k.sa k.sc Ls).v = .slice k.sa p.sel.length k.sc := by simp [rowI, rowP, rowL, rowT, hLs, hLa, hLe]
          obtain ⟨iX, i0, i1, i2, i3⟩ := info_parts infoT5
          have G := Lib.hid (HF.out.later ((Below.refl _ _).alloc (Nat.le_refl _) (.cells #[Value.string ⟨#[122]⟩, Value.int .i64 3, Value.slice none 0 0] 40)))
          refine wpList_append_own_at _ rfl _ _ 26 rfl w1.heap.size 40 iX _ 3 48 Try.underlying26 i0 i1 i2 i3 rfl (by decide) (rowT k.sa k.sc Ls).v (rowT k.sa k.sc Ls).n (rowT k.sa k.sc Ls).xs hv.symm (G.out.own (rowT k.sa k.sc Ls) (by simp [podRows, rowsT])) ⟨wc.heap.size, 0, none⟩ 1 1 (#[Value.string ⟨#[122]⟩, Value.int .i64 3, Value.slice none 0 0] : Array Value).toList rfl rfl (new_cells _ _ _) (by simp [Value.oneCell']) (by show Ls.length + 1 ≤ _; unfold maxLen; omega) (by show (Ls.length + 1) * 48 ≤ _; omega) G.out.b.size ?_
          intro v' w3 o3 g3 _ _
          obtain ⟨a3, c3, rfl, _, _, _⟩ := own_len o3
          have F3 := G.out.sel (V' := w3) (a' := a3) (c' := c3) ⟨⟨#[122]⟩, 3, []⟩ rfl g3 (by simpa [rowT, RowF.In, cellsT] using o3)
          have HF3 := Lib.hid F3
          have cQ := fun o => cell_of_obj HF3.out.q o
          have fQ := fun o => free_of_obj HF3.out.q o
          clear F3 g3 o3 G hbnd hv
          go_wp2_with fail
          go_meet
          case rel => exact ⟨_, _, (HF3.out.set 8 _).to (by simp [rowI, rowP, rowL, rowT, hLs, hLa, hLe]) id, fun e => ne_app (congrArg PodD.sel e)⟩
      · as_aux_lemma =>
          have cQ := fun o => cell_of_obj HF.out.q o
          have fQ := fun o => free_of_obj HF.out.q o
          go_wp2_with (at_builtin; refine stand ?_)
          show wpList _ _ _ _ _ _
          have hbnd := hc1.tols.2.2
          have hv : (rowL k.ta k.tc p.tols).v = .slice k.ta p.tols.length k.tc := by simp [rowI, rowP, rowL, rowT, hLs, hLa, hLe]
          obtain ⟨iX, i0, i1, i2, i3⟩ := info_parts infoL5
          have G := Lib.hid (HF.out.later ((Below.refl _ _).alloc (Nat.le_refl _) (.cells #[Value.string ⟨#[]⟩, Value.string ⟨#[]⟩, Value.bool true] 42)))
          refine wpList_append_own_at _ rfl _ _ 27 rfl w1.heap.size 42 iX _ 3 40 Try.underlying27 i0 i1 i2 i3 rfl (by decide) (rowL k.ta k.tc p.tols).v (rowL k.ta k.tc p.tols).n (rowL k.ta k.tc p.tols).xs hv.symm (G.out.own (rowL k.ta k.tc p.tols) (by simp [podRows, rowsT])) ⟨wc.heap.size, 0, none⟩ 1 1 (#[Value.string ⟨#[]⟩, Value.string ⟨#[]⟩, Value.bool true] : Array Value).toList rfl rfl (new_cells _ _ _) (by simp [Value.oneCell']) (by show p.tols.length + 1 ≤ _; unfold maxLen; omega) (by show (p.tols.length + 1) * 40 ≤ _; omega) G.out.b.size ?_
          intro v' w3 o3 g3 _ _
          obtain ⟨a3, c3, rfl, _, _, _⟩ := own_len o3
          have F3 := G.out.tols (V' := w3) (a' := a3) (c' := c3) (⟨#[]⟩, ⟨#[]⟩, true) g3 (by simpa [rowL, RowF.In] using o3)
          have HF3 := Lib.hid F3
          have cQ := fun o => cell_of_obj HF3.out.q o
          have fQ := fun o => free_of_obj HF3.out.q o
          clear F3 g3 o3 G hbnd hv
          go_wp2_with fail
          go_meet
          case rel => exact ⟨_, _, (HF3.out.set 9 _).to (by simp [rowI, rowP, rowL, rowT, hLs, hLa, hLe]) id, fun e => ne_app (congrArg PodD.tols e)⟩
      · as_aux_lemma =>
          have hs : ¬ 9223372036854775807 < p.topo.size + 1 := by omega
          have cQ := fun o => cell_of_obj HF.out.q o
          have fQ := fun o => free_of_obj HF.out.q o
          go_wp2_with fail
          go_meet
          case rel => exact ⟨{ p with topo := p.topo ++ ⟨#[116]⟩ }, k, (HF.out.toJ.set 10 _).to (by rfl) id, fun e => ne_str rfl (congrArg PodD.topo e)⟩
      · as_aux_lemma =>
          have cQ := fun o => cell_of_obj HF.out.q o
          have fQ := fun o => free_of_obj HF.out.q o
          have hbnd := hc1.anti.sz
          have hv : (rowT k.aa k.ac La).v = .slice k.aa p.anti.length k.ac := by simp [rowT, hLa]
          obtain ⟨iX, i0, i1, i2, i3⟩ := info_parts infoT5
          have G := Lib.hid (HF.out.later (((Below.refl _ _).alloc (Nat.le_refl _) (.cells #[Value.string ⟨#[122]⟩, Value.int .i64 0, Value.slice none 0 0] 40)).drew))
          have cQ1 : ∀ o, (wc.alloc (.cells #[Value.string ⟨#[122]⟩, Value.int .i64 0, Value.slice none 0 0] 40)).cell? ⟨Q, o, none⟩ = (podCs p k)[o]? := fun o => cell_of_obj G.out.q o
          go_wp2_with fail
          go_region_law
            (refine step_append_opt rfl (.tmp 91) (.tmp 93) 26 rfl w1.heap.size 40 iX _ 3 48 Try.underlying26 i0 i1 i2 i3 rfl (by decide) (rowT k.aa k.ac La).v (rowT k.aa k.ac La).n (rowT k.aa k.ac La).xs hv.symm (G.out.own (rowT k.aa k.ac La) (by simp [podRows, rowsT])) (some ⟨wc.heap.size, 0, none⟩) 1 1 (#[Value.string ⟨#[122]⟩, Value.int .i64 0, Value.slice none 0 0] : Array Value).toList rfl (fun h => by cases h) rfl (fun b hb => by cases hb; exact new_cells wc _ _) (by simp [Value.oneCell']) (by show La.length + 1 ≤ _; unfold maxLen; omega) (by show (La.length + 1) * 48 ≤ _; omega) G.out.b.size ?_
             intro v' w3 o3 g3
             obtain ⟨a3, c3, rfl, _, _, _⟩ := own_len o3
             have F3 := G.out.anti (V' := w3) (a' := a3) (c' := c3) ⟨⟨#[122]⟩, 0, []⟩ rfl g3 (by simpa [rowT, RowF.In, cellsT] using o3)
             have HF3 := Lib.hid F3
             have cQ3 := fun o => cell_of_obj HF3.out.q o
             have fQ3 := fun o => free_of_obj HF3.out.q o
             clear F3 g3 o3)
          all_goals
            go_wp2_with fail
            go_meet
          all_goals exact ⟨{ p with anti := p.anti ++ [⟨⟨#[122]⟩, 0, []⟩], skew := IntKind.i64.wrap (p.skew + 1) }, _, ((HF3.out.set 11 _).set 12 _).to (by simp [rowT, hLa]) id, fun e => ne_app (congrArg PodD.anti e)⟩
      · as_aux_lemma =>
          have cQ := fun o => cell_of_obj HF.out.q o
          have fQ := fun o => free_of_obj HF.out.q o
          go_wp2_with (at_builtin; refine stand ?_)
          show wpList _ _ _ _ _ _
          have hbnd := hc1.even.sz
          have hv : (rowT k.ea k.ec Le).v = .slice k.ea p.even.length k.ec := by simp [rowI, rowP, rowL, rowT, hLs, hLa, hLe]
          obtain ⟨iX, i0, i1, i2, i3⟩ := info_parts infoT5
          have G := Lib.hid (HF.out.later ((Below.refl _ _).alloc (Nat.le_refl _) (.cells #[Value.string ⟨#[122]⟩, Value.int .i64 0, Value.slice none 0 0] 40)))
          refine wpList_append_own_at _ rfl _ _ 26 rfl w1.heap.size 40 iX _ 3 48 Try.underlying26 i0 i1 i2 i3 rfl (by decide) (rowT k.ea k.ec Le).v (rowT k.ea k.ec Le).n (rowT k.ea k.ec Le).xs hv.symm (G.out.own (rowT k.ea k.ec Le) (by simp [podRows, rowsT])) ⟨wc.heap.size, 0, none⟩ 1 1 (#[Value.string ⟨#[122]⟩, Value.int .i64 0, Value.slice none 0 0] : Array Value).toList rfl rfl (new_cells _ _ _) (by simp [Value.oneCell']) (by show Le.length + 1 ≤ _; unfold maxLen; omega) (by show (Le.length + 1) * 48 ≤ _; omega) G.out.b.size ?_
          intro v' w3 o3 g3 _ _
          obtain ⟨a3, c3, rfl, _, _, _⟩ := own_len o3
          have F3 := G.out.even (V' := w3) (a' := a3) (c' := c3) ⟨⟨#[122]⟩, 0, []⟩ rfl g3 (by simpa [rowT, RowF.In, cellsT] using o3)
          have HF3 := Lib.hid F3
          have cQ := fun o => cell_of_obj HF3.out.q o
          have fQ := fun o => free_of_obj HF3.out.q o
          clear F3 g3 o3 G hbnd hv
          go_wp2_with fail
          go_meet
          case rel => exact ⟨_, _, (HF3.out.set 13 _).to (by simp [rowI, rowP, rowL, rowT, hLs, hLa, hLe]) id, fun e => ne_app (congrArg PodD.even e)⟩
      · as_aux_lemma =>
          have hs : ¬ 9223372036854775807 < p.node.size + 1 := by omega
          have cQ := fun o => cell_of_obj HF.out.q o
          have fQ := fun o => free_of_obj HF.out.q o
          go_wp2_with fail
          go_meet
          case rel => exact ⟨{ p with node := p.node ++ ⟨#[110]⟩ }, k, (HF.out.toJ.set 14 _).to (by rfl) id, fun e => ne_str rfl (congrArg PodD.node e)⟩
    case rest =>
      obtain ⟨p', k', hF2, hne⟩ := hcut
      have cM := fun o => cell_of_obj hF2.m o
      have fM := fun o => free_of_obj hF2.m o
      have hbw2 : Below w.heap.size w wc := hbw1.trans (hF2.b.mono hbw1.size)
      have HF2 := Lib.hid hF2
      have HCP := Lib.hid hcp1
      have HCN := Lib.hid hn1
      clear hF2 hcp1 hn1 HF hc1
      go_upto_region 30 with fail
      have E1 := HF2.out.toEnd hA hB hz1 HCP.out HCN.out (wrap64 (n.r2 + 1))
      have hbw3 : Below w.heap.size w (wc.setCell ⟨M, 3, none⟩ (.int .i64 (wrap64 (n.r2 + 1)))) := hbw2.setCell (Nat.le_trans (by omega) HF2.out.lm) _
      clear hA hB HF2 HCP HCN
      generalize wc.setCell ⟨M, 3, none⟩ (.int .i64 (wrap64 (n.r2 + 1))) = W1 at E1 hbw3 ⊢
      have E1 : Hid (End w W1 Q M p h p' k' n g { n with r2 := wrap64 (n.r2 + 1) } m) := E1
      have hnn : n ≠ { n with r2 := wrap64 (n.r2 + 1) } := fun e => ne_inc (congrArg NodeD.r2 e)
      generalize ({ n with r2 := wrap64 (n.r2 + 1) } : NodeD) = n' at E1 hnn
      have T1 := (eqPod_no hne).1
      have T2 := (eqPod_no hne).2
      have T3 := eqPod_me p'
      have T4 := eqNode_no hnn
      have T5 := eqNode_self n'
      clear cM fM hbw2 hbw1
      have cA := E1.out.ca
      have cB := E1.out.cb
      have cQ := fun o => cell_of_obj E1.out.hq o
      have cM := fun o => cell_of_obj E1.out.hm o
      go_wp2_with fail
      refine Calls.mono (eqPod_any p p' h k' _ E1.out.ap E1.out.qp) ?_
      rintro e W2 ⟨he, hb2⟩
      as_aux_lemma =>
        rw [T1] at he
        subst he
        have hbw3' : Below w.heap.size w W2 := hbw3.trans (hb2.mono hbw3.size)
        have E2 := Lib.hid (E1.out.later hb2)
        clear hbw3 cA cB cQ cM E1 hb2
        have hbw3 := hbw3'
        clear hbw3'
        have cA := E2.out.ca
        have cB := E2.out.cb
        have cQ := fun o => cell_of_obj E2.out.hq o
        have cM := fun o => cell_of_obj E2.out.hm o
        go_wp2_with fail
        refine Calls.mono (eqPod_any p' p k' h _ E2.out.qp E2.out.ap) ?_
        rintro e W3 ⟨he, hb3⟩
        as_aux_lemma =>
          rw [T2] at he
          subst he
          have hbw3' : Below w.heap.size w W3 := hbw3.trans (hb3.mono hbw3.size)
          have E3 := Lib.hid (E2.out.later hb3)
          clear hbw3 cA cB cQ cM E2 hb3
          have hbw3 := hbw3'
          clear hbw3'
          have cA := E3.out.ca
          have cB := E3.out.cb
          have cQ := fun o => cell_of_obj E3.out.hq o
          have cM := fun o => cell_of_obj E3.out.hm o
          go_wp2_with fail
          refine Calls.mono (eqPod_any p' p' k' k' _ E3.out.qp E3.out.qp) ?_
          rintro e W4 ⟨he, hb4⟩
          as_aux_lemma =>
            rw [T3] at he
            subst he
            have hbw3' : Below w.heap.size w W4 := hbw3.trans (hb4.mono hbw3.size)
            have E4 := Lib.hid (E3.out.later hb4)
            clear hbw3 cA cB cQ cM E3 hb4
            have hbw3 := hbw3'
            clear hbw3'
            have cA := E4.out.ca
            have cB := E4.out.cb
            have cQ := fun o => cell_of_obj E4.out.hq o
            have cM := fun o => cell_of_obj E4.out.hm o
            go_wp2_with fail
            refine Calls.mono (eqNode_any n n' g m _ E4.out.bn E4.out.mn) ?_
            rintro e W5 ⟨he, hb5⟩
            as_aux_lemma =>
              rw [T4] at he
              subst he
              have hbw3' : Below w.heap.size w W5 := hbw3.trans (hb5.mono hbw3.size)
              have E5 := Lib.hid (E4.out.later hb5)
              clear hbw3 cA cB cQ cM E4 hb5
              have hbw3 := hbw3'
              clear hbw3'
              have cA := E5.out.ca
              have cB := E5.out.cb
              have cQ := fun o => cell_of_obj E5.out.hq o
              have cM := fun o => cell_of_obj E5.out.hm o
              go_wp2_with fail
              refine Calls.mono (eqNode_any n' n' m m _ E5.out.mn E5.out.mn) ?_
              rintro e W6 ⟨he, hb6⟩
              rw [T5] at he
              subst he
              have hbw8 : Below w.heap.size w W6 := hbw3.trans (hb6.mono hbw3.size)
              go_wp2
              go_ret
              exact ⟨rfl, hbw8⟩
end Go.Proofs.Ytnobgmdknalpdaa
