/- Root of package field: the even root modulo the prime, if there is one. Its number turn is as the program lays it. -/
import Derived.Test.YtgbliacncahooaaDoorGDoor
import Derived.Test.YtgbliacncahooaaDoorGNum
namespace Go.Proofs.YtgbliacncahooaaDoor
open Go.RowKit Go.Shelf
set_option linter.unusedVariables false
set_option linter.unusedSimpArgs false
theorem turn_load {l : List (Nat × Array Value)} {w0 w : World} (hG : GlobT w0) (T : Array Value) (hT : Hid (T = num tn)) (hk : Kn w0 l w) : (loadVar 24 ⟨2, 0, none⟩).run Tryd.prog w = .ok (.agg T) w := by
  rw [hT.out]
  exact (hG.kn hk).load
set_option maxRecDepth 100000 in
set_option maxHeartbeats 1000000 in
theorem root_any (a : Nat) (ha : a < 115792089237316195423570985008687907853269984665640564039457584007913129639936) (w : World) (hG0 : GlobT w) :
    Calls Tryd.prog 52 #[.agg (num a)] w fun e w' => e = .returned (.tuple #[.agg (num (rootF a).1), .bool (rootF a).2]) ∧ Below w.heap.size w w' := by
  have hG := Lib.hid hG0
  have hN4 : a % pp < 115792089237316195423570985008687907853269984665640564039457584007913129639936 := pp_lt (Nat.mod_lt _ pp_pos)
  have H1 := Lib.hid (norm_any a ha)
  have H2 := Lib.hid (ones_any (a % pp) 251 hN4 (by decide) (by decide))
  have H3 := Lib.hid (squared_any (onF (a % pp) 251) 1 (onF_lt _ _ hN4) (by decide))
  rw [rootR_is] at H3
  have H4 := Lib.hid (mulf_any (rootR a) (rootR a) (pp_lt (rootR_lt a)) (pp_lt (rootR_lt a)))
  have H5 := Lib.hid (mulf_any (rootR a) tn (pp_lt (rootR_lt a)) (by decide))
  have H6 := Lib.hid (mulf_any (rootT a) (rootT a) (pp_lt (rootT_lt a)) (pp_lt (rootT_lt a)))
  have H7 := Lib.hid (subf_any 0 (rootT a) (by decide) (pp_lt (rootT_lt a)))
  have hb0 := build0_run
  have HZ := zero_run
  have hrm4 : mulF (rootR a) (rootR a) < 115792089237316195423570985008687907853269984665640564039457584007913129639936 := pp_lt (mulF_lt _ _)
  have htm4 : mulF (rootT a) (rootT a) < 115792089237316195423570985008687907853269984665640564039457584007913129639936 := pp_lt (mulF_lt _ _)
  have hRT : Hid (rootT a = if mulF (rootR a) (rootR a) = a % pp then rootR a else mulF (rootR a) tn) := Lib.hid rfl
  have hRF : Hid (rootF a = if mulF (rootT a) (rootT a) = a % pp then (if rootT a % 2 = 1 then subF 0 (rootT a) else rootT a, true) else (0, false)) := Lib.hid rfl
  have hc0 : (num (rootT a))[0]? = some (.int .u64 (dig (rootT a) 0 : Int)) := num_get _ 0 (by decide)
  have hod := dig0_odd (rootT a)
  generalize dig (rootT a) 0 = d at *
  obtain ⟨A, hA⟩ : ∃ A, Hid (A = num a) := ⟨_, Lib.hid rfl⟩
  have IA : IsNum A := by rw [hA.out]; exact isNum _
  obtain ⟨N, hN⟩ : ∃ N, Hid (N = num (a % pp)) := ⟨_, Lib.hid rfl⟩
  have IN : IsNum N := by rw [hN.out]; exact isNum _
  obtain ⟨O, hO⟩ : ∃ O, Hid (O = num (onF (a % pp) 251)) := ⟨_, Lib.hid rfl⟩
  have IOo : IsNum O := by rw [hO.out]; exact isNum _
  obtain ⟨R, hR⟩ : ∃ R, Hid (R = num (rootR a)) := ⟨_, Lib.hid rfl⟩
  have IR : IsNum R := by rw [hR.out]; exact isNum _
  obtain ⟨RR, hRR⟩ : ∃ RR, Hid (RR = num (mulF (rootR a) (rootR a))) := ⟨_, Lib.hid rfl⟩
  have IRR : IsNum RR := by rw [hRR.out]; exact isNum _
  obtain ⟨T, hT⟩ : ∃ T, Hid (T = num tn) := ⟨_, Lib.hid rfl⟩
  have IT : IsNum T := by rw [hT.out]; exact isNum _
  obtain ⟨S, hS⟩ : ∃ S, Hid (S = num (mulF (rootR a) tn)) := ⟨_, Lib.hid rfl⟩
  have IS : IsNum S := by rw [hS.out]; exact isNum _
  obtain ⟨X, hX⟩ : ∃ X, Hid (X = num (rootT a)) := ⟨_, Lib.hid rfl⟩
  have IX : IsNum X := by rw [hX.out]; exact isNum _
  obtain ⟨XX, hXX⟩ : ∃ XX, Hid (XX = num (mulF (rootT a) (rootT a))) := ⟨_, Lib.hid rfl⟩
  have IXX : IsNum XX := by rw [hXX.out]; exact isNum _
  obtain ⟨Y, hY⟩ : ∃ Y, Hid (Y = num (subF 0 (rootT a))) := ⟨_, Lib.hid rfl⟩
  have IY : IsNum Y := by rw [hY.out]; exact isNum _
  obtain ⟨Z, hZ⟩ : ∃ Z, Hid (Z = num 0) := ⟨_, Lib.hid rfl⟩
  have IZ : IsNum Z := by rw [hZ.out]; exact isNum _
  rw [← hA.out, ← hN.out] at H1
  rw [← hN.out, ← hO.out] at H2
  rw [← hO.out, ← hR.out] at H3
  rw [← hR.out, ← hRR.out] at H4
  rw [← hR.out, ← hT.out, ← hS.out] at H5
  rw [← hX.out, ← hXX.out] at H6
  rw [← hZ.out, ← hX.out, ← hY.out] at H7
  rw [← hZ.out] at hb0
  rw [← hX.out] at hc0
  have HB0 := Lib.hid hb0
  have HZ2 : ∀ w, (zeroValue 24).run Tryd.prog w = .ok (.agg Z) w := by rw [hZ.out]; exact HZ
  have IZ2 := IZ.size
  rw [← hA.out]
  have HTL : Hid (∀ (l : List (Nat × Array Value)) (W : World), Kn w l W → (loadVar 24 ⟨2, 0, none⟩).run Tryd.prog W = .ok (.agg T) W) := Lib.hid (fun l W hk => turn_load hG0 T hT hk)
  have hN5 : a % pp < 115792089237316195423570985008687907853269984665640564039457584007913129639936 := hN4
  clear HZ hb0 hG0 hN4 ha hG
  have HS : Hid (Kn w [(w.heap.size, A), (w.heap.size + 1, Z)] ((w.alloc (.cells A 24)).alloc (.cells Z 24))) := by
    have h := ((Kn.nil w).new A).new Z
    simp only [World.size_alloc] at h
    exact Lib.hid (h.sub (fun p hp => by simp at hp ⊢; rcases hp with h | h <;> simp [h]))
  go_enter Tryd.func52, Tryd.ntmps52
  go_upto_region 1 with ((refine wpList_run rfl _ (exec_alloc_agg _ 24 rfl _ (HZ2 _)) ?_); try simp only [World.size_alloc])
  try simp only [Act.put, sT, sS, sZ]
  generalize (w.alloc (.cells A 24)).alloc (.cells Z 24) = W0 at *
  have hL1 := HS.out.load (w.heap.size) A (by simp) IA
  go_wp2_with (refine wpList_run rfl _ (exec_load_of _ 24 (.tmp 1) rfl ⟨w.heap.size, 0, none⟩ rfl (.agg A) hL1) ?_)
  clear hL1
  refine (H1.out _).mono ?_
  rintro e w1 ⟨rfl, hb⟩
  have HS1 := Lib.hid (HS.out.below hb)
  clear hb HS H1
  go_upto_region 2 with (refine wpList_run0 rfl (exec_store_kn (w0 := w) (l := [(w.heap.size, A), (w.heap.size + 1, Z)]) _ HS1.out (.tmp 1) (.tmp 6) rfl (w.heap.size) rfl N IN rfl A IA (by simp)) ?_)
  try simp only [Act.put, sT, sS, sZ]
  have HS2 : Hid (Kn w [(w.heap.size, N), (w.heap.size + 1, Z)] (w1.setRow (w.heap.size) N)) := Lib.hid (HS1.out.set (w.heap.size) N A (HS1.out.get (w.heap.size) A (by simp)) (by omega) (fun p hp => by simp at hp; rcases hp with rfl | rfl <;> simp))
  clear HS1
  generalize w1.setRow (w.heap.size) N = W1 at *
  have hL1 := HS2.out.load (w.heap.size) N (by simp) IN
  go_wp2_with (refine wpList_run rfl _ (exec_load_of _ 24 (.tmp 1) rfl ⟨w.heap.size, 0, none⟩ rfl (.agg N) hL1) ?_)
  clear hL1
  refine (H2.out _).mono ?_
  rintro e w2 ⟨rfl, hb⟩
  have HS3 := Lib.hid (HS2.out.below hb)
  clear hb HS2 H2
  go_wp2_with fail
  refine (H3.out _).mono ?_
  rintro e w3 ⟨rfl, hb⟩
  have HS4 := Lib.hid (HS3.out.below hb)
  clear hb HS3 H3
  have hgR : w.heap.size + 1 < w3.heap.size := HS4.out.lt (w.heap.size + 1) Z (by simp)
  have HS5_ : Kn w [(w.heap.size, N), (w.heap.size + 1, Z), (w3.heap.size, R)] (w3.alloc (.cells R 24)) := (HS4.out.new R).sub (fun p hp => by simp at hp ⊢; rcases hp with h | h | h <;> simp [h])
  have HS5 := Lib.hid HS5_
  clear HS5_ HS4
  go_upto_region 3 with (first | ((refine wpList_run rfl _ (exec_alloc_agg _ 24 rfl _ (HZ2 _)) ?_); try simp only [World.size_alloc]) | (refine wpList_run0 rfl (exec_new24 _ (.tmp 4) (.tmp 9) rfl _ _ rfl R IR rfl IZ2) ?_))
  try simp only [Act.put, sT, sS, sZ]
  generalize w3.alloc (.cells R 24) = W3 at *
  generalize w3.heap.size = gR at *
  by_cases hc1 : mulF (rootR a) (rootR a) = a % pp
  · have hXR : Hid (R = X) := by unfold Hid; rw [hR.out, hX.out, hRT.out, if_pos hc1]
    have hd3 : decide (mulF (rootT a) (rootT a) = a % pp) = !false := by rw [hRT.out, if_pos hc1]; simp [hc1]
    rw [hXR.out] at HS5 ⊢
    clear hXR hc1 hRT H4 H5
    refine wp_nrm ?_
    refine wp_region_any (by kernel_rfl) ?_
    change wpAny _ _ _ _ _ _ _ (World.drew _)
    have HD := HS5.out.drew
    generalize W3.drew = Wd at *
    refine any_of_F (S := Kn w [(w.heap.size, N), (w.heap.size + 1, Z), (gR, X)]) (f := 1000) _ _ _ _ ?_
    refine tkG 0 (some 10) (.load 24 (.tmp 4)) none (.agg X) (fun o ho w2 hw => exec_load_of _ 24 (.tmp 4) ho ⟨gR, 0, none⟩ rfl _ (hw.load (gR) X (by simp) IX)) HD ?_
    simp only [Act.put, sT, sS, sZ]
    refine tkG 1 (some 11) (.load 24 (.tmp 4)) none (.agg X) (fun o ho w2 hw => exec_load_of _ 24 (.tmp 4) ho ⟨gR, 0, none⟩ rfl _ (hw.load (gR) X (by simp) IX)) HD ?_
    simp only [Act.put, sT, sS, sZ]
    refine tkG 3 (some 13) (.load 24 (.tmp 1)) none (.agg N) (fun o ho w2 hw => exec_load_of _ 24 (.tmp 1) ho ⟨w.heap.size, 0, none⟩ rfl _ (hw.load (w.heap.size) N (by simp) IN)) HD ?_
    simp only [Act.put, sT, sS, sZ]
    refine rdy [2] (rcl (some 12) 40 #[.tmp 10, .tmp 11] #[24, 24] #[.agg X, .agg X] enters40 _ (H6.out _) ?_ ReadyF.nil)
    rintro v ws1 ⟨he, hb⟩
    cases he
    have Hs2 := HD.below hb
    clear hb
    refine ⟨Hs2, ?_⟩
    simp only [Act.put, sT, sS, sZ]
    refine tkG 4 (some 14) (.binOp .neq 24 (.tmp 12) (.tmp 13) 24) none (.bool false) (fun o ho w2 hw => exec_neqL (.tmp 12) (.tmp 13) ho _ _ htm4 hN5 XX N hXX hN rfl rfl false hd3 w2) Hs2 ?_
    simp only [Act.put, sT, sS, sZ]
    refine AnyF.done (by kernel_rfl) ?_ _
    refine nrm_intro ?_
    have HSc := Lib.hid Hs2
    go_upto_region 5 with fail
    try simp only [Act.put, sT, sS, sZ]
    by_cases hc2 : mulF (rootT a) (rootT a) = a % pp
    · by_cases hod1 : rootT a % 2 = 1
      · have hrf : Hid (rootF a = (subF 0 (rootT a), true)) := by unfold Hid; rw [hRF.out, if_pos hc2, if_pos hod1]
        have hod2 : d % 2 = 1 := by omega
        have hdc : decide (mulF (rootT a) (rootT a) = a % pp) = !false := by simp [hc2]
        clear hRF hc2 hod1
        refine wp_nrm ?_
        refine wp_region_any (by kernel_rfl) ?_
        change wpAny _ _ _ _ _ _ _ (World.drew _)
        have HD := HSc.out.drew
        generalize ws1.drew = Wd at *
        refine any_of_F (S := Kn w [(w.heap.size, N), (w.heap.size + 1, Z), (gR, X)]) (f := 1000) _ _ _ _ ?_
        refine tkG 0 (some 18) (.load 24 (.tmp 4)) none (.agg X) (fun o ho w2 hw => exec_load_of _ 24 (.tmp 4) ho ⟨gR, 0, none⟩ rfl _ (hw.load (gR) X (by simp) IX)) HD ?_
        simp only [Act.put, sT, sS, sZ]
        refine tkG 1 (some 19) (.load 24 (.tmp 4)) none (.agg X) (fun o ho w2 hw => exec_load_of _ 24 (.tmp 4) ho ⟨gR, 0, none⟩ rfl _ (hw.load (gR) X (by simp) IX)) HD ?_
        simp only [Act.put, sT, sS, sZ]
        refine tkG 3 (some 21) (.load 24 (.tmp 1)) none (.agg N) (fun o ho w2 hw => exec_load_of _ 24 (.tmp 1) ho ⟨w.heap.size, 0, none⟩ rfl _ (hw.load (w.heap.size) N (by simp) IN)) HD ?_
        simp only [Act.put, sT, sS, sZ]
        refine rdy [2] (rcl (some 20) 40 #[.tmp 18, .tmp 19] #[24, 24] #[.agg X, .agg X] enters40 _ (H6.out _) ?_ ReadyF.nil)
        rintro v wu1 ⟨he, hb⟩
        cases he
        have Hu2 := HD.below hb
        clear hb
        refine ⟨Hu2, ?_⟩
        simp only [Act.put, sT, sS, sZ]
        refine tkG 4 (some 22) (.binOp .neq 24 (.tmp 20) (.tmp 21) 24) none (.bool false) (fun o ho w2 hw => exec_neqL (.tmp 20) (.tmp 21) ho _ _ htm4 hN5 XX N hXX hN rfl rfl false hdc w2) Hu2 ?_
        simp only [Act.put, sT, sS, sZ]
        refine AnyF.done (by kernel_rfl) ?_ _
        refine nrm_intro ?_
        have hcell := (Hu2.cell gR X (by simp) 0).trans hc0
        go_wp2_with (first | (refine wpList_run rfl _ (exec_indexAddr24 (.tmp 4) (.const (.int .i64 0)) rfl gR 0 rfl rfl (by decide) _) ?_) | (refine wpList_run rfl _ (exec_load_one _ 22 (.tmp 24) rfl ⟨gR, 0, none⟩ rfl _ hcell _ Tryd.underlying22 rfl) ?_) | (refine wpList_run rfl _ (exec_rem2 (.tmp 25) rfl rfl d 1 hod2 rfl _) ?_) | (refine wpList_run rfl _ (exec_build0 rfl (.agg Z) (HB0.out _) _) ?_) | (refine wpList_run rfl _ (exec_load_of _ 24 (.tmp 4) rfl ⟨gR, 0, none⟩ rfl (.agg X) ?L4) ?_))
        case L4 => exact Hu2.load gR X (by simp) IX
        have HSa := Lib.hid Hu2
        refine (H7.out _).mono ?_
        rintro e w9 ⟨rfl, hb⟩
        have HSb := Lib.hid (HSa.out.below hb)
        clear hb HSa H7
        go_upto_region 9 with (refine wpList_run0 rfl (exec_store_kn (w0 := w) (l := [(w.heap.size, N), (w.heap.size + 1, Z), (gR, X)]) _ HSb.out (.tmp 4) (.tmp 30) rfl (gR) rfl Y IY rfl X IX (by simp)) ?_)
        try simp only [Act.put, sT, sS, sZ]
        have HSc : Hid (Kn w [(w.heap.size, N), (w.heap.size + 1, Z), (gR, Y)] (w9.setRow gR Y)) := Lib.hid (HSb.out.set gR Y X (HSb.out.get gR X (by simp)) (by omega) (fun p hp => by simp at hp; rcases hp with rfl | rfl | rfl <;> simp <;> omega))
        clear HSb
        generalize w9.setRow gR Y = W9 at *
        have hL4 := HSc.out.load gR Y (by simp) IY
        go_wp2_with (first | (refine wpList_run rfl _ (exec_load_of _ 24 (.tmp 4) rfl ⟨gR, 0, none⟩ rfl (.agg Y) hL4) ?_) | (refine wpList_run0 rfl (exec_store_kn (w0 := w) (l := [(w.heap.size, N), (w.heap.size + 1, Z), (gR, Y)]) _ HSc.out (.tmp 2) (.tmp 31) rfl (w.heap.size + 1) rfl Y IY rfl Z IZ (by simp)) ?_))
        have HSZ : Kn w [(w.heap.size + 1, Y)] (World.setRow _ (w.heap.size + 1) Y) := HSc.out.set (w.heap.size + 1) Y Z (HSc.out.get (w.heap.size + 1) Z (by simp)) (by omega) (fun p hp => by simp at hp; subst hp; simp)
        refine bodyPost_ret (results_two rfl _ _ _ ⟨w.heap.size + 1, 0, none⟩ rfl _ (HSZ.load (w.heap.size + 1) Y (by simp) IY)) rfl ⟨?_, HSZ.1⟩
        rw [hrf.out, ← hY.out]
        rfl
      · have hrf : Hid (rootF a = (rootT a, true)) := by unfold Hid; rw [hRF.out, if_pos hc2, if_neg hod1]
        have hod2 : d % 2 = 0 := by omega
        have hdc : decide (mulF (rootT a) (rootT a) = a % pp) = !false := by simp [hc2]
        clear hRF hc2 hod1
        refine wp_nrm ?_
        refine wp_region_any (by kernel_rfl) ?_
        change wpAny _ _ _ _ _ _ _ (World.drew _)
        have HD := HSc.out.drew
        generalize ws1.drew = Wd at *
        refine any_of_F (S := Kn w [(w.heap.size, N), (w.heap.size + 1, Z), (gR, X)]) (f := 1000) _ _ _ _ ?_
        refine tkG 0 (some 18) (.load 24 (.tmp 4)) none (.agg X) (fun o ho w2 hw => exec_load_of _ 24 (.tmp 4) ho ⟨gR, 0, none⟩ rfl _ (hw.load (gR) X (by simp) IX)) HD ?_
        simp only [Act.put, sT, sS, sZ]
        refine tkG 1 (some 19) (.load 24 (.tmp 4)) none (.agg X) (fun o ho w2 hw => exec_load_of _ 24 (.tmp 4) ho ⟨gR, 0, none⟩ rfl _ (hw.load (gR) X (by simp) IX)) HD ?_
        simp only [Act.put, sT, sS, sZ]
        refine tkG 3 (some 21) (.load 24 (.tmp 1)) none (.agg N) (fun o ho w2 hw => exec_load_of _ 24 (.tmp 1) ho ⟨w.heap.size, 0, none⟩ rfl _ (hw.load (w.heap.size) N (by simp) IN)) HD ?_
        simp only [Act.put, sT, sS, sZ]
        refine rdy [2] (rcl (some 20) 40 #[.tmp 18, .tmp 19] #[24, 24] #[.agg X, .agg X] enters40 _ (H6.out _) ?_ ReadyF.nil)
        rintro v wu1 ⟨he, hb⟩
        cases he
        have Hu2 := HD.below hb
        clear hb
        refine ⟨Hu2, ?_⟩
        simp only [Act.put, sT, sS, sZ]
        refine tkG 4 (some 22) (.binOp .neq 24 (.tmp 20) (.tmp 21) 24) none (.bool false) (fun o ho w2 hw => exec_neqL (.tmp 20) (.tmp 21) ho _ _ htm4 hN5 XX N hXX hN rfl rfl false hdc w2) Hu2 ?_
        simp only [Act.put, sT, sS, sZ]
        refine AnyF.done (by kernel_rfl) ?_ _
        refine nrm_intro ?_
        have hcell := (Hu2.cell gR X (by simp) 0).trans hc0
        go_wp2_with (first | (refine wpList_run rfl _ (exec_indexAddr24 (.tmp 4) (.const (.int .i64 0)) rfl gR 0 rfl rfl (by decide) _) ?_) | (refine wpList_run rfl _ (exec_load_one _ 22 (.tmp 24) rfl ⟨gR, 0, none⟩ rfl _ hcell _ Tryd.underlying22 rfl) ?_) | (refine wpList_run rfl _ (exec_rem2 (.tmp 25) rfl rfl d 0 hod2 rfl _) ?_) | (refine wpList_run rfl _ (exec_load_of _ 24 (.tmp 4) rfl ⟨gR, 0, none⟩ rfl (.agg X) ?L4) ?_) | (refine wpList_run0 rfl (exec_store_kn (w0 := w) (l := [(w.heap.size, N), (w.heap.size + 1, Z), (gR, X)]) _ Hu2 (.tmp 2) (.tmp 31) rfl (w.heap.size + 1) rfl X IX rfl Z IZ (by simp)) ?_))
        case L4 => exact Hu2.load gR X (by simp) IX
        have HSZ : Kn w [(w.heap.size + 1, X)] (World.setRow _ (w.heap.size + 1) X) := Hu2.set (w.heap.size + 1) X Z (Hu2.get (w.heap.size + 1) Z (by simp)) (by omega) (fun p hp => by simp at hp; subst hp; simp)
        refine bodyPost_ret (results_two rfl _ _ _ ⟨w.heap.size + 1, 0, none⟩ rfl _ (HSZ.load (w.heap.size + 1) X (by simp) IX)) rfl ⟨?_, HSZ.1⟩
        rw [hrf.out, ← hX.out]
        rfl
    · have hrf : Hid (rootF a = (0, false)) := by unfold Hid; rw [hRF.out, if_neg hc2]
      have hdc : decide (mulF (rootT a) (rootT a) = a % pp) = !true := by simp [hc2]
      clear hRF hc2
      refine wp_nrm ?_
      refine wp_region_any (by kernel_rfl) ?_
      change wpAny _ _ _ _ _ _ _ (World.drew _)
      have HD := HSc.out.drew
      generalize ws1.drew = Wd at *
      refine any_of_F (S := Kn w [(w.heap.size, N), (w.heap.size + 1, Z), (gR, X)]) (f := 1000) _ _ _ _ ?_
      refine tkG 0 (some 18) (.load 24 (.tmp 4)) none (.agg X) (fun o ho w2 hw => exec_load_of _ 24 (.tmp 4) ho ⟨gR, 0, none⟩ rfl _ (hw.load (gR) X (by simp) IX)) HD ?_
      simp only [Act.put, sT, sS, sZ]
      refine tkG 1 (some 19) (.load 24 (.tmp 4)) none (.agg X) (fun o ho w2 hw => exec_load_of _ 24 (.tmp 4) ho ⟨gR, 0, none⟩ rfl _ (hw.load (gR) X (by simp) IX)) HD ?_
      simp only [Act.put, sT, sS, sZ]
      refine tkG 3 (some 21) (.load 24 (.tmp 1)) none (.agg N) (fun o ho w2 hw => exec_load_of _ 24 (.tmp 1) ho ⟨w.heap.size, 0, none⟩ rfl _ (hw.load (w.heap.size) N (by simp) IN)) HD ?_
      simp only [Act.put, sT, sS, sZ]
      refine rdy [2] (rcl (some 20) 40 #[.tmp 18, .tmp 19] #[24, 24] #[.agg X, .agg X] enters40 _ (H6.out _) ?_ ReadyF.nil)
      rintro v wu1 ⟨he, hb⟩
      cases he
      have Hu2 := HD.below hb
      clear hb
      refine ⟨Hu2, ?_⟩
      simp only [Act.put, sT, sS, sZ]
      refine tkG 4 (some 22) (.binOp .neq 24 (.tmp 20) (.tmp 21) 24) none (.bool true) (fun o ho w2 hw => exec_neqL (.tmp 20) (.tmp 21) ho _ _ htm4 hN5 XX N hXX hN rfl rfl true hdc w2) Hu2 ?_
      simp only [Act.put, sT, sS, sZ]
      refine AnyF.done (by kernel_rfl) ?_ _
      refine nrm_intro ?_
      go_wp2_with (first | (refine wpList_run rfl _ (exec_build0 rfl (.agg Z) (HB0.out _) _) ?_) | (refine wpList_run0 rfl (exec_store_kn (w0 := w) (l := [(w.heap.size, N), (w.heap.size + 1, Z), (gR, X)]) _ Hu2 (.tmp 2) (.tmp 23) rfl (w.heap.size + 1) rfl Z IZ rfl Z IZ (by simp)) ?_))
      have HSZ : Kn w [(w.heap.size + 1, Z)] (World.setRow _ (w.heap.size + 1) Z) := Hu2.set (w.heap.size + 1) Z Z (Hu2.get (w.heap.size + 1) Z (by simp)) (by omega) (fun p hp => by simp at hp; subst hp; simp)
      refine bodyPost_ret (results_two rfl _ _ _ ⟨w.heap.size + 1, 0, none⟩ rfl _ (HSZ.load (w.heap.size + 1) Z (by simp) IZ)) rfl ⟨?_, HSZ.1⟩
      rw [hrf.out, ← hZ.out]
      rfl
  · have hXS : Hid (S = X) := by unfold Hid; rw [hS.out, hX.out, hRT.out, if_neg hc1]
    have hd3 : decide (mulF (rootR a) (rootR a) = a % pp) = !true := by simp [hc1]
    rw [hXS.out] at H5
    clear hXS hc1 hRT
    refine wp_nrm ?_
    refine wp_region_any (by kernel_rfl) ?_
    change wpAny _ _ _ _ _ _ _ (World.drew _)
    have HD := HS5.out.drew
    generalize W3.drew = Wd at *
    refine any_of_F (S := Kn w [(w.heap.size, N), (w.heap.size + 1, Z), (gR, R)]) (f := 1000) _ _ _ _ ?_
    refine tkG 0 (some 10) (.load 24 (.tmp 4)) none (.agg R) (fun o ho w2 hw => exec_load_of _ 24 (.tmp 4) ho ⟨gR, 0, none⟩ rfl _ (hw.load (gR) R (by simp) IR)) HD ?_
    simp only [Act.put, sT, sS, sZ]
    refine tkG 1 (some 11) (.load 24 (.tmp 4)) none (.agg R) (fun o ho w2 hw => exec_load_of _ 24 (.tmp 4) ho ⟨gR, 0, none⟩ rfl _ (hw.load (gR) R (by simp) IR)) HD ?_
    simp only [Act.put, sT, sS, sZ]
    refine tkG 3 (some 13) (.load 24 (.tmp 1)) none (.agg N) (fun o ho w2 hw => exec_load_of _ 24 (.tmp 1) ho ⟨w.heap.size, 0, none⟩ rfl _ (hw.load (w.heap.size) N (by simp) IN)) HD ?_
    simp only [Act.put, sT, sS, sZ]
    refine rdy [2] (rcl (some 12) 40 #[.tmp 10, .tmp 11] #[24, 24] #[.agg R, .agg R] enters40 _ (H4.out _) ?_ ReadyF.nil)
    rintro v ws1 ⟨he, hb⟩
    cases he
    have Hs2 := HD.below hb
    clear hb
    refine ⟨Hs2, ?_⟩
    simp only [Act.put, sT, sS, sZ]
    refine tkG 4 (some 14) (.binOp .neq 24 (.tmp 12) (.tmp 13) 24) none (.bool true) (fun o ho w2 hw => exec_neqL (.tmp 12) (.tmp 13) ho _ _ hrm4 hN5 RR N hRR hN rfl rfl true hd3 w2) Hs2 ?_
    simp only [Act.put, sT, sS, sZ]
    refine AnyF.done (by kernel_rfl) ?_ _
    refine nrm_intro ?_
    have HSa := Lib.hid Hs2
    go_wp2_with (first | (refine wpList_run rfl _ (exec_load_of _ 24 (.tmp 4) rfl ⟨gR, 0, none⟩ rfl (.agg R) ?L4) ?_) | (refine wpList_run rfl _ (exec_load_of _ 24 (.global 2) rfl ⟨2, 0, none⟩ rfl (.agg T) ?LT) ?_))
    case L4 => exact Hs2.load gR R (by simp) IR
    case LT => exact HTL.out _ _ Hs2
    refine (H5.out _).mono ?_
    rintro e w4 ⟨rfl, hb⟩
    have HSb := Lib.hid (HSa.out.below hb)
    clear hb HSa H5
    go_upto_region 5 with (refine wpList_run0 rfl (exec_store_kn (w0 := w) (l := [(w.heap.size, N), (w.heap.size + 1, Z), (gR, R)]) _ HSb.out (.tmp 4) (.tmp 17) rfl (gR) rfl X IX rfl R IR (by simp)) ?_)
    try simp only [Act.put, sT, sS, sZ]
    have HSc : Hid (Kn w [(w.heap.size, N), (w.heap.size + 1, Z), (gR, X)] (w4.setRow gR X)) := Lib.hid (HSb.out.set gR X R (HSb.out.get gR R (by simp)) (by omega) (fun p hp => by simp at hp; rcases hp with rfl | rfl | rfl <;> simp <;> omega))
    clear HSb
    generalize w4.setRow gR X = W4 at *
    go_upto_region 5 with fail
    try simp only [Act.put, sT, sS, sZ]
    by_cases hc2 : mulF (rootT a) (rootT a) = a % pp
    · by_cases hod1 : rootT a % 2 = 1
      · have hrf : Hid (rootF a = (subF 0 (rootT a), true)) := by unfold Hid; rw [hRF.out, if_pos hc2, if_pos hod1]
        have hod2 : d % 2 = 1 := by omega
        have hdc : decide (mulF (rootT a) (rootT a) = a % pp) = !false := by simp [hc2]
        clear hRF hc2 hod1
        refine wp_nrm ?_
        refine wp_region_any (by kernel_rfl) ?_
        change wpAny _ _ _ _ _ _ _ (World.drew _)
        have HD := HSc.out.drew
        generalize W4.drew = Wd at *
        refine any_of_F (S := Kn w [(w.heap.size, N), (w.heap.size + 1, Z), (gR, X)]) (f := 1000) _ _ _ _ ?_
        refine tkG 0 (some 18) (.load 24 (.tmp 4)) none (.agg X) (fun o ho w2 hw => exec_load_of _ 24 (.tmp 4) ho ⟨gR, 0, none⟩ rfl _ (hw.load (gR) X (by simp) IX)) HD ?_
        simp only [Act.put, sT, sS, sZ]
        refine tkG 1 (some 19) (.load 24 (.tmp 4)) none (.agg X) (fun o ho w2 hw => exec_load_of _ 24 (.tmp 4) ho ⟨gR, 0, none⟩ rfl _ (hw.load (gR) X (by simp) IX)) HD ?_
        simp only [Act.put, sT, sS, sZ]
        refine tkG 3 (some 21) (.load 24 (.tmp 1)) none (.agg N) (fun o ho w2 hw => exec_load_of _ 24 (.tmp 1) ho ⟨w.heap.size, 0, none⟩ rfl _ (hw.load (w.heap.size) N (by simp) IN)) HD ?_
        simp only [Act.put, sT, sS, sZ]
        refine rdy [2] (rcl (some 20) 40 #[.tmp 18, .tmp 19] #[24, 24] #[.agg X, .agg X] enters40 _ (H6.out _) ?_ ReadyF.nil)
        rintro v wu1 ⟨he, hb⟩
        cases he
        have Hu2 := HD.below hb
        clear hb
        refine ⟨Hu2, ?_⟩
        simp only [Act.put, sT, sS, sZ]
        refine tkG 4 (some 22) (.binOp .neq 24 (.tmp 20) (.tmp 21) 24) none (.bool false) (fun o ho w2 hw => exec_neqL (.tmp 20) (.tmp 21) ho _ _ htm4 hN5 XX N hXX hN rfl rfl false hdc w2) Hu2 ?_
        simp only [Act.put, sT, sS, sZ]
        refine AnyF.done (by kernel_rfl) ?_ _
        refine nrm_intro ?_
        have hcell := (Hu2.cell gR X (by simp) 0).trans hc0
        go_wp2_with (first | (refine wpList_run rfl _ (exec_indexAddr24 (.tmp 4) (.const (.int .i64 0)) rfl gR 0 rfl rfl (by decide) _) ?_) | (refine wpList_run rfl _ (exec_load_one _ 22 (.tmp 24) rfl ⟨gR, 0, none⟩ rfl _ hcell _ Tryd.underlying22 rfl) ?_) | (refine wpList_run rfl _ (exec_rem2 (.tmp 25) rfl rfl d 1 hod2 rfl _) ?_) | (refine wpList_run rfl _ (exec_build0 rfl (.agg Z) (HB0.out _) _) ?_) | (refine wpList_run rfl _ (exec_load_of _ 24 (.tmp 4) rfl ⟨gR, 0, none⟩ rfl (.agg X) ?L4) ?_))
        case L4 => exact Hu2.load gR X (by simp) IX
        have HSa := Lib.hid Hu2
        refine (H7.out _).mono ?_
        rintro e w9 ⟨rfl, hb⟩
        have HSb := Lib.hid (HSa.out.below hb)
        clear hb HSa H7
        go_upto_region 9 with (refine wpList_run0 rfl (exec_store_kn (w0 := w) (l := [(w.heap.size, N), (w.heap.size + 1, Z), (gR, X)]) _ HSb.out (.tmp 4) (.tmp 30) rfl (gR) rfl Y IY rfl X IX (by simp)) ?_)
        try simp only [Act.put, sT, sS, sZ]
        have HSc : Hid (Kn w [(w.heap.size, N), (w.heap.size + 1, Z), (gR, Y)] (w9.setRow gR Y)) := Lib.hid (HSb.out.set gR Y X (HSb.out.get gR X (by simp)) (by omega) (fun p hp => by simp at hp; rcases hp with rfl | rfl | rfl <;> simp <;> omega))
        clear HSb
        generalize w9.setRow gR Y = W9 at *
        have hL4 := HSc.out.load gR Y (by simp) IY
        go_wp2_with (first | (refine wpList_run rfl _ (exec_load_of _ 24 (.tmp 4) rfl ⟨gR, 0, none⟩ rfl (.agg Y) hL4) ?_) | (refine wpList_run0 rfl (exec_store_kn (w0 := w) (l := [(w.heap.size, N), (w.heap.size + 1, Z), (gR, Y)]) _ HSc.out (.tmp 2) (.tmp 31) rfl (w.heap.size + 1) rfl Y IY rfl Z IZ (by simp)) ?_))
        have HSZ : Kn w [(w.heap.size + 1, Y)] (World.setRow _ (w.heap.size + 1) Y) := HSc.out.set (w.heap.size + 1) Y Z (HSc.out.get (w.heap.size + 1) Z (by simp)) (by omega) (fun p hp => by simp at hp; subst hp; simp)
        refine bodyPost_ret (results_two rfl _ _ _ ⟨w.heap.size + 1, 0, none⟩ rfl _ (HSZ.load (w.heap.size + 1) Y (by simp) IY)) rfl ⟨?_, HSZ.1⟩
        rw [hrf.out, ← hY.out]
        rfl
      · have hrf : Hid (rootF a = (rootT a, true)) := by unfold Hid; rw [hRF.out, if_pos hc2, if_neg hod1]
        have hod2 : d % 2 = 0 := by omega
        have hdc : decide (mulF (rootT a) (rootT a) = a % pp) = !false := by simp [hc2]
        clear hRF hc2 hod1
        refine wp_nrm ?_
        refine wp_region_any (by kernel_rfl) ?_
        change wpAny _ _ _ _ _ _ _ (World.drew _)
        have HD := HSc.out.drew
        generalize W4.drew = Wd at *
        refine any_of_F (S := Kn w [(w.heap.size, N), (w.heap.size + 1, Z), (gR, X)]) (f := 1000) _ _ _ _ ?_
        refine tkG 0 (some 18) (.load 24 (.tmp 4)) none (.agg X) (fun o ho w2 hw => exec_load_of _ 24 (.tmp 4) ho ⟨gR, 0, none⟩ rfl _ (hw.load (gR) X (by simp) IX)) HD ?_
        simp only [Act.put, sT, sS, sZ]
        refine tkG 1 (some 19) (.load 24 (.tmp 4)) none (.agg X) (fun o ho w2 hw => exec_load_of _ 24 (.tmp 4) ho ⟨gR, 0, none⟩ rfl _ (hw.load (gR) X (by simp) IX)) HD ?_
        simp only [Act.put, sT, sS, sZ]
        refine tkG 3 (some 21) (.load 24 (.tmp 1)) none (.agg N) (fun o ho w2 hw => exec_load_of _ 24 (.tmp 1) ho ⟨w.heap.size, 0, none⟩ rfl _ (hw.load (w.heap.size) N (by simp) IN)) HD ?_
        simp only [Act.put, sT, sS, sZ]
        refine rdy [2] (rcl (some 20) 40 #[.tmp 18, .tmp 19] #[24, 24] #[.agg X, .agg X] enters40 _ (H6.out _) ?_ ReadyF.nil)
        rintro v wu1 ⟨he, hb⟩
        cases he
        have Hu2 := HD.below hb
        clear hb
        refine ⟨Hu2, ?_⟩
        simp only [Act.put, sT, sS, sZ]
        refine tkG 4 (some 22) (.binOp .neq 24 (.tmp 20) (.tmp 21) 24) none (.bool false) (fun o ho w2 hw => exec_neqL (.tmp 20) (.tmp 21) ho _ _ htm4 hN5 XX N hXX hN rfl rfl false hdc w2) Hu2 ?_
        simp only [Act.put, sT, sS, sZ]
        refine AnyF.done (by kernel_rfl) ?_ _
        refine nrm_intro ?_
        have hcell := (Hu2.cell gR X (by simp) 0).trans hc0
        go_wp2_with (first | (refine wpList_run rfl _ (exec_indexAddr24 (.tmp 4) (.const (.int .i64 0)) rfl gR 0 rfl rfl (by decide) _) ?_) | (refine wpList_run rfl _ (exec_load_one _ 22 (.tmp 24) rfl ⟨gR, 0, none⟩ rfl _ hcell _ Tryd.underlying22 rfl) ?_) | (refine wpList_run rfl _ (exec_rem2 (.tmp 25) rfl rfl d 0 hod2 rfl _) ?_) | (refine wpList_run rfl _ (exec_load_of _ 24 (.tmp 4) rfl ⟨gR, 0, none⟩ rfl (.agg X) ?L4) ?_) | (refine wpList_run0 rfl (exec_store_kn (w0 := w) (l := [(w.heap.size, N), (w.heap.size + 1, Z), (gR, X)]) _ Hu2 (.tmp 2) (.tmp 31) rfl (w.heap.size + 1) rfl X IX rfl Z IZ (by simp)) ?_))
        case L4 => exact Hu2.load gR X (by simp) IX
        have HSZ : Kn w [(w.heap.size + 1, X)] (World.setRow _ (w.heap.size + 1) X) := Hu2.set (w.heap.size + 1) X Z (Hu2.get (w.heap.size + 1) Z (by simp)) (by omega) (fun p hp => by simp at hp; subst hp; simp)
        refine bodyPost_ret (results_two rfl _ _ _ ⟨w.heap.size + 1, 0, none⟩ rfl _ (HSZ.load (w.heap.size + 1) X (by simp) IX)) rfl ⟨?_, HSZ.1⟩
        rw [hrf.out, ← hX.out]
        rfl
    · have hrf : Hid (rootF a = (0, false)) := by unfold Hid; rw [hRF.out, if_neg hc2]
      have hdc : decide (mulF (rootT a) (rootT a) = a % pp) = !true := by simp [hc2]
      clear hRF hc2
      refine wp_nrm ?_
      refine wp_region_any (by kernel_rfl) ?_
      change wpAny _ _ _ _ _ _ _ (World.drew _)
      have HD := HSc.out.drew
      generalize W4.drew = Wd at *
      refine any_of_F (S := Kn w [(w.heap.size, N), (w.heap.size + 1, Z), (gR, X)]) (f := 1000) _ _ _ _ ?_
      refine tkG 0 (some 18) (.load 24 (.tmp 4)) none (.agg X) (fun o ho w2 hw => exec_load_of _ 24 (.tmp 4) ho ⟨gR, 0, none⟩ rfl _ (hw.load (gR) X (by simp) IX)) HD ?_
      simp only [Act.put, sT, sS, sZ]
      refine tkG 1 (some 19) (.load 24 (.tmp 4)) none (.agg X) (fun o ho w2 hw => exec_load_of _ 24 (.tmp 4) ho ⟨gR, 0, none⟩ rfl _ (hw.load (gR) X (by simp) IX)) HD ?_
      simp only [Act.put, sT, sS, sZ]
      refine tkG 3 (some 21) (.load 24 (.tmp 1)) none (.agg N) (fun o ho w2 hw => exec_load_of _ 24 (.tmp 1) ho ⟨w.heap.size, 0, none⟩ rfl _ (hw.load (w.heap.size) N (by simp) IN)) HD ?_
      simp only [Act.put, sT, sS, sZ]
      refine rdy [2] (rcl (some 20) 40 #[.tmp 18, .tmp 19] #[24, 24] #[.agg X, .agg X] enters40 _ (H6.out _) ?_ ReadyF.nil)
      rintro v wu1 ⟨he, hb⟩
      cases he
      have Hu2 := HD.below hb
      clear hb
      refine ⟨Hu2, ?_⟩
      simp only [Act.put, sT, sS, sZ]
      refine tkG 4 (some 22) (.binOp .neq 24 (.tmp 20) (.tmp 21) 24) none (.bool true) (fun o ho w2 hw => exec_neqL (.tmp 20) (.tmp 21) ho _ _ htm4 hN5 XX N hXX hN rfl rfl true hdc w2) Hu2 ?_
      simp only [Act.put, sT, sS, sZ]
      refine AnyF.done (by kernel_rfl) ?_ _
      refine nrm_intro ?_
      go_wp2_with (first | (refine wpList_run rfl _ (exec_build0 rfl (.agg Z) (HB0.out _) _) ?_) | (refine wpList_run0 rfl (exec_store_kn (w0 := w) (l := [(w.heap.size, N), (w.heap.size + 1, Z), (gR, X)]) _ Hu2 (.tmp 2) (.tmp 23) rfl (w.heap.size + 1) rfl Z IZ rfl Z IZ (by simp)) ?_))
      have HSZ : Kn w [(w.heap.size + 1, Z)] (World.setRow _ (w.heap.size + 1) Z) := Hu2.set (w.heap.size + 1) Z Z (Hu2.get (w.heap.size + 1) Z (by simp)) (by omega) (fun p hp => by simp at hp; subst hp; simp)
      refine bodyPost_ret (results_two rfl _ _ _ ⟨w.heap.size + 1, 0, none⟩ rfl _ (HSZ.load (w.heap.size + 1) Z (by simp) IZ)) rfl ⟨?_, HSZ.1⟩
      rw [hrf.out, ← hZ.out]
      rfl
end Go.Proofs.YtgbliacncahooaaDoor
