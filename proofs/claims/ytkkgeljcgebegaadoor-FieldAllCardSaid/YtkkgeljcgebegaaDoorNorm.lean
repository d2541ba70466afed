/- Norm of package field: a number modulo the prime. No condition but that the number has 256 bits. -/
import Derived.Test.YtkkgeljcgebegaaDoorKnow
namespace Go.Proofs.YtkkgeljcgebegaaDoor
open Go.RowKit Go.Shelf
set_option linter.unusedVariables false
attribute [local go_sem] Oper.semAt_some
theorem enters32 : ∀ args w, (callFunc 32 args).run Tryd.prog w = .ok (.enter 32 args) w := enters_of Tryd.func32 (by kernel_rfl) rfl
theorem enters31 : ∀ args w, (callFunc 31 args).run Tryd.prog w = .ok (.enter 31 args) w := enters_of Tryd.func31 (by kernel_rfl) rfl
theorem top_shr (N : Nat) (hN : N < 115792089237316195423570985008687907853269984665640564039457584007913129639936) : ((dig N 3 : Nat) : Int) / 9223372036854775808 = ((N / 57896044618658097711785492504343953926634992332820282019728792003956564819968 : Nat) : Int) := by
  rw [dig_3]; omega
set_option maxRecDepth 100000 in
set_option maxHeartbeats 1000000 in
theorem norm_any (N : Nat) (hN : N < 115792089237316195423570985008687907853269984665640564039457584007913129639936) (w : World) :
    Calls Tryd.prog 11 #[.agg (num N)] w fun e w' => e = .returned (.agg (num (N % pp))) ∧ Below w.heap.size w w' := by
  have hpp : pp = 57896044618658097711785492504343953926634992332820282019728792003956564819949 := rfl
  have hsh := top_shr N hN
  have hA3 := num_get N 3 (by decide)
  obtain ⟨q, hq⟩ : ∃ q, q = N / 57896044618658097711785492504343953926634992332820282019728792003956564819968 := ⟨_, rfl⟩
  have hq1 : q ≤ 1 := by omega
  rw [← hq] at hsh
  have HC1 := Lib.hid (cut_any N hN)
  have HP1 := Lib.hid (plus_any (N % 57896044618658097711785492504343953926634992332820282019728792003956564819968) 19 q (by omega) (by decide) (by omega))
  obtain ⟨D, hD⟩ : ∃ D, D = N % 57896044618658097711785492504343953926634992332820282019728792003956564819968 + 19 * q := ⟨_, rfl⟩
  have hDl : D < 115792089237316195423570985008687907853269984665640564039457584007913129639936 := by omega
  rw [← hD, Nat.mod_eq_of_lt hDl, Nat.div_eq_of_lt hDl] at HP1
  have HP2 := Lib.hid (plus_any D 19 1 hDl (by decide) (by decide))
  obtain ⟨U, hU⟩ : ∃ U, U = D + 19 * 1 := ⟨_, rfl⟩
  have hUl : U < 115792089237316195423570985008687907853269984665640564039457584007913129639936 := by omega
  rw [← hU, Nat.mod_eq_of_lt hUl, Nat.div_eq_of_lt hUl] at HP2
  have HC2 := Lib.hid (cut_any U hUl)
  have hsh2 := top_shr U hUl
  have hU3 := num_get U 3 (by decide)
  have hres : (U / 57896044618658097711785492504343953926634992332820282019728792003956564819968 = 1 ∧ U % 57896044618658097711785492504343953926634992332820282019728792003956564819968 = N % pp) ∨ (U / 57896044618658097711785492504343953926634992332820282019728792003956564819968 = 0 ∧ D = N % pp) := by
    rw [hpp]
    by_cases hc : 57896044618658097711785492504343953926634992332820282019728792003956564819968 ≤ U
    · refine .inl ⟨by omega, ?_⟩
      rcases (show q = 0 ∨ q = 1 by omega) with h | h <;> subst h <;> omega
    · refine .inr ⟨by omega, ?_⟩
      rcases (show q = 0 ∨ q = 1 by omega) with h | h <;> subst h <;> omega
  have IA := isNum N
  have IC := isNum (N % 57896044618658097711785492504343953926634992332820282019728792003956564819968)
  have ID := isNum D
  have IU := isNum U
  have IZ := isNum 0
  have IR := isNum (N % pp)
  have I19 := isNum 19
  have hdl := dig_lt N 3
  have hUd := dig_lt U 3
  have hb19 := build_run 19 (by decide)
  have HRES : Hid ((U / 57896044618658097711785492504343953926634992332820282019728792003956564819968 = 1 ∧ num (U % 57896044618658097711785492504343953926634992332820282019728792003956564819968) = num (N % pp)) ∨ (U / 57896044618658097711785492504343953926634992332820282019728792003956564819968 = 0 ∧ num D = num (N % pp))) := by
    rcases hres with ⟨h1, h2⟩ | ⟨h1, h2⟩
    · exact Lib.hid (.inl ⟨h1, by rw [h2]⟩)
    · exact Lib.hid (.inr ⟨h1, by rw [h2]⟩)
  clear hres hD hU hDl hUl hq hN hpp
  generalize dig N 3 = d3 at *
  generalize dig U 3 = u3 at *
  generalize num (U % 57896044618658097711785492504343953926634992332820282019728792003956564819968) = E at *
  generalize U / 57896044618658097711785492504343953926634992332820282019728792003956564819968 = qu at *
  generalize num (N % 57896044618658097711785492504343953926634992332820282019728792003956564819968) = C at *
  generalize num (N % pp) = R at *
  generalize num N = A at *
  generalize num D = D' at *
  generalize num U = U' at *
  generalize num 19 = T at *
  have HZ := zero_run
  have hz4 : ∀ W : World, Kn W [(W.heap.size, A), (W.heap.size + 1, num 0)] ((W.alloc (.cells A 24)).alloc (.cells (num 0) 24)) := by
    intro W
    have h := ((Kn.nil W).new A).new (num 0)
    rw [World.size_alloc] at h
    exact h.sub (fun p hp => by simp at hp ⊢; rcases hp with h | h <;> simp [h])
  generalize num 0 = Z at *
  go_enter Tryd.func11, Tryd.ntmps11
  go_wp2_with (refine wpList_run rfl _ (exec_alloc_agg _ 24 rfl _ (HZ _)) ?_)
  simp only [World.size_alloc]
  have HS := hz4 w
  clear hz4
  generalize (w.alloc (.cells A 24)).alloc (.cells Z 24) = W0 at *
  refine wp_region_any (by kernel_rfl) ?_
  change wpAny _ _ _ _ _ _ _ (World.drew _)
  have HS0 := HS.drew
  refine any_of_F (S := Kn w [(w.heap.size, A), (w.heap.size + 1, Z)]) (f := 10) _ _ _ _ ?_
  refine AnyF.take 0 (some 6) (.load 24 (.tmp 1)) (.agg A) rfl (by kernel_rfl) (by kernel_rfl) (by kernel_rfl) (fun _ _ _ h => h) rfl (by kernel_rfl) (fun o ho w2 hw => exec_load_of _ 24 (.tmp 1) ho ⟨w.heap.size, 0, none⟩ rfl _ (hw.load (w.heap.size) A (by simp) IA)) HS0 ?_
  simp only [Act.put, List.setIfInBounds_toArray, List.set_cons_succ, List.set_cons_zero]
  refine AnyF.take 2 (some 8) (.build 24 #[(0, .const (.int .u64 19))]) (.agg T) rfl (by kernel_rfl) (by kernel_rfl) (by kernel_rfl) (fun _ _ _ h => h) rfl (by kernel_rfl) (fun o ho w2 hw => exec_build1 w2 24 0 (.const (.int .u64 19)) ho _ rfl _ (hb19 w2)) HS0 ?_
  simp only [Act.put, List.setIfInBounds_toArray, List.set_cons_succ, List.set_cons_zero]
  refine AnyF.take 3 (some 9) (.indexAddr 24 (.tmp 1) (.const (.int .i64 3))) (.pointer (some ⟨w.heap.size, 3, none⟩)) rfl (by kernel_rfl) (by kernel_rfl) (by kernel_rfl) (fun _ _ _ h => h) rfl (by kernel_rfl) (fun o ho w2 hw => exec_indexAddr24 (.tmp 1) (.const (.int .i64 3)) ho (w.heap.size) 3 rfl rfl (by decide) w2) HS0 ?_
  simp only [Act.put, List.setIfInBounds_toArray, List.set_cons_succ, List.set_cons_zero]
  refine AnyF.take 4 (some 10) (.load 22 (.tmp 9)) (.int .u64 (d3 : Int)) rfl (by kernel_rfl) (by kernel_rfl) (by kernel_rfl) (fun _ _ _ h => h) rfl (by kernel_rfl) (fun o ho w2 hw => exec_load_one w2 22 (.tmp 9) ho ⟨w.heap.size, 3, none⟩ rfl _ ((hw.cell (w.heap.size) A (by simp) 3).trans hA3) _ Tryd.underlying22 rfl) HS0 ?_
  simp only [Act.put, List.setIfInBounds_toArray, List.set_cons_succ, List.set_cons_zero]
  refine AnyF.take 5 (some 11) (.binOp .shr 22 (.tmp 10) (.const (.int .u64 63)) 45) (.int .u64 (q : Int)) rfl (by kernel_rfl) (by kernel_rfl) (by kernel_rfl) (fun _ _ _ h => h) rfl (by kernel_rfl) (fun o ho w2 hw => by unfold execOp; rw [ho]; go_simp) HS0 ?_
  simp only [Act.put, List.setIfInBounds_toArray, List.set_cons_succ, List.set_cons_zero]
  refine AnyF.ready (rs := [1]) (by kernel_rfl) (by simp) (ReadyF.call (some 7) 32 #[.tmp 6] #[24] rfl #[.agg A] (by simp [Act.eval]) enters32 _ (HC1.out _) ?_ (fun c w' h => by cases h.1) (fun w' h => by cases h.1) ReadyF.nil)
  rintro v w1 ⟨he, hb⟩
  cases he
  have HS1 := HS0.below hb
  clear hb
  refine ⟨HS1, ?_⟩
  simp only [Act.put, List.setIfInBounds_toArray, List.set_cons_succ, List.set_cons_zero]
  refine AnyF.ready (rs := [6]) (by kernel_rfl) (by simp) (ReadyF.call (some 12) 31 #[.tmp 7, .tmp 8, .tmp 11] #[24, 24, 22] rfl #[.agg C, .agg T, .int .u64 (q : Int)] (by simp [Act.eval]) enters31 _ (HP1.out _) ?_ (fun c w' h => by cases h.1) (fun w' h => by cases h.1) ReadyF.nil)
  rintro v w2 ⟨he, hb⟩
  cases he
  have HS2 := HS1.below hb
  clear hb
  refine ⟨HS2, ?_⟩
  simp only [Act.put, List.setIfInBounds_toArray, List.set_cons_succ, List.set_cons_zero]
  refine AnyF.take 7 (some 5) (.move (.tmp 12)) ((.tuple #[.agg D', .int .u64 ((0 : Nat) : Int)])) rfl (by kernel_rfl) (by kernel_rfl) (by kernel_rfl) (fun _ _ _ h => h) rfl (by kernel_rfl) (fun o ho w2 hw => exec_move (.tmp 12) ho _ rfl w2) HS2 ?_
  simp only [Act.put, List.setIfInBounds_toArray, List.set_cons_succ, List.set_cons_zero]
  refine AnyF.take 8 (some 13) (.extract (.tmp 5) 0) (.agg D') rfl (by kernel_rfl) (by kernel_rfl) (by kernel_rfl) (fun _ _ _ h => h) rfl (by kernel_rfl) (fun o ho w2 hw => exec_extract (.tmp 5) 0 ho _ _ rfl rfl w2) HS2 ?_
  simp only [Act.put, List.setIfInBounds_toArray, List.set_cons_succ, List.set_cons_zero]
  refine AnyF.take0 9 1000 (some 14) (.extract (.tmp 5) 1) (.int .u64 ((0 : Nat) : Int)) rfl (by kernel_rfl) (by kernel_rfl) (by kernel_rfl) (fun _ _ _ h => h) rfl (by kernel_rfl) (fun o ho w2 => exec_extract (.tmp 5) 1 ho _ _ rfl rfl w2) HS2 ?_
  simp only [Act.put, List.setIfInBounds_toArray, List.set_cons_succ, List.set_cons_zero]
  refine AnyF.ready (rs := [10]) (by kernel_rfl) (by simp) (ReadyF.last (.store 24 (.tmp 1) (.tmp 13)) rfl (fun o ho => exec_store_kn w2 HS2 (.tmp 1) (.tmp 13) ho (w.heap.size) rfl D' ID rfl A IA (by simp)) ?_ ReadyF.nil)
  refine any_doneF (by kernel_rfl) ?_ _
  have HS3 : Kn w [(w.heap.size, D'), (w.heap.size + 1, Z)] (w2.setRow (w.heap.size) D') := HS2.set (w.heap.size) D' A (HS2.get (w.heap.size) A (by simp)) (Nat.le_refl _) (fun p hp => by simp at hp; rcases hp with rfl | rfl <;> simp)
  clear HS HS0 HS1 HS2
  generalize w2.setRow (w.heap.size) D' = w3 at *
  have hld : Hid (∀ W, Kn w [(w.heap.size, D'), (w.heap.size + 1, Z)] W → (loadVar 24 ⟨w.heap.size, 0, none⟩).run Tryd.prog W = .ok (.agg D') W) := fun W h => h.load (w.heap.size) D' (by simp) ID
  go_wp2_with (first | (refine wpList_run rfl _ (exec_load_of _ 24 (.tmp 1) rfl ⟨w.heap.size, 0, none⟩ rfl _ (hld.out _ HS3)) ?_) | (refine wpList_run rfl _ (exec_build1 _ 24 0 (.const (.int .u64 19)) rfl _ rfl _ (hb19 _)) ?_))
  refine (HP2.out _).mono ?_
  rintro e w4 ⟨rfl, hb⟩
  have HS4 := HS3.below hb
  clear hb HS3
  have IZ2 := IZ.size
  have HN4 := HS4.alloc (.cells U' 24)
  have HLU : (loadVar 24 ⟨w4.heap.size, 0, none⟩).run Tryd.prog (w4.alloc (.cells U' 24)) = .ok (.agg U') (w4.alloc (.cells U' 24)) := loadA IU (heap_alloc_new w4 _)
  have HLUH := Lib.hid HLU
  clear HLU
  rcases HRES.out with ⟨rfl, hE⟩ | ⟨rfl, hE⟩
  · have hsh3 : (u3 : Int) / 9223372036854775808 = 1 := by simpa using hsh2
    have hEH := Lib.hid hE
    clear hsh2 hE HRES
    go_wp2_with (first | (refine wpList_run rfl _ (exec_alloc_agg _ 24 rfl _ (HZ _)) ?_) | (refine wpList_run0 rfl (exec_new24 _ (.tmp 3) (.tmp 19) rfl _ _ rfl _ IU rfl IZ2) ?_) | (refine wpList_run rfl _ (exec_load_of _ 24 (.tmp 3) rfl ⟨w4.heap.size, 0, none⟩ rfl _ HLUH.out) ?_))
    refine (HC2.out _).mono ?_
    rintro e w5 ⟨rfl, hb⟩
    have HS5 : Kn w [(w.heap.size, D'), (w.heap.size + 1, Z)] w5 := HN4.below hb
    clear hb HN4 HLUH HS4
    go_wp2_with (refine wpList_run0 rfl (exec_store_kn _ HS5 (.tmp 2) (.tmp 26) rfl (w.heap.size + 1) rfl E (by rw [hEH.out]; exact IR) rfl Z IZ (by simp)) ?_)
    have HS6 : Kn w [(w.heap.size + 1, E)] (w5.setRow (w.heap.size + 1) E) := HS5.set (w.heap.size + 1) E Z (HS5.get (w.heap.size + 1) Z (by simp)) (by omega) (fun p hp => by simp at hp; subst hp; simp)
    refine bodyPost_ret (results_cell rfl _ _ _ ⟨w.heap.size + 1, 0, none⟩ rfl _ (HS6.load (w.heap.size + 1) E (by simp) (by rw [hEH.out]; exact IR))) rfl ⟨by rw [hEH.out], HS6.1⟩
  · have hsh3 : (u3 : Int) / 9223372036854775808 = 0 := by simpa using hsh2
    have hEH := Lib.hid hE
    clear hsh2 hE HRES
    go_wp2_with (first | (refine wpList_run rfl _ (exec_alloc_agg _ 24 rfl _ (HZ _)) ?_) | (refine wpList_run0 rfl (exec_new24 _ (.tmp 3) (.tmp 19) rfl _ _ rfl _ IU rfl IZ2) ?_) | (refine wpList_run rfl _ (exec_load_of _ 24 (.tmp 1) rfl ⟨w.heap.size, 0, none⟩ rfl _ (hld.out _ HN4)) ?_) |
      (refine wpList_run0 rfl (exec_store_kn _ HN4 (.tmp 2) (.tmp 27) rfl (w.heap.size + 1) rfl D' ID rfl Z IZ (by simp)) ?_))
    have HS6 : Kn w [(w.heap.size + 1, D')] ((w4.alloc (.cells U' 24)).setRow (w.heap.size + 1) D') := HN4.set (w.heap.size + 1) D' Z (HN4.get (w.heap.size + 1) Z (by simp)) (by omega) (fun p hp => by simp at hp; subst hp; simp)
    refine bodyPost_ret (results_cell rfl _ _ _ ⟨w.heap.size + 1, 0, none⟩ rfl _ (HS6.load (w.heap.size + 1) D' (by simp) ID)) rfl ⟨by rw [hEH.out], HS6.1⟩
end Go.Proofs.YtkkgeljcgebegaaDoor
